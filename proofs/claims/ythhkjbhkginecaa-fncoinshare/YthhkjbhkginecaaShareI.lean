/-
  CoinShare, the program's.
-/
import Derived.Test.YthhkjbhkginecaaPart
import Derived.Test.YthhkjbhkginecaaDeal
namespace Go.Proofs.Ythhkjbhkginecaa.Share
set_option linter.unusedVariables false
open Go.RowKit Ints Go.Sort Go.Shelf Coin

theorem fitD {a b : Int} (ha : 0 ≤ a) (ha' : a ≤ 1000000000000000) (hb : 0 ≤ b) (hb' : b ≤ 1000000) (h : a * b ≤ 1000000000000000) : fitB a b = true := by
  have h1 : okB a = true := okB_true (by omega)
  have h2 : okB b = true := okB_true (by omega)
  have h3 : sz a = a := by unfold sz; omega
  have h4 : sz b = b := by unfold sz; omega
  unfold fitB; rw [h1, h2, h3, h4]
  simpa using h

theorem divD (T x S : Int) (w : World) (h0 : 0 ≤ T) (h1 : T ≤ 1000000000000000) (hx : 0 ≤ x) (hx' : x ≤ 1000000) (hxs : x ≤ S) (hs : 1 ≤ S) (hs' : S ≤ 16000000) :
    Calls Try.prog 30 #[.int .i64 T, .int .i64 x, .int .i64 S, .func (.func 31) #[] #[]] w fun e w' => e = .returned (.tuple #[.int .i64 (ptV T S x), .int .i64 (rsV T S x), .bool true]) ∧ ∃ k, w' = w.drewN k := by
  obtain ⟨b1, b2, b3, b4, b5, b6, b7, b8, b9, b10, b11, b12⟩ := ptBd h0 h1 hx hx' hxs hs hs'
  have hf := fitD b1 b2 hx hx' (by omega)
  have hp : okB (T / S * x + T % S * x / S) = true := okB_true (by omega)
  have s0 : ¬ S = 0 := by omega
  unfold ptV rsV
  clear hxs
  go_enter Try.func30, Try.ntmps30
  go_wp2_with (first | (go_at_call 48; refine (timesM_yes _ _ _ hf).mono ?_; rintro e w' ⟨rfl, rfl⟩))
  go_quiet ((go_at_call 31; exact Calls.quiet_of_same (rndDM _ _ _ _)))
  go_wp2_with (first | (go_at_call 49; refine (okM _ _).mono ?_; rintro e w' ⟨rfl, rfl⟩))
  go_quiet (fail)
  go_wp2
  go_ret3
  exact ⟨rfl, _, World.drewN_drewN _ _ _⟩

theorem shareI_no (v : Value) (ws : List Int) (T : Int) (w : World) (h : IR w v ws) (hn : wgtB ws = false ∨ T < 0 ∨ 1000000000000000 < T) :
    Calls Try.prog 9 #[.int .i64 T, v] w fun e w' => e = .returned (.tuple #[.slice none 0 0, .bool false]) ∧ w' = w := by
  have hw := wgtI v ws w h
  obtain ⟨a, c, rfl⟩ := slice_form h
  have hl := h.len
  clear h
  rcases no_of hn with h1 | ⟨h1, h2⟩ | ⟨h1, h2, h3⟩
  · rw [h1] at hw
    generalize wgtV ws = V at *
    go_enter Try.func9, Try.ntmps9
    go_wp2_with (first | (go_at_call 29; refine hw.mono ?_; rintro e w' ⟨rfl, rfl⟩))
    go_ret2
    exact ⟨rfl, rfl⟩
  · rw [h1] at hw
    generalize wgtV ws = V at *
    go_enter Try.func9, Try.ntmps9
    go_wp2_with (first | (go_at_call 29; refine hw.mono ?_; rintro e w' ⟨rfl, rfl⟩))
    go_ret2
    exact ⟨rfl, rfl⟩
  · rw [h1] at hw
    generalize wgtV ws = V at *
    go_enter Try.func9, Try.ntmps9
    go_wp2_with (first | (go_at_call 29; refine hw.mono ?_; rintro e w' ⟨rfl, rfl⟩))
    go_ret2
    exact ⟨rfl, rfl⟩

theorem infoSh : (Try.prog.info? 61).map (fun i => (i.zero, i.size, i.bytes)) = some (some (.agg #[.int .i64 0, .int .i64 0, .int .i64 0]), 3, 24) := by kernel_rfl

end Go.Proofs.Ythhkjbhkginecaa.Share
