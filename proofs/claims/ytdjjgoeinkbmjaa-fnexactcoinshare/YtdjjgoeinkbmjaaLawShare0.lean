/-
  What the law on CoinShare leans on: the copy of an argument, and both answers as one.
-/
import Derived.Test.YtdjjgoeinkbmjaaShareI2
namespace Go.Proofs.Ytdjjgoeinkbmjaa.Share
set_option linter.unusedVariables false
open Go.RowKit Ints

/-- a slice that is read alone -/
def Rd (W : World) (a : Option Addr) (n : Nat) (l : List Int) : Prop := l.length = n ∧ n ≤ 1048576 ∧ (n = 0 ∨ ∃ b o, a = some ⟨b, o, none⟩ ∧ b < W.heap.size ∧ ∀ i, i < n → W.cell? ⟨b, o + i, none⟩ = some (.int .i64 (l.getD i 0)))

theorem Rd.kept {W W' : World} {a : Option Addr} {n : Nat} {l : List Int} (h : Rd W a n l) (hb : Below W.heap.size W W') : Rd W' a n l := by
  refine ⟨h.1, h.2.1, ?_⟩
  rcases h.2.2 with h | ⟨b, o, rfl, h1, h2⟩
  · exact .inl h
  · exact .inr ⟨b, o, rfl, Nat.lt_of_lt_of_le h1 hb.size, fun i hi => by rw [hb.cell (p := ⟨b, o + i, none⟩) h1]; exact h2 i hi⟩

set_option maxHeartbeats 800000 in
theorem toInt0 (a : Option Addr) (c : Nat) (w : World) :
    Calls Try.prog 11 #[.slice a 0 c] w fun e w' => ∃ v', e = .returned v' ∧ IR w' v' [] ∧ (v'.ownBlock = some w.heap.size) ∧ Below w.heap.size w w' := by
  have hmk0 : ∀ w : World, (Instr.makeSlice 22 (.int .i64 0) (.int .i64 0)).run Try.prog w = .ok (.slice (some ⟨w.heap.size, 0, none⟩) 0 0) (w.alloc (.cells #[] 3)) := fun w => by kernel_rfl
  go_enter Try.func11, Try.ntmps11
  go_wp2
  refine wp_loop_rounds 1 ?_
  rw [rounds_succ]
  go_wp2
  go_ret
  exact ⟨_, rfl, .inr ⟨w.heap.size, 0, 0, rfl, by simp, by simp, fun i hi => by simp at hi⟩, rfl, (Below.refl _ _).alloc (Nat.le_refl _) _⟩

set_option maxHeartbeats 800000 in
theorem toInt (a : Option Addr) (n c : Nat) (l : List Int) (w : World) (h : Rd w a n l) :
    Calls Try.prog 11 #[.slice a n c] w fun e w' => ∃ v', e = .returned v' ∧ IR w' v' l ∧ (v'.ownBlock = some w.heap.size) ∧ Below w.heap.size w w' := by
  obtain ⟨h1, h2, h3⟩ := h
  subst h1
  by_cases h0 : l.length = 0
  · obtain rfl : l = [] := List.length_eq_zero_iff.1 h0
    exact toInt0 a c w
  · obtain ⟨b, o, rfl, hbs, hc⟩ := h3.resolve_left h0
    have hmk := run_make_row' (P := Try.prog) 22 3 (.int .i64 0) 8 Try.underlying22 info rfl .i64 .i64 l.length (by omega) (by omega)
    have H3 := hide hc; clear hc h3
    go_enter Try.func11, Try.ntmps11
    go_wp2
    go_loopw [4] (fun i wr => ∃ k : Nat, k ≤ l.length ∧ i = .int .i64 k ∧ Hid (Cells wr w.heap.size 0 (l.take k ++ List.replicate (l.length - k) 0)) ∧ Below w.heap.size w wr) (fun i _ => l.length - (intOf i).toNat)
    case atStart => exact ⟨0, Nat.zero_le _, rfl, by show Cells _ _ _ _; simpa using Cells.made w l.length _, (Below.refl _ _).alloc (Nat.le_refl _) _⟩
    case round =>
      obtain ⟨k, hk, rfl, hd, hb⟩ := hrel
      by_cases hlt : k < l.length
      · have hc := unhide H3 k hlt
        have hk2 : k < (l.take k ++ List.replicate (l.length - k) 0).length := by simp; omega
        obtain ⟨hu, hf⟩ := (unhide hd).2 k hk2
        rw [Nat.zero_add] at hu hf
        have hc' : wr.cell? ⟨b, o + k, none⟩ = some (.int .i64 (l.getD k 0)) := by rw [hb.cell (p := ⟨b, o + k, none⟩) hbs]; exact hc
        have hx := (unhide hd).set hk2 (l.getD k 0)
        rw [Nat.zero_add, copy_step l k hlt] at hx
        have HX := hide hx
        clear hc hx hk2
        generalize l.getD k 0 = x at *
        generalize (l.take k ++ List.replicate (l.length - k) 0).getD k 0 = y at *
        go_wp2
        exact ⟨⟨k + 1, by omega, by go_num, HX, hb.setCell (Nat.le_refl _) _⟩, by simp [intOf]; omega⟩
      · obtain rfl : k = l.length := by omega
        go_wp2
        go_ret
        refine ⟨_, rfl, .inr ⟨w.heap.size, 0, l.length, rfl, h2, ?_⟩, rfl, hb⟩
        have := unhide hd
        simpa using this

/-- what both answer -/
def okS (T : Int) (ws : List Int) : Bool := wgtB ws && decide (0 ≤ T ∧ T ≤ 1000000000000000)
def outS (T : Int) (ws : List Int) : List Int := if okS T ws = true then shareV T ws else []

theorem share_len (T : Int) (ws : List Int) : (shareV T ws).length = ws.length := by simp [shareV]

/-- where the answer lies: nowhere, or in a block that is new -/
def NewIn (B : Nat) (v : Value) : Prop := v.ownBlock = none ∨ ∃ g, v.ownBlock = some g ∧ B ≤ g

theorem answer {P : Program} {f : FuncId} {v : Value} {ws : List Int} {T : Int} {w : World} (hl : ws.length ≤ 1048576)
    (hno : (wgtB ws = false ∨ T < 0 ∨ 1000000000000000 < T) → Calls P f #[.int .i64 T, v] w fun e w' => e = .returned (.tuple #[.slice none 0 0, .bool false]) ∧ w' = w)
    (hyes : wgtB ws = true → 0 ≤ T → T ≤ 1000000000000000 → Calls P f #[.int .i64 T, v] w fun e w' => ∃ g c, e = .returned (.tuple #[.slice (some ⟨g, 0, none⟩) ws.length c, .bool true]) ∧ Cells w' g 0 (shareV T ws) ∧ w.heap.size ≤ g ∧ Below w.heap.size w w') :
    Calls P f #[.int .i64 T, v] w fun e w' => ∃ u, e = .returned (.tuple #[u, .bool (okS T ws)]) ∧ IR w' u (outS T ws) ∧ NewIn w.heap.size u ∧ Below w.heap.size w w' := by
  by_cases h : wgtB ws = true ∧ 0 ≤ T ∧ T ≤ 1000000000000000
  · have e : okS T ws = true := by simp [okS, h]
    refine (hyes h.1 h.2.1 h.2.2).mono ?_
    rintro e' w' ⟨g, c, rfl, h1, h2, h3⟩
    refine ⟨_, by rw [e], ?_, .inr ⟨g, rfl, h2⟩, h3⟩
    unfold outS; rw [if_pos e]
    exact .inr ⟨g, 0, c, by rw [share_len], by rw [share_len]; exact hl, h1⟩
  · have h' : wgtB ws = false ∨ T < 0 ∨ 1000000000000000 < T := by
      cases hb : wgtB ws
      · exact .inl rfl
      · right
        rw [hb] at h
        simp only [true_and] at h
        omega
    have e : okS T ws = false := by
      unfold okS
      rcases h' with h' | h'
      · rw [h']; rfl
      · have : decide (0 ≤ T ∧ T ≤ 1000000000000000) = false := by simp; omega
        rw [this, Bool.and_false]
    refine (hno h').mono ?_
    rintro e' w' ⟨rfl, rfl⟩
    refine ⟨_, by rw [e], ?_, .inl rfl, Below.refl _ _⟩
    unfold outS; rw [e]
    exact .inl ⟨rfl, rfl⟩

theorem ansS (v : Value) (ws : List Int) (T : Int) (w : World) (h : IR w v ws) :
    Calls Try.prog 10 #[.int .i64 T, v] w fun e w' => ∃ u, e = .returned (.tuple #[u, .bool (okS T ws)]) ∧ IR w' u (outS T ws) ∧ NewIn w.heap.size u ∧ Below w.heap.size w w' :=
  answer h.len (fun hn => shareS_no v ws T w h hn) (fun h1 h2 h3 => shareS_yes v ws T w h h1 h2 h3)

theorem ansI (v : Value) (ws : List Int) (T : Int) (w : World) (h : IR w v ws) :
    Calls Try.prog 12 #[.int .i64 T, v] w fun e w' => ∃ u, e = .returned (.tuple #[u, .bool (okS T ws)]) ∧ IR w' u (outS T ws) ∧ NewIn w.heap.size u ∧ Below w.heap.size w w' :=
  answer h.len (fun hn => shareI_no v ws T w h hn) (fun h1 h2 h3 => shareI_yes v ws T w h h1 h2 h3)
end Go.Proofs.Ytdjjgoeinkbmjaa.Share
