/-
  Lists of events that are right: impl.rightInOrder at events, and impl.UseOk.
-/
import Derived.Test.YthhkjbhkginecaaEvOk
import Derived.Test.YthhkjbhkginecaaRegIn
namespace Go.Proofs.Ythhkjbhkginecaa.Evs
set_option linter.unusedVariables false
open Go.RowKit RegIn

theorem bad_next {l : List E} {k : Nat} (h : ∀ j, j < k → badAt l j = false) (hk : badAt l k = false) : ∀ j, j < k + 1 → badAt l j = false := fun j hj => by
  by_cases e : j < k
  · exact h j e
  · obtain rfl : j = k := by omega
    exact hk

theorem calledI (s m : ByteArray) (q : Int) (W : World) : Calls Try.prog 44 #[.agg #[.string s, .string m, .int .i64 q]] W fun x w' => x = .returned (.string s) ∧ Below W.heap.size W w' := by
  go_enter Try.func44, Try.ntmps44
  go_wp2
  go_ret
  exact ⟨rfl, (Below.refl _ _).alloc (Nat.le_refl _) _⟩

/-- the worlds of a round: the round's own event at B, the one ahead of it at p in block b -/
def SW (w : World) (B b p : Nat) (s m : ByteArray) (q : Int) (t m' : ByteArray) (q' : Int) (w2 : World) : Prop :=
  w2.cell? ⟨B, 0, none⟩ = some (.string s) ∧ w2.cell? ⟨B, 1, none⟩ = some (.string m) ∧ w2.cell? ⟨B, 2, none⟩ = some (.int .i64 q) ∧ w2.cell? ⟨b, p, none⟩ = some (.string t) ∧ w2.cell? ⟨b, p + 1, none⟩ = some (.string m') ∧ w2.cell? ⟨b, p + 2, none⟩ = some (.int .i64 q') ∧ B < w2.heap.size ∧ b < w2.heap.size ∧ Below w.heap.size w w2
theorem SW.kept {w : World} {B b p : Nat} {s m : ByteArray} {q : Int} {t m' : ByteArray} {q' : Int} {w2 w3 : World} (h : SW w B b p s m q t m' q' w2) (hb : Below w2.heap.size w2 w3) : SW w B b p s m q t m' q' w3 := by
  obtain ⟨a1, a2, a3, a4, a5, a6, a7, a8, a9⟩ := h
  exact ⟨(hb.cell (p := ⟨B, 0, none⟩) a7).trans a1, (hb.cell (p := ⟨B, 1, none⟩) a7).trans a2, (hb.cell (p := ⟨B, 2, none⟩) a7).trans a3, (hb.cell (p := ⟨b, p, none⟩) a8).trans a4, (hb.cell (p := ⟨b, p + 1, none⟩) a8).trans a5, (hb.cell (p := ⟨b, p + 2, none⟩) a8).trans a6, Nat.lt_of_lt_of_le a7 hb.size, Nat.lt_of_lt_of_le a8 hb.size, below_trans a9 hb⟩

set_option maxHeartbeats 2000000 in
/-- impl.rightInOrder at events -/
theorem ordI (v : Value) (l : List E) (w : World) (h : ER w v l) (hl : l.length ≤ 1048576) (hs : ∀ u ∈ l, u.1.size ≤ maxLen ∧ u.2.1.size ≤ maxLen) :
    Calls Try.prog 42 #[v, .int .i64 20, .func (.func 43) #[] #[], .func (.func 44) #[] #[]] w fun e w' => e = .returned (.bool (okB l)) ∧ Below w.heap.size w w' := by
  by_cases h20 : 20 < l.length
  · rw [okB_long h20]
    obtain ⟨a, c, rfl⟩ := h.slice
    have y : (20 : Int) < l.length := by omega
    clear h
    go_enter Try.func42, Try.ntmps42
    go_wp2
    go_ret
    exact ⟨rfl, Below.refl _ _⟩
  have y : (l.length : Int) ≤ 20 := by omega
  rcases h with ⟨rfl, a, c, rfl⟩ | ⟨b, o, cap, rfl, hc⟩
  · go_enter Try.func42, Try.ntmps42
    go_wp2
    refine wp_loop_rounds 1 ?_
    rw [rounds_succ]
    go_wp2
    go_ret
    exact ⟨rfl, Below.refl _ _⟩
  · have HC := hide hc
    have hbs := hc.1
    clear hc
    generalize hr : okB l = r
    have HR := hide hr; clear hr
    go_enter Try.func42, Try.ntmps42
    go_wp2
    go_loopw [17] (fun i wr => ∃ k : Nat, k ≤ l.length ∧ i = .int .i64 k ∧ Hid (∀ j, j < k → badAt l j = false) ∧ Hid (Below w.heap.size w wr)) (fun i _ => l.length - (intOf i).toNat)
    case atStart => exact ⟨0, Nat.zero_le _, rfl, hide (fun j hj => by omega), hide (Below.refl _ _)⟩
    case round =>
      obtain ⟨k, hk, rfl, hd, hb⟩ := hrel
      by_cases hlt : k < l.length
      · obtain ⟨c0, c1, c2⟩ := ((unhide HC).kept (unhide hb)).2 k hlt
        obtain ⟨hsz, hmz⟩ : (l.getD k E0).1.size ≤ maxLen ∧ (l.getD k E0).2.1.size ≤ maxLen := hs _ (by simp [List.getD, hlt])
        have i1 : (0 : Int) ≤ (k : Int) := by omega
        have i2 : (k : Int) < (l.length : Int) := by omega
        have z1 : b < wr.heap.size := Nat.lt_of_lt_of_le hbs (unhide hb).size
        have HBA : Hid (badAt l k = (!rightE (l.getD k E0) || (decide (0 < k) && !ltS (l.getD (k - 1) E0).1 (l.getD k E0).1))) := hide rfl
        have k1 : k - 1 < l.length := by omega
        obtain ⟨p0, p1, p2⟩ := ((unhide HC).kept (unhide hb)).2 (k - 1) k1
        generalize hx : l.getD k E0 = x at *
        generalize hp : l.getD (k - 1) E0 = y' at *
        clear hx hp
        obtain ⟨s, m, q⟩ := x
        obtain ⟨t, m', q'⟩ := y'
        simp only at c0 c1 c2 p0 p1 p2 hsz hmz HBA
        have HCA : Hid (∀ W : World, Calls Try.prog 43 #[.agg #[.string s, .string m, .int .i64 q]] W fun x w' => x = .returned (.bool (rightE (s, m, q))) ∧ Below W.heap.size W w') := hide (fun W => rightI (s, m, q) W hsz hmz)
        generalize hR : rightE (s, m, q) = rt at *
        clear hR
        generalize hS : SW w wr.heap.size b (o + (k - 1) * 3) s m q t m' q' = S
        have HSI : Hid (∀ w2 : World, SW w wr.heap.size b (o + (k - 1) * 3) s m q t m' q' w2 → S w2) := hide (fun w2 h => by rw [← hS]; exact h)
        have HSE : Hid (∀ w2 : World, S w2 → SW w wr.heap.size b (o + (k - 1) * 3) s m q t m' q' w2) := hide (fun w2 h => by rw [← hS] at h; exact h)
        clear hS
        have g0 : ∀ g : In S, g.x.cell? ⟨wr.heap.size, 0, none⟩ = some (.string s) := fun g => (unhide HSE _ g.h).1
        have g1 : ∀ g : In S, g.x.cell? ⟨wr.heap.size, 1, none⟩ = some (.string m) := fun g => (unhide HSE _ g.h).2.1
        have g2 : ∀ g : In S, g.x.cell? ⟨wr.heap.size, 2, none⟩ = some (.int .i64 q) := fun g => (unhide HSE _ g.h).2.2.1
        have g3 : ∀ g : In S, g.x.cell? ⟨b, o + (k - 1) * 3, none⟩ = some (.string t) := fun g => (unhide HSE _ g.h).2.2.2.1
        have g4 : ∀ g : In S, g.x.cell? ⟨b, o + (k - 1) * 3 + 1, none⟩ = some (.string m') := fun g => (unhide HSE _ g.h).2.2.2.2.1
        have g5 : ∀ g : In S, g.x.cell? ⟨b, o + (k - 1) * 3 + 2, none⟩ = some (.int .i64 q') := fun g => (unhide HSE _ g.h).2.2.2.2.2.1
        have HCB : Hid (∀ g : In S, Calls Try.prog 43 #[.agg #[.string s, .string m, .int .i64 q]] g.x fun x w' => x = .returned (.bool rt) ∧ S w') := hide (fun g => (unhide HCA g.x).mono (fun x w' ⟨hx, hb⟩ => ⟨hx, unhide HSI _ ((unhide HSE _ g.h).kept hb)⟩))
        have HCC : Hid (∀ (s m : ByteArray) (q : Int) (g : In S), Calls Try.prog 44 #[.agg #[.string s, .string m, .int .i64 q]] g.x fun x w' => x = .returned (.string s) ∧ S w') := hide (fun s m q g => (calledI s m q g.x).mono (fun x w' ⟨hx, hb⟩ => ⟨hx, unhide HSI _ ((unhide HSE _ g.h).kept hb)⟩))
        clear HCA
        cases rt with
        | false =>
          have hr : r = false := (unhide HR).symm.trans (okB_bad hlt ((unhide HBA).trans (by simp)))
          subst hr
          go_wp2
          refine wp_region_in S (by kernel_rfl) (by kernel_rfl) (unhide HSI _ ⟨?_, ?_, ?_, ?_, ?_, ?_, ?_, ?_, ?_⟩) ?_
          · go_keep
          · go_keep
          · go_keep
          · go_keep
          · go_keep
          · go_keep
          · simp
          · simp; omega
          · exact below_drewN' ((unhide hb).alloc (unhide hb).size _) 1
          intro hne
          repeat (go_big_quiet_step (first | exact call_in _ (unhide HCB _) | exact call_in _ (unhide HCC _ _ _ _)))
          refine wpQuiet_nil ?_
          rintro _ ⟨g, rfl⟩
          have HG := hide (unhide HSE _ g.h).2.2.2.2.2.2.2.2
          go_wp2
          go_ret
          exact ⟨rfl, unhide HG⟩
        | true =>
          by_cases k0 : k = 0
          · have hd' : Hid (∀ j, j < k + 1 → badAt l j = false) := hide (bad_next (unhide hd) ((unhide HBA).trans (by simp [k0])))
            have kn : decide (0 < k) = false := by simp [k0]
            clear k0
            go_wp2
            refine wp_region_in S (by kernel_rfl) (by kernel_rfl) (unhide HSI _ ⟨?_, ?_, ?_, ?_, ?_, ?_, ?_, ?_, ?_⟩) ?_
            · go_keep
            · go_keep
            · go_keep
            · go_keep
            · go_keep
            · go_keep
            · simp
            · simp; omega
            · exact below_drewN' ((unhide hb).alloc (unhide hb).size _) 1
            intro hne
            repeat (go_big_quiet_step (first | exact call_in _ (unhide HCB _) | exact call_in _ (unhide HCC _ _ _ _)))
            refine wpQuiet_nil ?_
            rintro _ ⟨g, rfl⟩
            have HG := hide (unhide HSE _ g.h).2.2.2.2.2.2.2.2
            go_wp2
            exact ⟨⟨k + 1, by omega, by go_num, hd', HG⟩, by simp [intOf]; omega⟩
          · have kn : 0 < k := by omega
            have kk : (0 : Int) < (k : Int) := by omega
            have j1 : (0 : Int) ≤ (k : Int) - 1 := by omega
            have j2 : (k : Int) - 1 < (l.length : Int) := by omega
            have hwr : IntKind.i64.wrap ((k : Int) - 1) = (k : Int) - 1 := IntWalk.i64_in _ ⟨by omega, by omega⟩
            have htn : ((k : Int) - 1).toNat = k - 1 := by omega
            cases hlx : ltS t s with
            | false =>
              have hr : r = false := (unhide HR).symm.trans (okB_bad hlt ((unhide HBA).trans (by simp [kn, hlx])))
              subst hr
              go_wp2
              refine wp_region_in S (by kernel_rfl) (by kernel_rfl) (unhide HSI _ ⟨?_, ?_, ?_, ?_, ?_, ?_, ?_, ?_, ?_⟩) ?_
              · go_keep
              · go_keep
              · go_keep
              · go_keep
              · go_keep
              · go_keep
              · simp
              · simp; omega
              · exact below_drewN' ((unhide hb).alloc (unhide hb).size _) 1
              intro hne
              repeat (go_big_quiet_step (first | exact call_in _ (unhide HCB _) | exact call_in _ (unhide HCC _ _ _ _)))
              refine wpQuiet_nil ?_
              rintro _ ⟨g, rfl⟩
              have HG := hide (unhide HSE _ g.h).2.2.2.2.2.2.2.2
              go_wp2
              go_ret
              exact ⟨rfl, unhide HG⟩
            | true =>
              have hd' : Hid (∀ j, j < k + 1 → badAt l j = false) := hide (bad_next (unhide hd) ((unhide HBA).trans (by simp [kn, hlx])))
              go_wp2
              refine wp_region_in S (by kernel_rfl) (by kernel_rfl) (unhide HSI _ ⟨?_, ?_, ?_, ?_, ?_, ?_, ?_, ?_, ?_⟩) ?_
              · go_keep
              · go_keep
              · go_keep
              · go_keep
              · go_keep
              · go_keep
              · simp
              · simp; omega
              · exact below_drewN' ((unhide hb).alloc (unhide hb).size _) 1
              intro hne
              repeat (go_big_quiet_step (first | exact call_in _ (unhide HCB _) | exact call_in _ (unhide HCC _ _ _ _)))
              refine wpQuiet_nil ?_
              rintro _ ⟨g, rfl⟩
              have HG := hide (unhide HSE _ g.h).2.2.2.2.2.2.2.2
              go_wp2
              exact ⟨⟨k + 1, by omega, by go_num, hd', HG⟩, by simp [intOf]; omega⟩
      · have hr : r = true := (unhide HR).symm.trans (okB_true (by omega) (fun j hj => unhide hd j (by omega)))
        subst hr
        go_wp2
        go_ret
        exact ⟨rfl, unhide hb⟩

/-- impl.UseOk -/
theorem okI (v : Value) (l : List E) (w : World) (h : ER w v l) (hl : l.length ≤ 1048576) (hs : ∀ u ∈ l, u.1.size ≤ maxLen ∧ u.2.1.size ≤ maxLen) :
    Calls Try.prog 15 #[v] w fun e w' => e = .returned (.bool (okB l)) ∧ Below w.heap.size w w' := by
  have HO := hide (ordI v l w h hl hs)
  generalize okB l = z at HO ⊢
  clear h hs
  go_enter Try.func15, Try.ntmps15
  go_wp2_with (fail)
  refine (unhide HO).mono ?_
  rintro e w' ⟨rfl, hb⟩
  go_wp2
  go_ret
  exact ⟨rfl, hb⟩
end Go.Proofs.Ythhkjbhkginecaa.Evs
