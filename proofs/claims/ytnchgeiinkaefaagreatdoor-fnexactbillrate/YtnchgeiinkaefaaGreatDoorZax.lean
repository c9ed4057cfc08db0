/-
  Texts of this proof laid together, in build order; each says of itself what it holds.
-/
import Derived.Test.YtnchgeiinkaefaaGreatDoorZam
import Derived.Test.YtnchgeiinkaefaaGreatDoorZaw
import Derived.Maps.OwnIn
import Derived.Test.YtnchgeiinkaefaaGreatDoorZau
import Derived.Test.YtnchgeiinkaefaaGreatDoorZav
import Derived.Test.YtnchgeiinkaefaaGreatDoorProg
import Derived.WalkKit
import Derived.WalkLawsBesides
import Derived.Below
import Derived.Deep.QuietTactic
import Derived.BigQuiet
import Derived.Deep.RegionHeld
import Derived.Deep.DeepMust
import Derived.Shelf.SlSortCmp.WholeK
import Derived.Ground.SlsfProg
section
/-
  A slice of uses of a call's own.
-/
namespace Go.Proofs.YtnchgeiinkaefaaGreatDoor.Sums
set_option linter.unusedVariables false
open Go.RowKit
open Uses (U U0 UOwn UC UR)

/-- the slice v holds the uses l in a block of its own, not below B -/
def UN (B : Nat) (W : World) (v : Value) (l : List U) : Prop :=
  (l = [] ∧ ∃ a c, v = .slice a 0 c) ∨ ∃ b cap, v = .slice (some ⟨b, 0, none⟩) l.length cap ∧ (B ≤ b ∧ l.length ≤ cap) ∧ UOwn W b l
theorem UN.ur {B : Nat} {W : World} {v : Value} {l : List U} (h : UN B W v l) : UR W v l := by
  rcases h with h | ⟨b, cap, rfl, _, hc⟩
  · exact .inl h
  · exact .inr ⟨b, 0, cap, rfl, hc.1⟩
theorem UN.kept {B : Nat} {W W' : World} {v : Value} {l : List U} (h : UN B W v l) (hb : Below W.heap.size W W') : UN B W' v l := by
  rcases h with h | ⟨b, cap, rfl, h1, hc⟩
  · exact .inl h
  · exact .inr ⟨b, cap, rfl, h1, hc.kept hb⟩

theorem UN.low {B B' : Nat} {W : World} {v : Value} {l : List U} (h : UN B W v l) (hb : B' ≤ B) : UN B' W v l := by
  rcases h with h | ⟨b, cap, rfl, h1, hc⟩
  · exact .inl h
  · exact .inr ⟨b, cap, rfl, ⟨Nat.le_trans hb h1.1, h1.2⟩, hc⟩
end Go.Proofs.YtnchgeiinkaefaaGreatDoor.Sums
end

section
/-
  impl.UseSums: what it answers.
-/
namespace Go.Proofs.YtnchgeiinkaefaaGreatDoor.Sums
set_option linter.unusedVariables false
open Go.RowKit Go.Maps MapM Go.Shelf
open Uses (U U0 UOwn UC UR)
open Evs (E E0 hide unhide RV law KpB below_trans below_grown grown_alloc ER EC KpB.grown)

attribute [local go_sem] Oper.semAt_some

theorem makeCU (n : Nat) (hn : n ≤ 1048576) (w : World) : (Instr.makeSlice 48 (.int .i64 0) (.int .i64 (n : Int))).run Tryz.prog w = .ok (.slice (some ⟨w.heap.size, 0, none⟩) 0 n) (w.alloc (.cells (madeCells #[.string ByteArray.empty, .int .i64 0] (n * 2)) 73)) := by
  obtain ⟨i, hi, h2⟩ := Option.map_eq_some_iff.1 Uses.infoU
  simp only [Prod.mk.injEq] at h2
  obtain ⟨hz, hs, hb⟩ := h2
  have := run_make (P := Tryz.prog) w 48 73 i _ Tryz.underlying48 hi hz .i64 .i64 0 n (by omega) (by omega) (by rw [hb]; omega) (by omega)
  have e : (Value.agg #[.string ByteArray.empty, .int .i64 0]).cells = #[.string ByteArray.empty, .int .i64 0] := rfl
  rw [hs, e] at this
  simpa using this
theorem len_runU {w : World} {b : Nat} {l : List U} (h : UM w b l) (ty : TypeId) : (Builtin.len_ #[116] ty #[.map (some b)]).run Tryz.prog w = .ok (.int .i64 (l.length : Int)) w := by
  have := World.ownsMap.len h Tryz.underlying116 ty
  rwa [size_DM] at this

theorem UOwn.keptR {W W' : World} {b : Nat} {L : List U} {row : Option Nat} (h : UOwn W b L) (hL : 0 < L.length) (hg : W.grownBy W' row) (hr : ∀ r, row = some r → ∃ o : Obj, W.heap[r]? = some o ∧ o.isCells = false) : UOwn W' b L := by
  obtain ⟨o, ho, hc⟩ := cells_of_cell (h.1.2 0 hL).1
  have hk := grownBy_keeps_cells hg hr ho hc
  refine ⟨⟨Nat.lt_of_lt_of_le h.1.1 hg.size, fun i hi => ?_⟩, fun j => ?_⟩
  · obtain ⟨c0, c1⟩ := h.1.2 i hi
    have key : ∀ o : Nat, W'.cell? ⟨b, o, none⟩ = W.cell? ⟨b, o, none⟩ := fun o => World.cell?_of_block hk
    exact ⟨(key _).trans c0, (key _).trans c1⟩
  · have key : W'.frozen? ⟨b, j, none⟩ = W.frozen? ⟨b, j, none⟩ := World.frozen?_of_block hk
    exact key.trans (h.2 j)
theorem UOwn.other {W : World} {b : Nat} {L : List U} (h : UOwn W b L) {j : Nat} (hj : b ≠ j) (o : Nat) (u : Value) : UOwn (W.setCell ⟨j, o, none⟩ u) b L := by
  have hne : ∀ o' : Nat, (⟨j, o, none⟩ : Addr) ≠ ⟨b, o', none⟩ := fun o' e => hj (by simp only [Addr.mk.injEq] at e; exact e.1.symm)
  refine ⟨⟨by simpa using h.1.1, fun i hi => ?_⟩, fun k => by simpa [World.frozen?_setCell] using h.2 k⟩
  obtain ⟨c0, c1⟩ := h.1.2 i hi
  exact ⟨(World.cell?_setCell_other _ _ _ _ (hne _)).trans c0, (World.cell?_setCell_other _ _ _ _ (hne _)).trans c1⟩

/-- the row while it is filled -/
def padU (n : Nat) (pre : List U) : List U := pre ++ List.replicate (n - pre.length) U0
theorem padU_len {n : Nat} {pre : List U} (h : pre.length ≤ n) : (padU n pre).length = n := by unfold padU; simp; omega
theorem padU_pos {n : Nat} (pre : List U) (h : 0 < n) : 0 < (padU n pre).length := by unfold padU; simp; omega
theorem padU_step {n : Nat} {pre : List U} (h : pre.length < n) (x : U) : (padU n pre).set pre.length x = padU n (pre ++ [x]) := by
  unfold padU
  have e : n - pre.length = (n - (pre.length + 1)) + 1 := by omega
  rw [e, List.replicate_succ, List.set_append_right _ _ (Nat.le_refl _), Nat.sub_self, List.set_cons_zero]
  simp
theorem padU_full {n : Nat} {pre : List U} (h : pre.length = n) : padU n pre = pre := by unfold padU; simp [h]

/-- one more, where there is room -/
theorem app_runU {W : World} {S n : Nat} {pre : List U} (s : ByteArray) (q : Int) (h : UOwn W S (padU n pre)) (hp : pre.length < n) (ty : TypeId) :
    (Builtin.append_ #[48, 48] ty #[.slice (some ⟨S, 0, none⟩) pre.length n, .slice (some ⟨W.heap.size, 0, none⟩) 1 1]).run Tryz.prog (W.alloc (.cells #[.string s, .int .i64 q] 73)) =
      .ok (.slice (some ⟨S, 0, none⟩) (pre.length + 1) n) (((W.alloc (.cells #[.string s, .int .i64 q] 73)).setCell ⟨S, pre.length * 2, none⟩ (.string s)).setCell ⟨S, pre.length * 2 + 1, none⟩ (.int .i64 q)) := by
  obtain ⟨i, hi, h2⟩ := Option.map_eq_some_iff.1 Uses.infoU
  simp only [Prod.mk.injEq] at h2
  obtain ⟨hz, hs, hb⟩ := h2
  have hk := h.kept ((Below.refl W.heap.size W).alloc (Nat.le_refl _) (.cells #[.string s, .int .i64 q] 73))
  have hlt : pre.length < (padU n pre).length := by rw [padU_len (by omega)]; exact hp
  obtain ⟨c0, c1⟩ := hk.1.2 pre.length hlt
  rw [Nat.zero_add] at c0 c1
  have e1 := (MapKept.heap_alloc W (.cells #[.string s, .int .i64 q] 73)).1
  have := run_append_room_cells (P := Tryz.prog) (W.alloc (.cells #[.string s, .int .i64 q] 73)) 48 ty 73 i Tryz.underlying48 hi S 0 pre.length n ⟨W.heap.size, 0, none⟩ 1 1 [.string s, .int .i64 q] (by rw [hs]; rfl)
    (World.news_of_block e1)
    (by simp [Value.oneCell']) (by omega)
    (fun j hj => by
      rw [hs]
      match j, hj with
      | 0, _ => simp [c0]
      | 1, _ => simp [c1]
      | j + 2, hj => simp only [List.length_cons, List.length_nil] at hj; omega)
    (fun j _ => hk.2 _)
  rw [hs, Nat.zero_add] at this
  exact this

/-- an append whose run is known, inside a fence -/
theorem wpListIn_appU {F : Fence} {nF : Nat} {w w' : World} {ops : Array Oper} {rest : List Oper} {o : Oper} {a : Act} {Q : Exit → Act → World → Prop} (hgd : o.guard = none) (s x : Operand) (t : TypeId)
    (ho : o.op = .call { callee := .builtin .append, args := #[s, x], argTypes := #[t, t] }) (sv xv v : Value) (hs : a.eval s = sv) (hx : a.eval x = xv) (hr : ∀ ty, (Builtin.append_ #[t, t] ty #[sv, xv]).run Tryz.prog w = .ok v w')
    (h : wpListIn F nF Tryz.prog ops Q rest (a.put o.dst v) w') : wpListIn F nF Tryz.prog ops Q (o :: rest) a w := Evs.wpListIn_app hgd s x t ho sv xv v hs hx hr h

set_option maxRecDepth 100000 in
set_option maxHeartbeats 4000000 in
theorem useSumsI (v : Value) (l : List E) (w : World) (h : ER w v l) (hl : l.length ≤ 1048576) (hs : ∀ u ∈ l, u.1.size ≤ maxLen ∧ u.2.1.size ≤ maxLen) :
    Calls Tryz.prog 43 #[v] w fun e w' => ∃ v', e = .returned v' ∧ UN w.heap.size w' v' (sumsO l) ∧ Below w.heap.size w w' := by
  have H := hide h
  have HS := hide hs
  obtain ⟨a, c, rfl⟩ := h.slice
  have hcase : l.length = 0 ∨ ∃ b o, a = some ⟨b, o, none⟩ ∧ EC w b o l := by
    rcases h with ⟨rfl, _⟩ | ⟨b, o, cap, hv, hc⟩
    · exact .inl rfl
    · simp only [Value.slice.injEq] at hv
      exact .inr ⟨b, o, hv.1, hc⟩
  clear h hs
  have hmm := @run_makeMap Tryz.prog
  cases hok : Evs.okB l with
  | false =>
    have e1 : sumsO l = [] := by unfold sumsO; rw [hok]; rfl
    rw [e1]
    clear hcase
    refine (callsIn_wide (n := 6)).1 ?_
    refine callsIn_of_wp_marks Tryz.func43 rfl trivial ?_ rfl
    simp only [Tryz.ntmps43, List.size_toArray, List.length_cons, List.length_nil, Nat.reduceAdd, Nat.reduceSub, Array.replicate_succ, Array.replicate_zero, List.push_toArray, List.append_toArray, List.nil_append, List.cons_append]
    gi_wp2_with (fail)
    refine ⟨trivial, (callsIn_wide.2 (Evs.okI _ l _ (unhide H) hl (unhide HS))).mono ?_⟩
    rintro e w3 ⟨rfl, hb3⟩
    rw [hok]
    have B3 := hide hb3
    clear hb3
    gi_wp2_with (fail)
    refine ⟨.slice none 0 0, ?_, _, rfl, .inl ⟨rfl, _, _, rfl⟩, unhide B3⟩
    simp [results, Tryz.results43, go_sem]
  | true =>
    have e1 : sumsO l = sums l := by unfold sumsO; rw [hok]; rfl
    rw [e1]
    clear e1
    have hl20 := Evs.okB_len hok
    have HQ := hide (sums_bound l (okB_qty hok))
    have HQ2 := hide (okB_qty hok)
    have HAs := hide (sums_asc l)
    have HLn := hide (sums_len l)
    have HSz := hide (sums_size l (fun u hu => (unhide HS u hu).2))
    rcases hcase with h0 | ⟨b, o, rfl, hc⟩
    all_goals (try (have HC := hide hc; clear hc))
    all_goals (try (have H0 := hide h0; clear h0))
    all_goals (refine (callsIn_wide (n := 6)).1 ?_)
    all_goals (refine callsIn_of_wp_marks Tryz.func43 rfl trivial ?_ rfl)
    all_goals (simp only [Tryz.ntmps43, List.size_toArray, List.length_cons, List.length_nil, Nat.reduceAdd, Nat.reduceSub, Array.replicate_succ, Array.replicate_zero, List.push_toArray, List.append_toArray, List.nil_append, List.cons_append])
    · gi_wp2_with (fail)
      refine ⟨trivial, (callsIn_wide.2 (Evs.okI _ l _ (unhide H) hl (unhide HS))).mono ?_⟩
      rintro e w1 ⟨rfl, hb1⟩
      rw [hok]
      have B1 := hide hb1
      have z1 := hb1.size
      clear hb1 hok
      gi_wp2_with (fail)
      gi_loopw [15] (fun i wr => ∃ k : Nat, k ≤ l.length ∧ i = .int .i64 k ∧ Hid (wr.ownsMap Tryz.prog 9 RV w1.heap.size k (DU (sums (l.take k)))) ∧ Hid (Below w1.heap.size w1 wr)) (fun i _ => l.length - (intOf i).toNat)
      case atStart => exact ⟨0, Nat.zero_le _, rfl, hide (World.ownsMap_made _ _ _ _), hide ((Below.refl _ _).alloc (Nat.le_refl _) _)⟩
      case round =>
        obtain ⟨k, hk, rfl, hm, hb⟩ := hrel
        by_cases hlt : k < l.length
        · exact absurd (unhide H0) (by omega)
        · obtain rfl : k = l.length := by omega
          have hsl := unhide HLn l.length (Nat.le_refl _)
          have HSA := hide (unhide HAs l.length (Nat.le_refl _))
          have HSZ := hide (unhide HSz l.length (Nat.le_refl _))
          rw [List.take_length] at hm hsl HSA HSZ
          have HM := hide (show UM wr w1.heap.size (sums l) from Evs.ownsMap_tight (unhide hm) (size_DM _ _ _))
          have HB := hide (below_trans (unhide B1) (unhide hb))
          have hMw := (unhide HM).lt
          clear hm hb
          generalize hSE : sums l = S at *
          have HSE := hide hSE
          clear hSE
          have hln := len_runU (unhide HM)
          have hmk := makeCU S.length (by omega)
          gi_wp2_with (fail)
          refine ⟨trivial, (ascI 5 _ _).mono ?_⟩
          rintro e w3 ⟨rfl, rfl⟩
          gi_wp2_with (fail)
          have n0 := UOwn.made wr S.length 73
          obtain ⟨X1, hX1⟩ : ∃ X1, wr.alloc (.cells (madeCells #[.string ByteArray.empty, .int .i64 0] (S.length * 2)) 73) = X1 := ⟨_, rfl⟩
          rw [hX1] at n0
          rw [hX1]
          have s1 : X1.heap.size = wr.heap.size + 1 := by rw [← hX1]; simp
          have k0 : Below wr.heap.size wr X1 := by rw [← hX1]; exact (Below.refl _ _).alloc (Nat.le_refl _) _
          have n1 := Evs.new1 X1 (.slice (some ⟨wr.heap.size, 0, none⟩) 0 S.length) 48
          have n2 := Evs.new1 (X1.alloc (.cells #[.slice (some ⟨wr.heap.size, 0, none⟩) 0 S.length] 48)) (.map (some w1.heap.size)) 116
          rw [World.size_alloc] at n2
          obtain ⟨W0, hW0⟩ : ∃ W0, (X1.alloc (.cells #[.slice (some ⟨wr.heap.size, 0, none⟩) 0 S.length] 48)).alloc (.cells #[.map (some w1.heap.size)] 116) = W0 := ⟨_, rfl⟩
          have k1 : Below X1.heap.size X1 W0 := by rw [← hW0]; exact ((Below.refl _ _).alloc (Nat.le_refl _) _).alloc (by simp) _
          have k2 : Below (X1.heap.size + 1) (X1.alloc (.cells #[.slice (some ⟨wr.heap.size, 0, none⟩) 0 S.length] 48)) W0 := by rw [← hW0]; exact (Below.refl _ _).alloc (by simp) _
          have hsz : W0.heap.size = wr.heap.size + 3 := by rw [← hW0]; simp; omega
          have d1 : W0.cell? ⟨wr.heap.size + 1, 0, none⟩ = some (.slice (some ⟨wr.heap.size, 0, none⟩) 0 S.length) := by rw [← s1]; exact (k2.cell (p := ⟨X1.heap.size, 0, none⟩) (by simp)).trans n1.1
          have e1 : W0.frozen? ⟨wr.heap.size + 1, 0, none⟩ = false := by rw [← s1]; exact (k2.frozen (p := ⟨X1.heap.size, 0, none⟩) (by simp)).trans n1.2
          have d2 : W0.cell? ⟨wr.heap.size + 2, 0, none⟩ = some (.map (some w1.heap.size)) := by rw [← hW0]; rw [s1] at n2; exact n2.1
          have hB0 : Below wr.heap.size wr W0 := below_trans k0 k1
          have r0 : UOwn W0 wr.heap.size (padU S.length []) := by
            have := n0.kept k1
            unfold padU
            simpa using this
          have HM0 := hide ((unhide HM).kept hB0)
          rw [hW0]
          clear n0 n1 n2 hX1 hW0 k0 k1 k2 s1 hln hmk
          refine wpIn_rangeFunc_ownH rfl (by omega) (gf := 99) (lb := #[.pointer (some ⟨wr.heap.size + 2, 0, none⟩)]) rfl trivial (enters_of Tryz.func99 (by kernel_rfl) rfl)
            (asc_stops 5 (by omega) (wr.heap.size + 2) wr.heap.size w1.heap.size S (unhide HSA) (by omega) (unhide HSZ) W0 hMw (Nat.le_refl _) (by omega) d2 (unhide HM0)) KpB.trans (KpB.put (n := W0.heap.size) (by omega)) (Below.refl _ _) (fun _ => rfl)
            (fun pre W => (W.cell? ⟨wr.heap.size + 1, 0, none⟩ = some (.slice (some ⟨wr.heap.size, 0, none⟩) pre.length S.length) ∧ W.frozen? ⟨wr.heap.size + 1, 0, none⟩ = false ∧ (0 < S.length → UOwn W wr.heap.size (padU S.length pre)) ∧ wr.heap.size + 3 ≤ W.heap.size) ∧ Below wr.heap.size wr W)
            (fun c pre W => False)
            (OwnFrom.and (Own.from (fun pre A B row hs hg hr => ⟨cell_kept hs.1 hg hr, (frozen_kept hs.1 hg hr).trans hs.2.1, fun h0 => UOwn.keptR (hs.2.2.1 h0) (padU_pos pre h0) hg hr, Nat.le_trans hs.2.2.2 hg.size⟩) _) (ownFrom_below (Nat.le_refl _) (by omega)))
            (fun c => fun _ _ _ _ h _ _ => h)
            ⟨⟨d1, e1, fun _ => r0, by omega⟩, hB0⟩
            (fun x a' W => a' = { tmps := #[.slice a l.length c, undef, .slice none 0 0, .map (some w1.heap.size), undef, u5, .pointer (some ⟨wr.heap.size + 1, 0, none⟩), .string x.1, .int .i64 x.2, .slice a l.length c, .bool true, .bool false, .map (some w1.heap.size), .slice a l.length c, .int .i64 l.length, .int .i64 l.length, .bool false, u17, u18, u19, u20, u21, u22, u23, u24, u25, u26, .map (some w1.heap.size), .int .i64 S.length, .slice (some ⟨wr.heap.size, 0, none⟩) 0 S.length, .map (some w1.heap.size), .func (.func 99) #[] #[.pointer (some ⟨wr.heap.size + 1 + 1, 0, none⟩)], .string x.1, .int .i64 x.2, undef, undef, undef, undef, undef, undef, undef], defers := [] })
            (fun x a' => Own.from (fun _ A B row hs hg hr => hs) _)
            ?assign ?body ?done ?stop
          case assign =>
            rintro lp pre ⟨s, q⟩ W K ⟨⟨h1, h2, h3, h4⟩, hB⟩ hK
            have HK := hide hK
            have H3 := hide h3
            clear hK h3
            gi_wp2
            exact unhide HK _ _ ((KeepsOthers.refl _).from _) (KpB.grown (World.grownBy.refl _ none) (.inl rfl)) ⟨⟨h1, h2, unhide H3, h4⟩, hB⟩ rfl
          case body =>
            rintro lp pre ⟨s, q⟩ a' W hlp hloop ⟨⟨h1, h2, h3, h4⟩, hB⟩ rfl hlen
            have hE := h3 (by omega)
            have HRUN := hide (fun ty => app_runU s q hE hlen ty)
            have hk1 := hE.kept ((Below.refl W.heap.size W).alloc (Nat.le_refl _) (.cells #[.string s, .int .i64 q] 73))
            have hk2 := hk1.set (k := pre.length) (by rw [padU_len (by omega)]; exact hlen) (s, q)
            rw [padU_step hlen, Nat.zero_add] at hk2
            have HE := hide hk2
            have HB' : Hid (Below wr.heap.size wr (((W.alloc (.cells #[.string s, .int .i64 q] 73)).setCell ⟨wr.heap.size, pre.length * 2, none⟩ (.string s)).setCell ⟨wr.heap.size, pre.length * 2 + 1, none⟩ (.int .i64 q))) := hide (((hB.alloc hB.size _).setCell (p := ⟨wr.heap.size, pre.length * 2, none⟩) (Nat.le_refl _) _).setCell (p := ⟨wr.heap.size, pre.length * 2 + 1, none⟩) (Nat.le_refl _) _)
            have HKO : Hid (KeepsOthers W (((W.alloc (.cells #[.string s, .int .i64 q] 73)).setCell ⟨wr.heap.size, pre.length * 2, none⟩ (.string s)).setCell ⟨wr.heap.size, pre.length * 2 + 1, none⟩ (.int .i64 q))) := hide (((KeepsOthers.alloc _ _).trans (KeepsOthers.setCell _ _ _)).trans (KeepsOthers.setCell _ _ _))
            have HKP : Hid (KpB wr.heap.size W (((W.alloc (.cells #[.string s, .int .i64 q] 73)).setCell ⟨wr.heap.size, pre.length * 2, none⟩ (.string s)).setCell ⟨wr.heap.size, pre.length * 2 + 1, none⟩ (.int .i64 q))) := hide (((KpB.grown (grown_alloc _ _) (.inl rfl)).trans (KpB.grown (Evs.set_grown _ _ _ _) (.inr (.inl rfl)))).trans (KpB.grown (Evs.set_grown _ _ _ _) (.inr (.inl rfl))))
            have g1 : (((W.alloc (.cells #[.string s, .int .i64 q] 73)).setCell ⟨wr.heap.size, pre.length * 2, none⟩ (.string s)).setCell ⟨wr.heap.size, pre.length * 2 + 1, none⟩ (.int .i64 q)).cell? ⟨wr.heap.size + 1, 0, none⟩ = some (.slice (some ⟨wr.heap.size, 0, none⟩) pre.length S.length) := by
              rw [World.cell?_setCell_other _ _ _ _ (by simp), World.cell?_setCell_other _ _ _ _ (by simp)]
              exact cell_kept h1 (grown_alloc _ _) (by simp)
            have g2 : (((W.alloc (.cells #[.string s, .int .i64 q] 73)).setCell ⟨wr.heap.size, pre.length * 2, none⟩ (.string s)).setCell ⟨wr.heap.size, pre.length * 2 + 1, none⟩ (.int .i64 q)).frozen? ⟨wr.heap.size + 1, 0, none⟩ = false := by
              rw [World.frozen?_setCell, World.frozen?_setCell]
              exact (frozen_kept h1 (grown_alloc _ _) (by simp)).trans h2
            have g3 : wr.heap.size + 3 ≤ (((W.alloc (.cells #[.string s, .int .i64 q] 73)).setCell ⟨wr.heap.size, pre.length * 2, none⟩ (.string s)).setCell ⟨wr.heap.size, pre.length * 2 + 1, none⟩ (.int .i64 q)).heap.size := by simp; omega
            generalize hX : (((W.alloc (.cells #[.string s, .int .i64 q] 73)).setCell ⟨wr.heap.size, pre.length * 2, none⟩ (.string s)).setCell ⟨wr.heap.size, pre.length * 2 + 1, none⟩ (.int .i64 q)) = X at *
            clear h3 hE hloop hlp hB hk1 hk2 hX
            gi_wp2_with (first | (gi_at_builtin; refine wpListIn_appU rfl _ _ 48 rfl _ _ _ rfl rfl (unhide HRUN) ?_) | gi_in)
            refine ⟨((unhide HKO).trans (KeepsOthers.setCell _ _ _)).from _, (unhide HKP).trans (KpB.grown (Evs.set_grown _ _ _ _) (.inr (.inr rfl))), ⟨?_, by rw [World.frozen?_setCell]; exact g2, fun _ => UOwn.other (unhide HE) (by omega) _ _, by simpa using g3⟩, (unhide HB').setCell (p := ⟨wr.heap.size + 1, 0, none⟩) (by simp) _⟩
            rw [World.cell?_setCell_same _ _ _ g1]
            simp
          case done =>
            rintro D ys W hD rfl ⟨⟨h1, h2, h3, h4⟩, hB⟩ hK
            have H3 := hide h3
            have HB2 := hide hB
            clear h3 hB
            gi_wp2_with (fail)
            refine ⟨by simp, .inl ⟨_, _, rfl, run_takeDeferred hK, ?_⟩⟩
            have hbw : Below wr.heap.size wr (W.putObj D (.deferred none)) := (unhide HB2).trans (belowK_b (w := wr) (Nat.le_refl _) W D _ _ (by omega) hK rfl rfl)
            refine ⟨.slice (some ⟨wr.heap.size, 0, none⟩) ys.length ys.length, ?_, _, rfl, ?_, below_trans (unhide HB) hbw⟩
            · simp [results, Tryz.results43, go_sem]
            · rw [unhide HSE]
              by_cases h0 : ys.length = 0
              · exact .inl ⟨List.length_eq_zero_iff.1 h0, _, _, by rw [h0]⟩
              · refine .inr ⟨wr.heap.size, ys.length, rfl, ⟨(unhide HB).size, Nat.le_refl _⟩, ?_⟩
                have hE := unhide H3 (by omega)
                rw [padU_full rfl] at hE
                exact UOwn.keptR hE (by omega) (grownBy_putObj' W D (.deferred none)) (fun r e => by cases e; exact ⟨_, hK, rfl⟩)
          case stop =>
            intro D c pre W _ _ h _
            exact h.elim
    · gi_wp2_with (fail)
      refine ⟨trivial, (callsIn_wide.2 (Evs.okI _ l _ (unhide H) hl (unhide HS))).mono ?_⟩
      rintro e w1 ⟨rfl, hb1⟩
      rw [hok]
      have B1 := hide hb1
      have z1 := hb1.size
      clear hb1 hok
      gi_wp2_with (fail)
      gi_loopw [15] (fun i wr => ∃ k : Nat, k ≤ l.length ∧ i = .int .i64 k ∧ Hid (wr.ownsMap Tryz.prog 9 RV w1.heap.size k (DU (sums (l.take k)))) ∧ Hid (Below w1.heap.size w1 wr)) (fun i _ => l.length - (intOf i).toNat)
      case atStart => exact ⟨0, Nat.zero_le _, rfl, hide (World.ownsMap_made _ _ _ _), hide ((Below.refl _ _).alloc (Nat.le_refl _) _)⟩
      case round =>
        obtain ⟨k, hk, rfl, hm, hb⟩ := hrel
        by_cases hlt : k < l.length
        · obtain ⟨c0, c1, c2⟩ := (((unhide HC).kept (unhide B1)).kept (unhide hb)).2 k hlt
          obtain ⟨_, hmz⟩ : (l.getD k E0).1.size ≤ maxLen ∧ (l.getD k E0).2.1.size ≤ maxLen := unhide HS _ (by simp [List.getD, hlt])
          obtain ⟨q0, q1⟩ : 0 ≤ (l.getD k E0).2.2 ∧ (l.getD k E0).2.2 ≤ 1000000000 := unhide HQ2 _ (by simp [List.getD, hlt])
          have HD := hide (put_DU (unhide HAs k hk) (l.getD k E0).2.1 (l.getD k E0).2.2)
          have HST := hide (sums_step hlt)
          obtain ⟨r0, r1⟩ := lk_bound (m := (l.getD k E0).2.1) (unhide HAs k hk) (by omega) (unhide HQ k hk)
          have i1 : (0 : Int) ≤ (k : Int) := by omega
          have i2 : (k : Int) < (l.length : Int) := by omega
          have hm1 := hide ((unhide hm).alloc (.cells #[.string (l.getD k E0).1, .string (l.getD k E0).2.1, .int .i64 (l.getD k E0).2.2] 59))
          have hlk := look1_run Tryz.underlying116 (unhide hm1) (unhide HAs k hk) hmz
          generalize l.getD k E0 = x at *
          obtain ⟨s, m, q⟩ := x
          simp only at c0 c1 c2 hmz hlk q0 q1 r0 r1
          generalize lkU (sums (l.take k)) m = r at *
          have hkey : keyOf Tryz.prog 9 (.string m) = some (.string m.data.toList) := WideMaps.keyOf_string_mk Tryz.underlying9 hmz
          gi_wp2_with (first | (gi_at_mapUpdate; refine wpListIn_mapUpdate_own _ rfl _ _ _ 116 rfl 9 3 law Tryz.underlying116 RV w1.heap.size k _ rfl (unhide hm1) (by unfold maxLen; omega) _ _ _ rfl rfl hkey _ [] rfl ?_; intro w2 hown2 hg2) | gi_in)
          refine ⟨⟨k + 1, by omega, by go_num, hide ?_, hide ?_⟩, by simp [intOf]; omega⟩
          · rw [unhide HST]
            have hd := unhide HD
            simp only at hd
            show w2.ownsMap _ _ _ _ _ (DM keyU valU (addU (sums (l.take k)) m q))
            rw [← hd]
            exact hown2
          · exact ((unhide hb).alloc (unhide hb).size _).grown hg2 ((unhide hb).alloc (unhide hb).size _).size (fun j hj => by cases hj; exact Nat.le_refl _)
        · obtain rfl : k = l.length := by omega
          have hsl := unhide HLn l.length (Nat.le_refl _)
          have HSA := hide (unhide HAs l.length (Nat.le_refl _))
          have HSZ := hide (unhide HSz l.length (Nat.le_refl _))
          rw [List.take_length] at hm hsl HSA HSZ
          have HM := hide (show UM wr w1.heap.size (sums l) from Evs.ownsMap_tight (unhide hm) (size_DM _ _ _))
          have HB := hide (below_trans (unhide B1) (unhide hb))
          have hMw := (unhide HM).lt
          clear hm hb
          generalize hSE : sums l = S at *
          have HSE := hide hSE
          clear hSE
          have hln := len_runU (unhide HM)
          have hmk := makeCU S.length (by omega)
          gi_wp2_with (fail)
          refine ⟨trivial, (ascI 5 _ _).mono ?_⟩
          rintro e w3 ⟨rfl, rfl⟩
          gi_wp2_with (fail)
          have n0 := UOwn.made wr S.length 73
          obtain ⟨X1, hX1⟩ : ∃ X1, wr.alloc (.cells (madeCells #[.string ByteArray.empty, .int .i64 0] (S.length * 2)) 73) = X1 := ⟨_, rfl⟩
          rw [hX1] at n0
          rw [hX1]
          have s1 : X1.heap.size = wr.heap.size + 1 := by rw [← hX1]; simp
          have k0 : Below wr.heap.size wr X1 := by rw [← hX1]; exact (Below.refl _ _).alloc (Nat.le_refl _) _
          have n1 := Evs.new1 X1 (.slice (some ⟨wr.heap.size, 0, none⟩) 0 S.length) 48
          have n2 := Evs.new1 (X1.alloc (.cells #[.slice (some ⟨wr.heap.size, 0, none⟩) 0 S.length] 48)) (.map (some w1.heap.size)) 116
          rw [World.size_alloc] at n2
          obtain ⟨W0, hW0⟩ : ∃ W0, (X1.alloc (.cells #[.slice (some ⟨wr.heap.size, 0, none⟩) 0 S.length] 48)).alloc (.cells #[.map (some w1.heap.size)] 116) = W0 := ⟨_, rfl⟩
          have k1 : Below X1.heap.size X1 W0 := by rw [← hW0]; exact ((Below.refl _ _).alloc (Nat.le_refl _) _).alloc (by simp) _
          have k2 : Below (X1.heap.size + 1) (X1.alloc (.cells #[.slice (some ⟨wr.heap.size, 0, none⟩) 0 S.length] 48)) W0 := by rw [← hW0]; exact (Below.refl _ _).alloc (by simp) _
          have hsz : W0.heap.size = wr.heap.size + 3 := by rw [← hW0]; simp; omega
          have d1 : W0.cell? ⟨wr.heap.size + 1, 0, none⟩ = some (.slice (some ⟨wr.heap.size, 0, none⟩) 0 S.length) := by rw [← s1]; exact (k2.cell (p := ⟨X1.heap.size, 0, none⟩) (by simp)).trans n1.1
          have e1 : W0.frozen? ⟨wr.heap.size + 1, 0, none⟩ = false := by rw [← s1]; exact (k2.frozen (p := ⟨X1.heap.size, 0, none⟩) (by simp)).trans n1.2
          have d2 : W0.cell? ⟨wr.heap.size + 2, 0, none⟩ = some (.map (some w1.heap.size)) := by rw [← hW0]; rw [s1] at n2; exact n2.1
          have hB0 : Below wr.heap.size wr W0 := below_trans k0 k1
          have r0 : UOwn W0 wr.heap.size (padU S.length []) := by
            have := n0.kept k1
            unfold padU
            simpa using this
          have HM0 := hide ((unhide HM).kept hB0)
          rw [hW0]
          clear n0 n1 n2 hX1 hW0 k0 k1 k2 s1 hln hmk
          refine wpIn_rangeFunc_ownH rfl (by omega) (gf := 99) (lb := #[.pointer (some ⟨wr.heap.size + 2, 0, none⟩)]) rfl trivial (enters_of Tryz.func99 (by kernel_rfl) rfl)
            (asc_stops 5 (by omega) (wr.heap.size + 2) wr.heap.size w1.heap.size S (unhide HSA) (by omega) (unhide HSZ) W0 hMw (Nat.le_refl _) (by omega) d2 (unhide HM0)) KpB.trans (KpB.put (n := W0.heap.size) (by omega)) (Below.refl _ _) (fun _ => rfl)
            (fun pre W => (W.cell? ⟨wr.heap.size + 1, 0, none⟩ = some (.slice (some ⟨wr.heap.size, 0, none⟩) pre.length S.length) ∧ W.frozen? ⟨wr.heap.size + 1, 0, none⟩ = false ∧ (0 < S.length → UOwn W wr.heap.size (padU S.length pre)) ∧ wr.heap.size + 3 ≤ W.heap.size) ∧ Below wr.heap.size wr W)
            (fun c pre W => False)
            (OwnFrom.and (Own.from (fun pre A B row hs hg hr => ⟨cell_kept hs.1 hg hr, (frozen_kept hs.1 hg hr).trans hs.2.1, fun h0 => UOwn.keptR (hs.2.2.1 h0) (padU_pos pre h0) hg hr, Nat.le_trans hs.2.2.2 hg.size⟩) _) (ownFrom_below (Nat.le_refl _) (by omega)))
            (fun c => fun _ _ _ _ h _ _ => h)
            ⟨⟨d1, e1, fun _ => r0, by omega⟩, hB0⟩
            (fun x a' W => a' = { tmps := #[.slice (some ⟨b, o, none⟩) l.length c, undef, .slice none 0 0, .map (some w1.heap.size), undef, u5, .pointer (some ⟨wr.heap.size + 1, 0, none⟩), .string x.1, .int .i64 x.2, .slice (some ⟨b, o, none⟩) l.length c, .bool true, .bool false, .map (some w1.heap.size), .slice (some ⟨b, o, none⟩) l.length c, .int .i64 l.length, .int .i64 l.length, .bool false, u17, u18, u19, u20, u21, u22, u23, u24, u25, u26, .map (some w1.heap.size), .int .i64 S.length, .slice (some ⟨wr.heap.size, 0, none⟩) 0 S.length, .map (some w1.heap.size), .func (.func 99) #[] #[.pointer (some ⟨wr.heap.size + 1 + 1, 0, none⟩)], .string x.1, .int .i64 x.2, undef, undef, undef, undef, undef, undef, undef], defers := [] })
            (fun x a' => Own.from (fun _ A B row hs hg hr => hs) _)
            ?assign ?body ?done ?stop
          case assign =>
            rintro lp pre ⟨s, q⟩ W K ⟨⟨h1, h2, h3, h4⟩, hB⟩ hK
            have HK := hide hK
            have H3 := hide h3
            clear hK h3
            gi_wp2
            exact unhide HK _ _ ((KeepsOthers.refl _).from _) (KpB.grown (World.grownBy.refl _ none) (.inl rfl)) ⟨⟨h1, h2, unhide H3, h4⟩, hB⟩ rfl
          case body =>
            rintro lp pre ⟨s, q⟩ a' W hlp hloop ⟨⟨h1, h2, h3, h4⟩, hB⟩ rfl hlen
            have hE := h3 (by omega)
            have HRUN := hide (fun ty => app_runU s q hE hlen ty)
            have hk1 := hE.kept ((Below.refl W.heap.size W).alloc (Nat.le_refl _) (.cells #[.string s, .int .i64 q] 73))
            have hk2 := hk1.set (k := pre.length) (by rw [padU_len (by omega)]; exact hlen) (s, q)
            rw [padU_step hlen, Nat.zero_add] at hk2
            have HE := hide hk2
            have HB' : Hid (Below wr.heap.size wr (((W.alloc (.cells #[.string s, .int .i64 q] 73)).setCell ⟨wr.heap.size, pre.length * 2, none⟩ (.string s)).setCell ⟨wr.heap.size, pre.length * 2 + 1, none⟩ (.int .i64 q))) := hide (((hB.alloc hB.size _).setCell (p := ⟨wr.heap.size, pre.length * 2, none⟩) (Nat.le_refl _) _).setCell (p := ⟨wr.heap.size, pre.length * 2 + 1, none⟩) (Nat.le_refl _) _)
            have HKO : Hid (KeepsOthers W (((W.alloc (.cells #[.string s, .int .i64 q] 73)).setCell ⟨wr.heap.size, pre.length * 2, none⟩ (.string s)).setCell ⟨wr.heap.size, pre.length * 2 + 1, none⟩ (.int .i64 q))) := hide (((KeepsOthers.alloc _ _).trans (KeepsOthers.setCell _ _ _)).trans (KeepsOthers.setCell _ _ _))
            have HKP : Hid (KpB wr.heap.size W (((W.alloc (.cells #[.string s, .int .i64 q] 73)).setCell ⟨wr.heap.size, pre.length * 2, none⟩ (.string s)).setCell ⟨wr.heap.size, pre.length * 2 + 1, none⟩ (.int .i64 q))) := hide (((KpB.grown (grown_alloc _ _) (.inl rfl)).trans (KpB.grown (Evs.set_grown _ _ _ _) (.inr (.inl rfl)))).trans (KpB.grown (Evs.set_grown _ _ _ _) (.inr (.inl rfl))))
            have g1 : (((W.alloc (.cells #[.string s, .int .i64 q] 73)).setCell ⟨wr.heap.size, pre.length * 2, none⟩ (.string s)).setCell ⟨wr.heap.size, pre.length * 2 + 1, none⟩ (.int .i64 q)).cell? ⟨wr.heap.size + 1, 0, none⟩ = some (.slice (some ⟨wr.heap.size, 0, none⟩) pre.length S.length) := by
              rw [World.cell?_setCell_other _ _ _ _ (by simp), World.cell?_setCell_other _ _ _ _ (by simp)]
              exact cell_kept h1 (grown_alloc _ _) (by simp)
            have g2 : (((W.alloc (.cells #[.string s, .int .i64 q] 73)).setCell ⟨wr.heap.size, pre.length * 2, none⟩ (.string s)).setCell ⟨wr.heap.size, pre.length * 2 + 1, none⟩ (.int .i64 q)).frozen? ⟨wr.heap.size + 1, 0, none⟩ = false := by
              rw [World.frozen?_setCell, World.frozen?_setCell]
              exact (frozen_kept h1 (grown_alloc _ _) (by simp)).trans h2
            have g3 : wr.heap.size + 3 ≤ (((W.alloc (.cells #[.string s, .int .i64 q] 73)).setCell ⟨wr.heap.size, pre.length * 2, none⟩ (.string s)).setCell ⟨wr.heap.size, pre.length * 2 + 1, none⟩ (.int .i64 q)).heap.size := by simp; omega
            generalize hX : (((W.alloc (.cells #[.string s, .int .i64 q] 73)).setCell ⟨wr.heap.size, pre.length * 2, none⟩ (.string s)).setCell ⟨wr.heap.size, pre.length * 2 + 1, none⟩ (.int .i64 q)) = X at *
            clear h3 hE hloop hlp hB hk1 hk2 hX
            gi_wp2_with (first | (gi_at_builtin; refine wpListIn_appU rfl _ _ 48 rfl _ _ _ rfl rfl (unhide HRUN) ?_) | gi_in)
            refine ⟨((unhide HKO).trans (KeepsOthers.setCell _ _ _)).from _, (unhide HKP).trans (KpB.grown (Evs.set_grown _ _ _ _) (.inr (.inr rfl))), ⟨?_, by rw [World.frozen?_setCell]; exact g2, fun _ => UOwn.other (unhide HE) (by omega) _ _, by simpa using g3⟩, (unhide HB').setCell (p := ⟨wr.heap.size + 1, 0, none⟩) (by simp) _⟩
            rw [World.cell?_setCell_same _ _ _ g1]
            simp
          case done =>
            rintro D ys W hD rfl ⟨⟨h1, h2, h3, h4⟩, hB⟩ hK
            have H3 := hide h3
            have HB2 := hide hB
            clear h3 hB
            gi_wp2_with (fail)
            refine ⟨by simp, .inl ⟨_, _, rfl, run_takeDeferred hK, ?_⟩⟩
            have hbw : Below wr.heap.size wr (W.putObj D (.deferred none)) := (unhide HB2).trans (belowK_b (w := wr) (Nat.le_refl _) W D _ _ (by omega) hK rfl rfl)
            refine ⟨.slice (some ⟨wr.heap.size, 0, none⟩) ys.length ys.length, ?_, _, rfl, ?_, below_trans (unhide HB) hbw⟩
            · simp [results, Tryz.results43, go_sem]
            · rw [unhide HSE]
              by_cases h0 : ys.length = 0
              · exact .inl ⟨List.length_eq_zero_iff.1 h0, _, _, by rw [h0]⟩
              · refine .inr ⟨wr.heap.size, ys.length, rfl, ⟨(unhide HB).size, Nat.le_refl _⟩, ?_⟩
                have hE := unhide H3 (by omega)
                rw [padU_full rfl] at hE
                exact UOwn.keptR hE (by omega) (grownBy_putObj' W D (.deferred none)) (fun r e => by cases e; exact ⟨_, hK, rfl⟩)
          case stop =>
            intro D c pre W _ _ h _
            exact h.elim
end Go.Proofs.YtnchgeiinkaefaaGreatDoor.Sums
end

section
/-
  impl.rateRows: what its first loop keeps, and one append.
-/
namespace Go.Proofs.YtnchgeiinkaefaaGreatDoor.Bill
set_option linter.unusedVariables false
open Go.RowKit Evs Go.Shelf
open Tax
open BRow (R R0 RC RR ROwn RN)

/-- the rows of what was yielded -/
def rowY (pre : List Y) : List R := pre.map fun x => (x.1, x.2.1, 0)
theorem rowY_len (pre : List Y) : (rowY pre).length = pre.length := by simp [rowY]
theorem rowY_snoc (pre : List Y) (x : Y) : rowY (pre ++ [x]) = rowY pre ++ [(x.1, x.2.1, 0)] := by simp [rowY]
theorem rowY_seq (us : List Uses.U) (t : List E) (n : Nat) : rowY (seqY us t n) = rowsN us t n := by
  unfold rowY seqY rowsN; rw [List.map_map]; rfl

/-- between two rounds of the first loop -/
def LI (w : World) (S n Z : Nat) (pre : List Y) (W : World) : Prop :=
  ((W.cell? ⟨w.heap.size, 0, none⟩ = some (.slice none 0 0) ∧ W.frozen? ⟨w.heap.size, 0, none⟩ = false) ∧ (W.cell? ⟨w.heap.size + 1, 0, none⟩ = some .nilIface ∧ W.frozen? ⟨w.heap.size + 1, 0, none⟩ = false) ∧
    (W.cell? ⟨S + 1, 0, none⟩ = some (.slice (some ⟨S, 0, none⟩) pre.length n) ∧ W.frozen? ⟨S + 1, 0, none⟩ = false) ∧ (0 < n → ROwn W S (padR n (rowY pre))) ∧ Z ≤ W.heap.size ∧ (∀ x ∈ pre, x.2.2 = true)) ∧ Below w.heap.size w W
/-- when it stopped -/
def LX (w : World) (c : Code) (pre : List Y) (W : World) : Prop :=
  (c = .ret ∧ (∃ x ∈ pre, x.2.2 = false) ∧ W.cell? ⟨w.heap.size, 0, none⟩ = some (.slice none 0 0) ∧ W.cell? ⟨w.heap.size + 1, 0, none⟩ = some (.iface 84 (.int .i64 6))) ∧ Below w.heap.size w W

theorem LI_own (w : World) (S n Z B : Nat) (hB : w.heap.size ≤ B) : OwnFrom B (LI w S n Z) :=
  OwnFrom.and (Own.from (fun pre A B row hs hg hr => ⟨⟨cell_kept hs.1.1 hg hr, (frozen_kept hs.1.1 hg hr).trans hs.1.2⟩, ⟨cell_kept hs.2.1.1 hg hr, (frozen_kept hs.2.1.1 hg hr).trans hs.2.1.2⟩, ⟨cell_kept hs.2.2.1.1 hg hr, (frozen_kept hs.2.2.1.1 hg hr).trans hs.2.2.1.2⟩, fun h0 => rown_keptR (hs.2.2.2.1 h0) (padR_pos _ h0) hg hr, Nat.le_trans hs.2.2.2.2.1 hg.size, hs.2.2.2.2.2⟩) _) (ownFrom_below (Nat.le_refl _) hB)
theorem LX_own (w : World) (c : Code) (B : Nat) (hB : w.heap.size ≤ B) : OwnFrom B (LX w c) :=
  OwnFrom.and (Own.from (fun pre A B row hs hg hr => ⟨hs.1, hs.2.1, cell_kept hs.2.2.1 hg hr, cell_kept hs.2.2.2 hg hr⟩) _) (ownFrom_below (Nat.le_refl _) hB)

theorem rown_other {W : World} {b : Nat} {l : List R} (h : ROwn W b l) {j : Nat} (hj : b ≠ j) (o : Nat) (u : Value) : ROwn (W.setCell ⟨j, o, none⟩ u) b l := rown_off h u (fun e => hj e.symm)

/-- the world behind an append -/
abbrev appW (W : World) (S k n : Nat) (s : ByteArray) (m : Int) : World :=
  ((((W.alloc (.cells #[.string s, .int .i64 m, .int .i64 0] 55)).setCell ⟨S, k * 3, none⟩ (.string s)).setCell ⟨S, k * 3 + 1, none⟩ (.int .i64 m)).setCell ⟨S, k * 3 + 2, none⟩ (.int .i64 0))

theorem app_LI {w W : World} {S n Z : Nat} {pre : List Y} (s : ByteArray) (m : Int) (hS : w.heap.size + 2 ≤ S) (hZ : S + 2 ≤ Z) (h : LI w S n Z pre W) (hlen : pre.length < n) :
    (∀ ty, (Builtin.append_ #[26, 26] ty #[.slice (some ⟨S, 0, none⟩) pre.length n, .slice (some ⟨W.heap.size, 0, none⟩) 1 1]).run Tryz.prog (W.alloc (.cells #[.string s, .int .i64 m, .int .i64 0] 55)) = .ok (.slice (some ⟨S, 0, none⟩) (pre.length + 1) n) (appW W S pre.length n s m)) ∧
    (appW W S pre.length n s m).cell? ⟨S + 1, 0, none⟩ = some (.slice (some ⟨S, 0, none⟩) pre.length n) ∧ (appW W S pre.length n s m).frozen? ⟨S + 1, 0, none⟩ = false ∧
    KeepsOthers W ((appW W S pre.length n s m).setCell ⟨S + 1, 0, none⟩ (.slice (some ⟨S, 0, none⟩) (pre.length + 1) n)) ∧
    KpC w.heap.size (S + 2) W ((appW W S pre.length n s m).setCell ⟨S + 1, 0, none⟩ (.slice (some ⟨S, 0, none⟩) (pre.length + 1) n)) ∧
    LI w S n Z (pre ++ [(s, m, true)]) ((appW W S pre.length n s m).setCell ⟨S + 1, 0, none⟩ (.slice (some ⟨S, 0, none⟩) (pre.length + 1) n)) := by
  obtain ⟨⟨⟨h4, f4⟩, ⟨h5, f5⟩, ⟨h6, f6⟩, h7, h8, h9⟩, hB⟩ := h
  have hE := h7 (by omega)
  have hl : (rowY pre).length < n := by rw [rowY_len]; exact hlen
  have hrun := fun ty => app_runR s m 0 hE hl ty
  rw [rowY_len] at hrun
  have hg0 := grown_alloc W (.cells #[.string s, .int .i64 m, .int .i64 0] 55)
  have hk1 := hE.kept ((Below.refl W.heap.size W).alloc (Nat.le_refl _) (.cells #[.string s, .int .i64 m, .int .i64 0] 55))
  have hk2 := hk1.set (k := pre.length) (by rw [padR_len (by omega)]; exact hlen) (s, m, 0)
  have hst := padR_step hl (s, m, 0)
  rw [rowY_len] at hst
  rw [hst, ← rowY_snoc pre (s, m, true)] at hk2
  rw [Nat.zero_add] at hk2
  have x6 : (appW W S pre.length n s m).cell? ⟨S + 1, 0, none⟩ = some (.slice (some ⟨S, 0, none⟩) pre.length n) := by
    rw [World.cell?_setCell_other _ _ _ _ (by simp), World.cell?_setCell_other _ _ _ _ (by simp), World.cell?_setCell_other _ _ _ _ (by simp)]
    exact cell_kept h6 hg0 (by simp)
  have y6 : (appW W S pre.length n s m).frozen? ⟨S + 1, 0, none⟩ = false := by
    rw [World.frozen?_setCell, World.frozen?_setCell, World.frozen?_setCell]
    exact (frozen_kept h6 hg0 (by simp)).trans f6
  have hlow : ∀ (j : Nat) (v : Value), j < S → W.cell? ⟨j, 0, none⟩ = some v → (appW W S pre.length n s m).cell? ⟨j, 0, none⟩ = some v := fun j v hj hc => by
    rw [World.cell?_setCell_other _ _ _ _ (by simp <;> omega), World.cell?_setCell_other _ _ _ _ (by simp <;> omega), World.cell?_setCell_other _ _ _ _ (by simp <;> omega)]
    exact cell_kept hc hg0 (by simp)
  have hlof : ∀ (j : Nat) (v : Value), W.cell? ⟨j, 0, none⟩ = some v → (appW W S pre.length n s m).frozen? ⟨j, 0, none⟩ = W.frozen? ⟨j, 0, none⟩ := fun j v hc => by
    rw [World.frozen?_setCell, World.frozen?_setCell, World.frozen?_setCell]
    exact frozen_kept hc hg0 (by simp)
  have hS' : w.heap.size ≤ S := by omega
  refine ⟨hrun, x6, y6, ?_, ?_, ⟨⟨?_, ?_⟩, ⟨?_, ?_⟩, ⟨?_, ?_⟩, fun _ => rown_other hk2 (by omega) _ _, ?_, ?_⟩, ?_⟩
  · exact (((((KeepsOthers.alloc _ _).trans (KeepsOthers.setCell _ _ _)).trans (KeepsOthers.setCell _ _ _)).trans (KeepsOthers.setCell _ _ _))).trans (KeepsOthers.setCell _ _ _)
  · refine ((((KpC.grown hg0 (by simp)).trans (KpC.grown (set_grown _ _ _ _) ?_)).trans (KpC.grown (set_grown _ _ _ _) ?_)).trans (KpC.grown (set_grown _ _ _ _) ?_)).trans (KpC.grown (set_grown _ _ _ _) ?_)
    all_goals (intro j e; simp only [Option.some.injEq] at e; omega)
  · rw [World.cell?_setCell_other _ _ _ _ (by simp <;> omega)]; exact hlow _ _ (by omega) h4
  · rw [World.frozen?_setCell]; exact (hlof _ _ h4).trans f4
  · rw [World.cell?_setCell_other _ _ _ _ (by simp <;> omega)]; exact hlow _ _ (by omega) h5
  · rw [World.frozen?_setCell]; exact (hlof _ _ h5).trans f5
  · rw [World.cell?_setCell_same _ _ _ x6]; simp
  · rw [World.frozen?_setCell]; exact y6
  · simp; omega
  · intro x hx
    rcases List.mem_append.1 hx with hx | hx
    · exact h9 x hx
    · rw [List.mem_singleton] at hx; rw [hx]
  · exact ((((hB.alloc hB.size _).setCell (p := ⟨S, pre.length * 3, none⟩) hS' _).setCell (p := ⟨S, pre.length * 3 + 1, none⟩) hS' _).setCell (p := ⟨S, pre.length * 3 + 2, none⟩) hS' _).setCell (p := ⟨S + 1, 0, none⟩) (by simp <;> omega) _
end Go.Proofs.YtnchgeiinkaefaaGreatDoor.Bill
end

section
/-
  The order of the shares (impl.greaterRest): the greater rest first, of equal ones the earlier place.
-/
namespace Go.Proofs.YtnchgeiinkaefaaGreatDoor.Share
set_option linter.unusedVariables false
open Go.RowKit Go.Sort

def cmpI (x y : Int) : Int := if x < y then -1 else if y < x then 1 else 0

theorem compare (x y : Int) (w : World) : Calls Tryz.prog 132 #[.int .i64 x, .int .i64 y] w fun e w' => e = .returned (.int .i64 (cmpI x y)) ∧ w' = w := by
  by_cases h1 : x < y
  · have e : cmpI x y = -1 := by simp [cmpI, h1]
    rw [e]
    go_enter Tryz.func132, Tryz.ntmps132
    go_wp2
    go_ret
    exact ⟨rfl, rfl⟩
  · by_cases h2 : y < x
    · have e : cmpI x y = 1 := by simp [cmpI, h1, h2]
      rw [e]
      go_enter Tryz.func132, Tryz.ntmps132
      go_wp2
      go_ret
      exact ⟨rfl, rfl⟩
    · have e : cmpI x y = 0 := by simp [cmpI, h1, h2]
      rw [e]
      go_enter Tryz.func132, Tryz.ntmps132
      go_wp2
      go_ret
      exact ⟨rfl, rfl⟩

def orI (x y : Int) : Int := if x = 0 then y else x

theorem orInt (x y : Int) (b : Nat) (w : World) (c0 : w.cell? ⟨b, 0, none⟩ = some (.int .i64 x)) (c1 : w.cell? ⟨b, 1, none⟩ = some (.int .i64 y)) :
    Calls Tryz.prog 131 #[.slice (some ⟨b, 0, none⟩) 2 2] w fun e w' => e = .returned (.int .i64 (orI x y)) ∧ w' = w := by
  by_cases hx : x = 0
  · have hx' : (x != 0) = false := by simpa using hx
    have e : orI x y = y := by simp [orI, hx]
    rw [e]
    clear e hx
    by_cases hy : y = 0
    · have hy' : (y != 0) = false := by simpa using hy
      subst hy
      go_enter Tryz.func131, Tryz.ntmps131
      go_wp2
      refine wp_loop_rounds 3 ?_
      rw [rounds_succ]
      go_wp2
      rw [rounds_succ]
      go_wp2
      rw [rounds_succ]
      go_wp2
      go_ret
      exact ⟨rfl, rfl⟩
    · have hy' : (y != 0) = true := by simpa using hy
      go_enter Tryz.func131, Tryz.ntmps131
      go_wp2
      refine wp_loop_rounds 3 ?_
      rw [rounds_succ]
      go_wp2
      rw [rounds_succ]
      go_wp2
      go_ret
      exact ⟨rfl, rfl⟩
  · have hx' : (x != 0) = true := by simpa using hx
    have e : orI x y = x := by simp [orI, hx]
    rw [e]
    clear e hx
    go_enter Tryz.func131, Tryz.ntmps131
    go_wp2
    refine wp_loop_rounds 3 ?_
    rw [rounds_succ]
    go_wp2
    go_ret
    exact ⟨rfl, rfl⟩

/-- a share: its place, its part, its rest -/
abbrev Sh : Type := Int × Int × Int
def encSh (x : Sh) : List Value := [.int .i64 x.1, .int .i64 x.2.1, .int .i64 x.2.2]
def cmpSh (x y : Sh) : Int := orI (cmpI y.2.2 x.2.2) (cmpI x.1 y.1)

theorem third (w : World) (o1 o2 : Obj) (C : Array Value) (t : TypeId) (j : Nat) : (((w.alloc o1).alloc o2).alloc (.cells C t)).drew.cell? ⟨w.heap.size + 1 + 1, j, none⟩ = C[j]? := by
  have e1 := (MapKept.heap_alloc ((w.alloc o1).alloc o2) (.cells C t)).1
  have e2 : ((w.alloc o1).alloc o2).heap.size = w.heap.size + 1 + 1 := by simp
  rw [e2] at e1
  show (((w.alloc o1).alloc o2).alloc (.cells C t)).cell? _ = _
  simp only [World.cell?]
  rw [e1]; simp

/-- the world has new blocks and draws alone -/
def Gr (w w' : World) : Prop := ∃ q os', w' = grow (w.drewN q) os'

theorem gr3 (w : World) (o1 o2 o3 : Obj) : Gr w (((w.alloc o1).alloc o2).alloc o3).drew := ⟨1, #[o1, o2, o3], by
  show World.drew _ = _
  rw [alloc_eq_grow, alloc_eq_grow, alloc_eq_grow, grow_grow, grow_grow]; rfl⟩

set_option maxHeartbeats 1000000 in
theorem greater (x1 x2 x3 y1 y2 y3 : Int) (w : World) : Calls Tryz.prog 106 #[.agg #[.int .i64 x1, .int .i64 x2, .int .i64 x3], .agg #[.int .i64 y1, .int .i64 y2, .int .i64 y3]] w fun e w' => e = .returned (.int .i64 (orI (cmpI y3 x3) (cmpI x1 y1))) ∧ Gr w w' := by
  have t0 : (((w.alloc (.cells #[.int .i64 x1, .int .i64 x2, .int .i64 x3] 127)).alloc (.cells #[.int .i64 y1, .int .i64 y2, .int .i64 y3] 127)).alloc (.cells #[.int .i64 (cmpI y3 x3), .int .i64 (cmpI x1 y1)] 3)).drew.cell? ⟨w.heap.size + 1 + 1, 0, none⟩ = some (.int .i64 (cmpI y3 x3)) := third w _ _ _ _ 0
  have t1 : (((w.alloc (.cells #[.int .i64 x1, .int .i64 x2, .int .i64 x3] 127)).alloc (.cells #[.int .i64 y1, .int .i64 y2, .int .i64 y3] 127)).alloc (.cells #[.int .i64 (cmpI y3 x3), .int .i64 (cmpI x1 y1)] 3)).drew.cell? ⟨w.heap.size + 1 + 1, 1, none⟩ = some (.int .i64 (cmpI x1 y1)) := third w _ _ _ _ 1
  have HOR : Hid (Calls Tryz.prog 131 _ _ _) := orInt (cmpI y3 x3) (cmpI x1 y1) _ _ t0 t1
  clear t0 t1
  go_enter Tryz.func106, Tryz.ntmps106
  go_wp2
  go_region_held (fun w' => w'.cell? ⟨w.heap.size, 0, none⟩ = some (.int .i64 x1) ∧ w'.cell? ⟨w.heap.size, 2, none⟩ = some (.int .i64 x3) ∧ w'.cell? ⟨w.heap.size + 1, 0, none⟩ = some (.int .i64 y1) ∧ w'.cell? ⟨w.heap.size + 1, 2, none⟩ = some (.int .i64 y3)) (go_keep) (first | (go_at_call 132; refine (compare _ _ _).mono ?_; rintro e w' ⟨rfl, rfl⟩) | (go_at_call 131; refine Calls.mono HOR.out ?_; rintro e w' ⟨rfl, rfl⟩))
  go_wp2
  go_ret
  exact ⟨rfl, gr3 w _ _ _⟩

theorem cmpLays (blk off size : Nat) (w : World) : CmpLays Tryz.prog 106 #[] encSh 3 cmpSh blk off size w :=
  fun _ _ _ _ x y => greater x.1 x.2.1 x.2.2 y.1 y.2.1 y.2.2 _

/-- is x ahead of y? -/
def ahead (x y : Sh) : Bool := decide (y.2.2 < x.2.2) || (decide (x.2.2 = y.2.2) && decide (x.1 < y.1))

theorem ltSh (x y : Sh) : ltOf cmpSh x y = ahead x y := by
  unfold ltOf cmpSh orI cmpI ahead
  by_cases h1 : y.2.2 < x.2.2
  · simp [h1]
  · by_cases h2 : x.2.2 < y.2.2
    · have : ¬ x.2.2 = y.2.2 := by omega
      simp [h1, h2, this]
    · have e : x.2.2 = y.2.2 := by omega
      by_cases h3 : x.1 < y.1
      · simp [e, h3]
      · by_cases h4 : y.1 < x.1
        · simp [e, h3, h4]
        · simp [e, h3, h4]

theorem swo : SWO (ltOf cmpSh) where
  irrefl x := by rw [ltSh]; simp [ahead]
  trans x y z h1 h2 := by rw [ltSh] at *; simp [ahead] at *; omega
  ntrans x y z h1 h2 := by rw [ltSh] at *; simp [ahead] at *; omega
end Go.Proofs.YtnchgeiinkaefaaGreatDoor.Share
end

section
/-
  The plain law of dealing: in the sorted row the place of each share is the number of those ahead of it.
-/
namespace Go.Proofs.YtnchgeiinkaefaaGreatDoor.Share
set_option linter.unusedVariables false
open Go.RowKit Ints Go.Sort

theorem count_at {α : Type} (p : α → Bool) (l : List α) (i : Nat) (hi : i ≤ l.length) (h1 : ∀ j x, l[j]? = some x → j < i → p x = true) (h2 : ∀ j x, l[j]? = some x → i ≤ j → p x = false) : l.countP p = i := by
  rw [← List.take_append_drop i l, List.countP_append]
  have e1 : (l.take i).countP p = i := by
    have : (l.take i).length = i := by simp; omega
    conv => rhs; rw [← this]
    rw [List.countP_eq_length]
    intro x hx
    obtain ⟨j, hj⟩ := List.mem_iff_getElem?.1 hx
    rw [List.getElem?_take] at hj
    by_cases hji : j < i
    · rw [if_pos hji] at hj; exact h1 j x hj hji
    · rw [if_neg hji] at hj; cases hj
  have e2 : (l.drop i).countP p = 0 := by
    rw [List.countP_eq_zero]
    intro x hx
    obtain ⟨j, hj⟩ := List.mem_iff_getElem?.1 hx
    rw [List.getElem?_drop] at hj
    rw [h2 _ x hj (by omega)]; simp
  rw [e1, e2]; omega

/-- the shares by place -/
def shL (P R : List Int) (n : Nat) : List Sh := (List.range n).map fun (p : Nat) => ((p : Int), P.getD p 0, R.getD p 0)

theorem ahead_tri (x y : Sh) (h : x.1 ≠ y.1) (h2 : ahead y x = false) : ahead x y = true := by
  unfold ahead at *
  by_cases h1 : y.2.2 < x.2.2
  · simp [h1]
  · by_cases h3 : x.2.2 = y.2.2
    · simp [h3] at h2 ⊢; omega
    · simp at h2; omega

theorem ahead_irr (x : Sh) : ahead x x = false := by simp [ahead]

/-- the place in the sorted row -/
theorem rank (P R : List Int) (n : Nat) (l : List Sh) (hp : l.Perm (shL P R n)) (hs : ∀ (i j : Nat) (x y : Sh), i < j → l[i]? = some x → l[j]? = some y → ahead y x = false) (i : Nat) (x : Sh) (hx : l[i]? = some x) :
    ∃ p : Nat, p < n ∧ x = ((p : Int), P.getD p 0, R.getD p 0) ∧ cnt R p n = i := by
  have hm : x ∈ shL P R n := hp.mem_iff.1 (List.mem_of_getElem? hx)
  unfold shL at hm
  obtain ⟨p, hpn, rfl⟩ := List.mem_map.1 hm
  have hpn' := List.mem_range.1 hpn
  refine ⟨p, hpn', rfl, ?_⟩
  have hnd : (l.map (·.1)).Nodup := by
    have h1 : ((shL P R n).map (·.1)).Nodup := by
      unfold shL
      rw [List.map_map]
      rw [List.nodup_iff_pairwise_ne, List.pairwise_map]
      exact List.Pairwise.imp (fun {a b} (h : a < b) => by simp; omega) List.pairwise_lt_range
    exact (hp.map _).nodup_iff.2 h1
  have hne : ∀ j y, l[j]? = some y → j ≠ i → y.1 ≠ (p : Int) := by
    intro j y hy hji he
    have e1 : (l.map (·.1))[j]? = some (p : Int) := by rw [List.getElem?_map, hy]; simp [he]
    have e2 : (l.map (·.1))[i]? = some (p : Int) := by rw [List.getElem?_map, hx]; rfl
    have hl : j < (l.map (·.1)).length := by
      rcases Nat.lt_or_ge j (l.map (·.1)).length with h | h
      · exact h
      · rw [List.getElem?_eq_none h] at e1; cases e1
    exact hji ((List.getElem?_inj hl hnd).1 (e1.trans e2.symm))
  have hc : l.countP (fun y => ahead y ((p : Int), P.getD p 0, R.getD p 0)) = i := by
    apply count_at
    · rcases Nat.lt_or_ge i l.length with h | h
      · omega
      · rw [List.getElem?_eq_none h] at hx; cases hx
    · intro j y hy hji
      exact ahead_tri _ _ (hne j y hy (by omega)) (hs j i y _ hji hy hx)
    · intro j y hy hij
      by_cases e : j = i
      · subst e
        rw [hx] at hy; cases hy
        exact ahead_irr _
      · exact hs i j _ _ (by omega) hx hy
  rw [hp.countP_eq] at hc
  rw [← hc]
  unfold cnt shL
  rw [List.countP_map]
  apply List.countP_congr
  intro q hq
  simp [moreB, ahead, Function.comp]

/-- the parts as the loop lays them -/
def layV (l : List Sh) (L : Int) (n : Nat) : Nat → List Int
  | 0 => List.replicate n 0
  | k + 1 => match l[k]? with
    | some x => (layV l L n k).set x.1.toNat (x.2.1 + if (k : Int) < L then 1 else 0)
    | none => layV l L n k
theorem lay_len (l : List Sh) (L : Int) (n : Nat) : ∀ k, (layV l L n k).length = n
  | 0 => by simp [layV]
  | k + 1 => by
    unfold layV
    split
    · rw [List.length_set]; exact lay_len l L n k
    · exact lay_len l L n k
theorem lay_step (l : List Sh) (L : Int) (n k : Nat) (x : Sh) (h : l[k]? = some x) : layV l L n (k + 1) = (layV l L n k).set x.1.toNat (x.2.1 + if (k : Int) < L then 1 else 0) := by
  rw [layV, h]

theorem lay_all (P R : List Int) (n : Nat) (l : List Sh) (L : Int) (F : Nat → Int) (hF : ∀ i, F i = P.getD i 0 + if (cnt R i n : Int) < L then 1 else 0) (hp : l.Perm (shL P R n)) (hs : ∀ (i j : Nat) (x y : Sh), i < j → l[i]? = some x → l[j]? = some y → ahead y x = false) :
    layV l L n n = (List.range n).map F := by
  have hlen : l.length = n := by rw [hp.length_eq]; simp [shL]
  have key : ∀ k, k ≤ n → ∀ i x, i < k → l[i]? = some x → (layV l L n k).getD x.1.toNat 0 = x.2.1 + if (i : Int) < L then 1 else 0 := by
    intro k
    induction k with
    | zero => intro _ i x hi; omega
    | succ k ih =>
      intro hk i x hi hx
      obtain ⟨y, hy⟩ : ∃ y, l[k]? = some y := ⟨l[k]'(by omega), List.getElem?_eq_getElem (by omega)⟩
      rw [lay_step l L n k y hy]
      obtain ⟨p, hpn, rfl, hpc⟩ := rank P R n l hp hs i x hx
      obtain ⟨q, hqn, rfl, hqc⟩ := rank P R n l hp hs k y hy
      simp only [Int.toNat_natCast]
      by_cases e : i = k
      · subst e
        rw [hx] at hy
        have hpq : p = q := by
          have h9 : (p : Int) = q := by simpa using congrArg (fun z => z.map (·.1)) hy
          omega
        subst hpq
        rw [List.getD_eq_getElem?_getD, List.getElem?_set_self (by rw [lay_len]; exact hpn)]; rfl
      · have hpq : q ≠ p := fun e2 => by subst e2; omega
        have := ih (by omega) i _ (by omega) hx
        simp only [Int.toNat_natCast] at this
        rw [List.getD_eq_getElem?_getD, List.getElem?_set_ne hpq, ← List.getD_eq_getElem?_getD, this]
  apply getD_eq (by rw [lay_len]; simp)
  intro p hp2
  rw [lay_len] at hp2
  have hm : ((p : Int), P.getD p 0, R.getD p 0) ∈ l := hp.mem_iff.2 (List.mem_map.2 ⟨p, List.mem_range.2 hp2, rfl⟩)
  obtain ⟨i, hi⟩ := List.mem_iff_getElem?.1 hm
  have hil : i < n := by
    rcases Nat.lt_or_ge i l.length with h | h
    · omega
    · rw [List.getElem?_eq_none h] at hi; cases hi
  have := key n (Nat.le_refl _) i _ hil hi
  simp only [Int.toNat_natCast] at this
  rw [this]
  obtain ⟨q, hqn, hq, hqc⟩ := rank P R n l hp hs i _ hi
  have hpq : p = q := by
    have h9 : (p : Int) = q := by have := congrArg (·.1) hq; simpa using this
    omega
  subst hpq
  simp [List.getD, hp2]
  rw [hF, hqc]
  simp [List.getD]
end Go.Proofs.YtnchgeiinkaefaaGreatDoor.Share
end

section
/-
  DERIVED: THE SHELF's CONTRACTS AT THIS DUMP, IN PLAIN WORDS (tools/lay-plain.mjs out of 'YtnchgeiinkaefaaGreatDoorShelfS.lean', which tools/lay-shelf.mjs wrote): THE SAME DECLARATIONS UNDER THE SAME NAMES: 'import', 'namespace', 'open', 'def', 'theorem' AND NOTHING ELSE: no command of the shelf's: FOR A HAND-IN. Each laying: the table of numbers ('.._ren') and one theorem, a field a fact of the dump's own or the kernel's comparison; each contract: ONE APPLICATION.
-/
namespace Go.Proofs
open Go.Shelf
def Tryz.sortShare_ren : Go.Shelf.Ren := ⟨fun | 6 => 105 | 15 => 130 | 14 => 129 | 28 => 156 | 29 => 157 | 20 => 148 | 21 => 149 | 22 => 150 | 23 => 151 | 24 => 152 | 25 => 153 | 26 => 154 | 27 => 155 | 46 => 181 | 47 => 182 | 48 => 183 | 49 => 184 | 50 => 185 | 57 => 205 | n => n, fun | 22 => 121 | 24 => 127 | 25 => 168 | 3 => 3 | 39 => 214 | 0 => 0 | 53 => 243 | 55 => 245 | 4 => 4 | 46 => 237 | 45 => 236 | 50 => 50 | 5 => 5 | 9 => 9 | 66 => 268 | 70 => 204 | 76 => 295 | 77 => 93 | n => n, fun | n => n⟩
theorem Tryz.sortShare : Go.Proofs.SlLaysF0.n6 Tryz.prog Tryz.sortShare_ren := {
  mixed := by kernel_rfl
  f6 := ⟨Tryz.f105.name, by decide, Tryz.func105.trans (congrArg some (by kernel_rfl))⟩
  f14 := ⟨Tryz.f129.name, by decide, Tryz.func129.trans (congrArg some (by kernel_rfl))⟩
  f15 := Tryz.func130.trans (congrArg some (by kernel_rfl))
  f20 := ⟨Tryz.f148.name, by decide, Tryz.func148.trans (congrArg some (by kernel_rfl))⟩
  f21 := ⟨Tryz.f149.name, by decide, Tryz.func149.trans (congrArg some (by kernel_rfl))⟩
  f22 := ⟨Tryz.f150.name, by decide, Tryz.func150.trans (congrArg some (by kernel_rfl))⟩
  f23 := ⟨Tryz.f151.name, by decide, Tryz.func151.trans (congrArg some (by kernel_rfl))⟩
  f24 := ⟨Tryz.f152.name, by decide, Tryz.func152.trans (congrArg some (by kernel_rfl))⟩
  f25 := ⟨Tryz.f153.name, by decide, Tryz.func153.trans (congrArg some (by kernel_rfl))⟩
  f26 := ⟨Tryz.f154.name, by decide, Tryz.func154.trans (congrArg some (by kernel_rfl))⟩
  f27 := ⟨Tryz.f155.name, by decide, Tryz.func155.trans (congrArg some (by kernel_rfl))⟩
  f28 := Tryz.func156.trans (congrArg some (by kernel_rfl))
  f29 := Tryz.func157.trans (congrArg some (by kernel_rfl))
  f46 := ⟨Tryz.f181.name, by decide, Tryz.func181.trans (congrArg some (by kernel_rfl))⟩
  f47 := Tryz.func182.trans (congrArg some (by kernel_rfl))
  f48 := Tryz.func183.trans (congrArg some (by kernel_rfl))
  f49 := ⟨Tryz.f184.name, by decide, Tryz.func184.trans (congrArg some (by kernel_rfl))⟩
  f50 := ⟨Tryz.f185.name, by decide, Tryz.func185.trans (congrArg some (by kernel_rfl))⟩
  f57 := ⟨Tryz.f205.name, by decide, Tryz.func205.trans (congrArg some (by kernel_rfl))⟩
  t0 := Tryz.underlying0
  a0 := Tryz.isAgg0
  z0 := Tryz.sizeOf0
  v0 := Tryz.zeroValue0
  t3 := Tryz.underlying3
  a3 := Tryz.isAgg3
  z3 := Tryz.sizeOf3
  v3 := Tryz.zeroValue3
  t4 := Tryz.underlying4
  a4 := Tryz.isAgg4
  z4 := Tryz.sizeOf4
  v4 := Tryz.zeroValue4
  t5 := Tryz.underlying5
  a5 := Tryz.isAgg5
  z5 := Tryz.sizeOf5
  v5 := Tryz.zeroValue5
  t9 := Tryz.underlying9
  a9 := Tryz.isAgg9
  z9 := Tryz.sizeOf9
  v9 := Tryz.zeroValue9
  t22 := Tryz.underlying121
  a22 := Tryz.isAgg121
  z22 := Tryz.sizeOf121
  v22 := Tryz.zeroValue121
  t25 := Tryz.underlying168
  a25 := Tryz.isAgg168
  z25 := Tryz.sizeOf168
  v25 := Tryz.zeroValue168
  t39 := Tryz.underlying214
  a39 := Tryz.isAgg214
  z39 := Tryz.sizeOf214
  v39 := Tryz.zeroValue214
  t45 := Tryz.underlying236
  a45 := Tryz.isAgg236
  z45 := Tryz.sizeOf236
  v45 := Tryz.zeroValue236
  t46 := Tryz.underlying237
  a46 := Tryz.isAgg237
  z46 := Tryz.sizeOf237
  v46 := Tryz.zeroValue237
  t50 := Tryz.underlying50
  a50 := Tryz.isAgg50
  z50 := Tryz.sizeOf50
  v50 := Tryz.zeroValue50
  t53 := Tryz.underlying243
  a53 := Tryz.isAgg243
  z53 := Tryz.sizeOf243
  v53 := Tryz.zeroValue243
  t55 := Tryz.underlying245
  a55 := Tryz.isAgg245
  z55 := Tryz.sizeOf245
  v55 := Tryz.zeroValue245
  t66 := Tryz.underlying268
  a66 := Tryz.isAgg268
  z66 := Tryz.sizeOf268
  v66 := Tryz.zeroValue268
  t70 := Tryz.underlying204
  a70 := Tryz.isAgg204
  z70 := Tryz.sizeOf204
  v70 := Tryz.zeroValue204
  t76 := Tryz.underlying295
  a76 := Tryz.isAgg295
  z76 := Tryz.sizeOf295
  v76 := Tryz.zeroValue295
  t77 := Tryz.underlying93
  a77 := Tryz.isAgg93
  z77 := Tryz.sizeOf93
  v77 := Tryz.zeroValue93 }
end Go.Proofs
end
