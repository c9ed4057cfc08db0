/-
  impl.UseSums: what it answers.
-/
import Derived.Test.YthhkjbhkginecaaAscU
import Derived.Test.YthhkjbhkginecaaSumN
import Derived.Test.YthhkjbhkginecaaListI
import Derived.Test.YthhkjbhkginecaaEvOk3
import Derived.Maps.OwnIn
namespace Go.Proofs.Ythhkjbhkginecaa.Sums
set_option linter.unusedVariables false
open Go.RowKit Go.Maps MapM Go.Shelf
open Uses (U U0 UOwn UC UR)
open Evs (E E0 hide unhide RV law KpB below_trans below_grown grown_alloc ER EC KpB.grown)

attribute [local go_sem] Oper.semAt_some

theorem makeCU (n : Nat) (hn : n ≤ 1048576) (w : World) : (Instr.makeSlice 43 (.int .i64 0) (.int .i64 (n : Int))).run Try.prog w = .ok (.slice (some ⟨w.heap.size, 0, none⟩) 0 n) (w.alloc (.cells (madeCells #[.string ByteArray.empty, .int .i64 0] (n * 2)) 46)) := by
  obtain ⟨i, hi, h2⟩ := Option.map_eq_some_iff.1 Uses.infoU
  simp only [Prod.mk.injEq] at h2
  obtain ⟨hz, hs, hb⟩ := h2
  have := run_make (P := Try.prog) w 43 46 i _ Try.underlying43 hi hz .i64 .i64 0 n (by omega) (by omega) (by rw [hb]; omega) (by omega)
  have e : (Value.agg #[.string ByteArray.empty, .int .i64 0]).cells = #[.string ByteArray.empty, .int .i64 0] := rfl
  rw [hs, e] at this
  simpa using this
theorem len_runU {w : World} {b : Nat} {l : List U} (h : UM w b l) (ty : TypeId) : (Builtin.len_ #[76] ty #[.map (some b)]).run Try.prog w = .ok (.int .i64 (l.length : Int)) w := by
  have := World.ownsMap.len h Try.underlying76 ty
  rwa [size_DM] at this

theorem UOwn.keptR {W W' : World} {b : Nat} {L : List U} {row : Option Nat} (h : UOwn W b L) (hL : 0 < L.length) (hg : W.grownBy W' row) (hr : ∀ r, row = some r → ∃ o : Obj, W.heap[r]? = some o ∧ o.isCells = false) : UOwn W' b L := by
  obtain ⟨o, ho, hc⟩ := cells_of_cell (h.1.2 0 hL).1
  have hk := grownBy_keeps_cells hg hr ho hc
  refine ⟨⟨Nat.lt_of_lt_of_le h.1.1 hg.size, fun i hi => ?_⟩, fun j => ?_⟩
  · obtain ⟨c0, c1⟩ := h.1.2 i hi
    have key : ∀ o : Nat, W'.cell? ⟨b, o, none⟩ = W.cell? ⟨b, o, none⟩ := fun o => World.cell?_of_block hk
    exact ⟨(key _).trans c0, (key _).trans c1⟩
  · have key : W'.frozen? ⟨b, j, none⟩ = W.frozen? ⟨b, j, none⟩ := World.frozen?_of_block hk
    exact key.trans (h.2 j)
theorem UOwn.other {W : World} {b : Nat} {L : List U} (h : UOwn W b L) {j : Nat} (hj : b ≠ j) (o : Nat) (u : Value) : UOwn (W.setCell ⟨j, o, none⟩ u) b L := by
  have hne : ∀ o' : Nat, (⟨j, o, none⟩ : Addr) ≠ ⟨b, o', none⟩ := fun o' e => hj (by simp only [Addr.mk.injEq] at e; exact e.1.symm)
  refine ⟨⟨by simpa using h.1.1, fun i hi => ?_⟩, fun k => by simpa [World.frozen?_setCell] using h.2 k⟩
  obtain ⟨c0, c1⟩ := h.1.2 i hi
  exact ⟨(World.cell?_setCell_other _ _ _ _ (hne _)).trans c0, (World.cell?_setCell_other _ _ _ _ (hne _)).trans c1⟩

/-- the row while it is filled -/
def padU (n : Nat) (pre : List U) : List U := pre ++ List.replicate (n - pre.length) U0
theorem padU_len {n : Nat} {pre : List U} (h : pre.length ≤ n) : (padU n pre).length = n := by unfold padU; simp; omega
theorem padU_pos {n : Nat} (pre : List U) (h : 0 < n) : 0 < (padU n pre).length := by unfold padU; simp; omega
theorem padU_step {n : Nat} {pre : List U} (h : pre.length < n) (x : U) : (padU n pre).set pre.length x = padU n (pre ++ [x]) := by
  unfold padU
  have e : n - pre.length = (n - (pre.length + 1)) + 1 := by omega
  rw [e, List.replicate_succ, List.set_append_right _ _ (Nat.le_refl _), Nat.sub_self, List.set_cons_zero]
  simp
theorem padU_full {n : Nat} {pre : List U} (h : pre.length = n) : padU n pre = pre := by unfold padU; simp [h]

/-- one more, where there is room -/
theorem app_runU {W : World} {S n : Nat} {pre : List U} (s : ByteArray) (q : Int) (h : UOwn W S (padU n pre)) (hp : pre.length < n) (ty : TypeId) :
    (Builtin.append_ #[43, 43] ty #[.slice (some ⟨S, 0, none⟩) pre.length n, .slice (some ⟨W.heap.size, 0, none⟩) 1 1]).run Try.prog (W.alloc (.cells #[.string s, .int .i64 q] 46)) =
      .ok (.slice (some ⟨S, 0, none⟩) (pre.length + 1) n) (((W.alloc (.cells #[.string s, .int .i64 q] 46)).setCell ⟨S, pre.length * 2, none⟩ (.string s)).setCell ⟨S, pre.length * 2 + 1, none⟩ (.int .i64 q)) := by
  obtain ⟨i, hi, h2⟩ := Option.map_eq_some_iff.1 Uses.infoU
  simp only [Prod.mk.injEq] at h2
  obtain ⟨hz, hs, hb⟩ := h2
  have hk := h.kept ((Below.refl W.heap.size W).alloc (Nat.le_refl _) (.cells #[.string s, .int .i64 q] 46))
  have hlt : pre.length < (padU n pre).length := by rw [padU_len (by omega)]; exact hp
  obtain ⟨c0, c1⟩ := hk.1.2 pre.length hlt
  rw [Nat.zero_add] at c0 c1
  have e1 := (MapKept.heap_alloc W (.cells #[.string s, .int .i64 q] 46)).1
  have := run_append_room_cells (P := Try.prog) (W.alloc (.cells #[.string s, .int .i64 q] 46)) 43 ty 46 i Try.underlying43 hi S 0 pre.length n ⟨W.heap.size, 0, none⟩ 1 1 [.string s, .int .i64 q] (by rw [hs]; rfl)
    (World.news_of_block e1)
    (by simp [Value.oneCell']) (by omega)
    (fun j hj => by
      rw [hs]
      match j, hj with
      | 0, _ => simp [c0]
      | 1, _ => simp [c1]
      | j + 2, hj => simp only [List.length_cons, List.length_nil] at hj; omega)
    (fun j _ => hk.2 _)
  rw [hs, Nat.zero_add] at this
  exact this

/-- an append whose run is known, inside a fence -/
theorem wpListIn_appU {F : Fence} {nF : Nat} {w w' : World} {ops : Array Oper} {rest : List Oper} {o : Oper} {a : Act} {Q : Exit → Act → World → Prop} (hgd : o.guard = none) (s x : Operand) (t : TypeId)
    (ho : o.op = .call { callee := .builtin .append, args := #[s, x], argTypes := #[t, t] }) (sv xv v : Value) (hs : a.eval s = sv) (hx : a.eval x = xv) (hr : ∀ ty, (Builtin.append_ #[t, t] ty #[sv, xv]).run Try.prog w = .ok v w')
    (h : wpListIn F nF Try.prog ops Q rest (a.put o.dst v) w') : wpListIn F nF Try.prog ops Q (o :: rest) a w := Evs.wpListIn_app hgd s x t ho sv xv v hs hx hr h

set_option maxRecDepth 100000 in
set_option maxHeartbeats 4000000 in
theorem useSumsI (v : Value) (l : List E) (w : World) (h : ER w v l) (hl : l.length ≤ 1048576) (hs : ∀ u ∈ l, u.1.size ≤ maxLen ∧ u.2.1.size ≤ maxLen) :
    Calls Try.prog 22 #[v] w fun e w' => ∃ v', e = .returned v' ∧ UN w.heap.size w' v' (sumsO l) ∧ Below w.heap.size w w' := by
  have H := hide h
  have HS := hide hs
  obtain ⟨a, c, rfl⟩ := h.slice
  have hcase : l.length = 0 ∨ ∃ b o, a = some ⟨b, o, none⟩ ∧ EC w b o l := by
    rcases h with ⟨rfl, _⟩ | ⟨b, o, cap, hv, hc⟩
    · exact .inl rfl
    · simp only [Value.slice.injEq] at hv
      exact .inr ⟨b, o, hv.1, hc⟩
  clear h hs
  have hmm := @run_makeMap Try.prog
  cases hok : Evs.okB l with
  | false =>
    have e1 : sumsO l = [] := by unfold sumsO; rw [hok]; rfl
    rw [e1]
    clear hcase
    refine (callsIn_wide (n := 6)).1 ?_
    refine callsIn_of_wp_marks Try.func22 rfl trivial ?_ rfl
    simp only [Try.ntmps22, List.size_toArray, List.length_cons, List.length_nil, Nat.reduceAdd, Nat.reduceSub, Array.replicate_succ, Array.replicate_zero, List.push_toArray, List.append_toArray, List.nil_append, List.cons_append]
    gi_wp2_with (fail)
    refine ⟨trivial, (callsIn_wide.2 (Evs.okI _ l _ (unhide H) hl (unhide HS))).mono ?_⟩
    rintro e w3 ⟨rfl, hb3⟩
    rw [hok]
    have B3 := hide hb3
    clear hb3
    gi_wp2_with (fail)
    refine ⟨.slice none 0 0, ?_, _, rfl, .inl ⟨rfl, _, _, rfl⟩, unhide B3⟩
    simp [results, Try.results22, go_sem]
  | true =>
    have e1 : sumsO l = sums l := by unfold sumsO; rw [hok]; rfl
    rw [e1]
    clear e1
    have hl20 := Evs.okB_len hok
    have HQ := hide (sums_bound l (okB_qty hok))
    have HQ2 := hide (okB_qty hok)
    have HAs := hide (sums_asc l)
    have HLn := hide (sums_len l)
    have HSz := hide (sums_size l (fun u hu => (unhide HS u hu).2))
    rcases hcase with h0 | ⟨b, o, rfl, hc⟩
    all_goals (try (have HC := hide hc; clear hc))
    all_goals (try (have H0 := hide h0; clear h0))
    all_goals (refine (callsIn_wide (n := 6)).1 ?_)
    all_goals (refine callsIn_of_wp_marks Try.func22 rfl trivial ?_ rfl)
    all_goals (simp only [Try.ntmps22, List.size_toArray, List.length_cons, List.length_nil, Nat.reduceAdd, Nat.reduceSub, Array.replicate_succ, Array.replicate_zero, List.push_toArray, List.append_toArray, List.nil_append, List.cons_append])
    · gi_wp2_with (fail)
      refine ⟨trivial, (callsIn_wide.2 (Evs.okI _ l _ (unhide H) hl (unhide HS))).mono ?_⟩
      rintro e w1 ⟨rfl, hb1⟩
      rw [hok]
      have B1 := hide hb1
      have z1 := hb1.size
      clear hb1 hok
      gi_wp2_with (fail)
      gi_loopw [15] (fun i wr => ∃ k : Nat, k ≤ l.length ∧ i = .int .i64 k ∧ Hid (wr.ownsMap Try.prog 9 RV w1.heap.size k (DU (sums (l.take k)))) ∧ Hid (Below w1.heap.size w1 wr)) (fun i _ => l.length - (intOf i).toNat)
      case atStart => exact ⟨0, Nat.zero_le _, rfl, hide (World.ownsMap_made _ _ _ _), hide ((Below.refl _ _).alloc (Nat.le_refl _) _)⟩
      case round =>
        obtain ⟨k, hk, rfl, hm, hb⟩ := hrel
        by_cases hlt : k < l.length
        · exact absurd (unhide H0) (by omega)
        · obtain rfl : k = l.length := by omega
          have hsl := unhide HLn l.length (Nat.le_refl _)
          have HSA := hide (unhide HAs l.length (Nat.le_refl _))
          have HSZ := hide (unhide HSz l.length (Nat.le_refl _))
          rw [List.take_length] at hm hsl HSA HSZ
          have HM := hide (show UM wr w1.heap.size (sums l) from Evs.ownsMap_tight (unhide hm) (size_DM _ _ _))
          have HB := hide (below_trans (unhide B1) (unhide hb))
          have hMw := (unhide HM).lt
          clear hm hb
          generalize hSE : sums l = S at *
          have HSE := hide hSE
          clear hSE
          have hln := len_runU (unhide HM)
          have hmk := makeCU S.length (by omega)
          gi_wp2_with (fail)
          refine ⟨trivial, (ascI 5 _ _).mono ?_⟩
          rintro e w3 ⟨rfl, rfl⟩
          gi_wp2_with (fail)
          have n0 := UOwn.made wr S.length 46
          obtain ⟨X1, hX1⟩ : ∃ X1, wr.alloc (.cells (madeCells #[.string ByteArray.empty, .int .i64 0] (S.length * 2)) 46) = X1 := ⟨_, rfl⟩
          rw [hX1] at n0
          rw [hX1]
          have s1 : X1.heap.size = wr.heap.size + 1 := by rw [← hX1]; simp
          have k0 : Below wr.heap.size wr X1 := by rw [← hX1]; exact (Below.refl _ _).alloc (Nat.le_refl _) _
          have n1 := Evs.new1 X1 (.slice (some ⟨wr.heap.size, 0, none⟩) 0 S.length) 43
          have n2 := Evs.new1 (X1.alloc (.cells #[.slice (some ⟨wr.heap.size, 0, none⟩) 0 S.length] 43)) (.map (some w1.heap.size)) 76
          rw [World.size_alloc] at n2
          obtain ⟨W0, hW0⟩ : ∃ W0, (X1.alloc (.cells #[.slice (some ⟨wr.heap.size, 0, none⟩) 0 S.length] 43)).alloc (.cells #[.map (some w1.heap.size)] 76) = W0 := ⟨_, rfl⟩
          have k1 : Below X1.heap.size X1 W0 := by rw [← hW0]; exact ((Below.refl _ _).alloc (Nat.le_refl _) _).alloc (by simp) _
          have k2 : Below (X1.heap.size + 1) (X1.alloc (.cells #[.slice (some ⟨wr.heap.size, 0, none⟩) 0 S.length] 43)) W0 := by rw [← hW0]; exact (Below.refl _ _).alloc (by simp) _
          have hsz : W0.heap.size = wr.heap.size + 3 := by rw [← hW0]; simp; omega
          have d1 : W0.cell? ⟨wr.heap.size + 1, 0, none⟩ = some (.slice (some ⟨wr.heap.size, 0, none⟩) 0 S.length) := by rw [← s1]; exact (k2.cell (p := ⟨X1.heap.size, 0, none⟩) (by simp)).trans n1.1
          have e1 : W0.frozen? ⟨wr.heap.size + 1, 0, none⟩ = false := by rw [← s1]; exact (k2.frozen (p := ⟨X1.heap.size, 0, none⟩) (by simp)).trans n1.2
          have d2 : W0.cell? ⟨wr.heap.size + 2, 0, none⟩ = some (.map (some w1.heap.size)) := by rw [← hW0]; rw [s1] at n2; exact n2.1
          have hB0 : Below wr.heap.size wr W0 := below_trans k0 k1
          have r0 : UOwn W0 wr.heap.size (padU S.length []) := by
            have := n0.kept k1
            unfold padU
            simpa using this
          have HM0 := hide ((unhide HM).kept hB0)
          rw [hW0]
          clear n0 n1 n2 hX1 hW0 k0 k1 k2 s1 hln hmk
          refine wpIn_rangeFunc_ownH rfl (by omega) (gf := 59) (lb := #[.pointer (some ⟨wr.heap.size + 2, 0, none⟩)]) rfl trivial (enters_of Try.func59 (by kernel_rfl) rfl)
            (asc_stops 5 (by omega) (wr.heap.size + 2) wr.heap.size w1.heap.size S (unhide HSA) (by omega) (unhide HSZ) W0 hMw (Nat.le_refl _) (by omega) d2 (unhide HM0)) KpB.trans (KpB.put (n := W0.heap.size) (by omega)) (Below.refl _ _) (fun _ => rfl)
            (fun pre W => (W.cell? ⟨wr.heap.size + 1, 0, none⟩ = some (.slice (some ⟨wr.heap.size, 0, none⟩) pre.length S.length) ∧ W.frozen? ⟨wr.heap.size + 1, 0, none⟩ = false ∧ (0 < S.length → UOwn W wr.heap.size (padU S.length pre)) ∧ wr.heap.size + 3 ≤ W.heap.size) ∧ Below wr.heap.size wr W)
            (fun c pre W => False)
            (OwnFrom.and (Own.from (fun pre A B row hs hg hr => ⟨cell_kept hs.1 hg hr, (frozen_kept hs.1 hg hr).trans hs.2.1, fun h0 => UOwn.keptR (hs.2.2.1 h0) (padU_pos pre h0) hg hr, Nat.le_trans hs.2.2.2 hg.size⟩) _) (ownFrom_below (Nat.le_refl _) (by omega)))
            (fun c => fun _ _ _ _ h _ _ => h)
            ⟨⟨d1, e1, fun _ => r0, by omega⟩, hB0⟩
            (fun x a' W => a' = { tmps := #[.slice a l.length c, undef, .slice none 0 0, .map (some w1.heap.size), undef, u5, .pointer (some ⟨wr.heap.size + 1, 0, none⟩), .string x.1, .int .i64 x.2, .slice a l.length c, .bool true, .bool false, .map (some w1.heap.size), .slice a l.length c, .int .i64 l.length, .int .i64 l.length, .bool false, u17, u18, u19, u20, u21, u22, u23, u24, u25, u26, .map (some w1.heap.size), .int .i64 S.length, .slice (some ⟨wr.heap.size, 0, none⟩) 0 S.length, .map (some w1.heap.size), .func (.func 59) #[] #[.pointer (some ⟨wr.heap.size + 1 + 1, 0, none⟩)], .string x.1, .int .i64 x.2, undef, undef, undef, undef, undef, undef, undef], defers := [] })
            (fun x a' => Own.from (fun _ A B row hs hg hr => hs) _)
            ?assign ?body ?done ?stop
          case assign =>
            rintro lp pre ⟨s, q⟩ W K ⟨⟨h1, h2, h3, h4⟩, hB⟩ hK
            have HK := hide hK
            have H3 := hide h3
            clear hK h3
            gi_wp2
            exact unhide HK _ _ ((KeepsOthers.refl _).from _) (KpB.grown (World.grownBy.refl _ none) (.inl rfl)) ⟨⟨h1, h2, unhide H3, h4⟩, hB⟩ rfl
          case body =>
            rintro lp pre ⟨s, q⟩ a' W hlp hloop ⟨⟨h1, h2, h3, h4⟩, hB⟩ rfl hlen
            have hE := h3 (by omega)
            have HRUN := hide (fun ty => app_runU s q hE hlen ty)
            have hk1 := hE.kept ((Below.refl W.heap.size W).alloc (Nat.le_refl _) (.cells #[.string s, .int .i64 q] 46))
            have hk2 := hk1.set (k := pre.length) (by rw [padU_len (by omega)]; exact hlen) (s, q)
            rw [padU_step hlen, Nat.zero_add] at hk2
            have HE := hide hk2
            have HB' : Hid (Below wr.heap.size wr (((W.alloc (.cells #[.string s, .int .i64 q] 46)).setCell ⟨wr.heap.size, pre.length * 2, none⟩ (.string s)).setCell ⟨wr.heap.size, pre.length * 2 + 1, none⟩ (.int .i64 q))) := hide (((hB.alloc hB.size _).setCell (p := ⟨wr.heap.size, pre.length * 2, none⟩) (Nat.le_refl _) _).setCell (p := ⟨wr.heap.size, pre.length * 2 + 1, none⟩) (Nat.le_refl _) _)
            have HKO : Hid (KeepsOthers W (((W.alloc (.cells #[.string s, .int .i64 q] 46)).setCell ⟨wr.heap.size, pre.length * 2, none⟩ (.string s)).setCell ⟨wr.heap.size, pre.length * 2 + 1, none⟩ (.int .i64 q))) := hide (((KeepsOthers.alloc _ _).trans (KeepsOthers.setCell _ _ _)).trans (KeepsOthers.setCell _ _ _))
            have HKP : Hid (KpB wr.heap.size W (((W.alloc (.cells #[.string s, .int .i64 q] 46)).setCell ⟨wr.heap.size, pre.length * 2, none⟩ (.string s)).setCell ⟨wr.heap.size, pre.length * 2 + 1, none⟩ (.int .i64 q))) := hide (((KpB.grown (grown_alloc _ _) (.inl rfl)).trans (KpB.grown (Evs.set_grown _ _ _ _) (.inr (.inl rfl)))).trans (KpB.grown (Evs.set_grown _ _ _ _) (.inr (.inl rfl))))
            have g1 : (((W.alloc (.cells #[.string s, .int .i64 q] 46)).setCell ⟨wr.heap.size, pre.length * 2, none⟩ (.string s)).setCell ⟨wr.heap.size, pre.length * 2 + 1, none⟩ (.int .i64 q)).cell? ⟨wr.heap.size + 1, 0, none⟩ = some (.slice (some ⟨wr.heap.size, 0, none⟩) pre.length S.length) := by
              rw [World.cell?_setCell_other _ _ _ _ (by simp), World.cell?_setCell_other _ _ _ _ (by simp)]
              exact cell_kept h1 (grown_alloc _ _) (by simp)
            have g2 : (((W.alloc (.cells #[.string s, .int .i64 q] 46)).setCell ⟨wr.heap.size, pre.length * 2, none⟩ (.string s)).setCell ⟨wr.heap.size, pre.length * 2 + 1, none⟩ (.int .i64 q)).frozen? ⟨wr.heap.size + 1, 0, none⟩ = false := by
              rw [World.frozen?_setCell, World.frozen?_setCell]
              exact (frozen_kept h1 (grown_alloc _ _) (by simp)).trans h2
            have g3 : wr.heap.size + 3 ≤ (((W.alloc (.cells #[.string s, .int .i64 q] 46)).setCell ⟨wr.heap.size, pre.length * 2, none⟩ (.string s)).setCell ⟨wr.heap.size, pre.length * 2 + 1, none⟩ (.int .i64 q)).heap.size := by simp; omega
            generalize hX : (((W.alloc (.cells #[.string s, .int .i64 q] 46)).setCell ⟨wr.heap.size, pre.length * 2, none⟩ (.string s)).setCell ⟨wr.heap.size, pre.length * 2 + 1, none⟩ (.int .i64 q)) = X at *
            clear h3 hE hloop hlp hB hk1 hk2 hX
            gi_wp2_with (first | (gi_at_builtin; refine wpListIn_appU rfl _ _ 43 rfl _ _ _ rfl rfl (unhide HRUN) ?_) | gi_in)
            refine ⟨((unhide HKO).trans (KeepsOthers.setCell _ _ _)).from _, (unhide HKP).trans (KpB.grown (Evs.set_grown _ _ _ _) (.inr (.inr rfl))), ⟨?_, by rw [World.frozen?_setCell]; exact g2, fun _ => UOwn.other (unhide HE) (by omega) _ _, by simpa using g3⟩, (unhide HB').setCell (p := ⟨wr.heap.size + 1, 0, none⟩) (by simp) _⟩
            rw [World.cell?_setCell_same _ _ _ g1]
            simp
          case done =>
            rintro D ys W hD rfl ⟨⟨h1, h2, h3, h4⟩, hB⟩ hK
            have H3 := hide h3
            have HB2 := hide hB
            clear h3 hB
            gi_wp2_with (fail)
            refine ⟨by simp, .inl ⟨_, _, rfl, run_takeDeferred hK, ?_⟩⟩
            have hbw : Below wr.heap.size wr (W.putObj D (.deferred none)) := (unhide HB2).trans (belowK_b (w := wr) (Nat.le_refl _) W D _ _ (by omega) hK rfl rfl)
            refine ⟨.slice (some ⟨wr.heap.size, 0, none⟩) ys.length ys.length, ?_, _, rfl, ?_, below_trans (unhide HB) hbw⟩
            · simp [results, Try.results22, go_sem]
            · rw [unhide HSE]
              by_cases h0 : ys.length = 0
              · exact .inl ⟨List.length_eq_zero_iff.1 h0, _, _, by rw [h0]⟩
              · refine .inr ⟨wr.heap.size, ys.length, rfl, ⟨(unhide HB).size, Nat.le_refl _⟩, ?_⟩
                have hE := unhide H3 (by omega)
                rw [padU_full rfl] at hE
                exact UOwn.keptR hE (by omega) (grownBy_putObj' W D (.deferred none)) (fun r e => by cases e; exact ⟨_, hK, rfl⟩)
          case stop =>
            intro D c pre W _ _ h _
            exact h.elim
    · gi_wp2_with (fail)
      refine ⟨trivial, (callsIn_wide.2 (Evs.okI _ l _ (unhide H) hl (unhide HS))).mono ?_⟩
      rintro e w1 ⟨rfl, hb1⟩
      rw [hok]
      have B1 := hide hb1
      have z1 := hb1.size
      clear hb1 hok
      gi_wp2_with (fail)
      gi_loopw [15] (fun i wr => ∃ k : Nat, k ≤ l.length ∧ i = .int .i64 k ∧ Hid (wr.ownsMap Try.prog 9 RV w1.heap.size k (DU (sums (l.take k)))) ∧ Hid (Below w1.heap.size w1 wr)) (fun i _ => l.length - (intOf i).toNat)
      case atStart => exact ⟨0, Nat.zero_le _, rfl, hide (World.ownsMap_made _ _ _ _), hide ((Below.refl _ _).alloc (Nat.le_refl _) _)⟩
      case round =>
        obtain ⟨k, hk, rfl, hm, hb⟩ := hrel
        by_cases hlt : k < l.length
        · obtain ⟨c0, c1, c2⟩ := (((unhide HC).kept (unhide B1)).kept (unhide hb)).2 k hlt
          obtain ⟨_, hmz⟩ : (l.getD k E0).1.size ≤ maxLen ∧ (l.getD k E0).2.1.size ≤ maxLen := unhide HS _ (by simp [List.getD, hlt])
          obtain ⟨q0, q1⟩ : 0 ≤ (l.getD k E0).2.2 ∧ (l.getD k E0).2.2 ≤ 1000000000 := unhide HQ2 _ (by simp [List.getD, hlt])
          have HD := hide (put_DU (unhide HAs k hk) (l.getD k E0).2.1 (l.getD k E0).2.2)
          have HST := hide (sums_step hlt)
          obtain ⟨r0, r1⟩ := lk_bound (m := (l.getD k E0).2.1) (unhide HAs k hk) (by omega) (unhide HQ k hk)
          have i1 : (0 : Int) ≤ (k : Int) := by omega
          have i2 : (k : Int) < (l.length : Int) := by omega
          have hm1 := hide ((unhide hm).alloc (.cells #[.string (l.getD k E0).1, .string (l.getD k E0).2.1, .int .i64 (l.getD k E0).2.2] 31))
          have hlk := look1_run Try.underlying76 (unhide hm1) (unhide HAs k hk) hmz
          generalize l.getD k E0 = x at *
          obtain ⟨s, m, q⟩ := x
          simp only at c0 c1 c2 hmz hlk q0 q1 r0 r1
          generalize lkU (sums (l.take k)) m = r at *
          have hkey : keyOf Try.prog 9 (.string m) = some (.string m.data.toList) := WideMaps.keyOf_string_mk Try.underlying9 hmz
          gi_wp2_with (first | (gi_at_mapUpdate; refine wpListIn_mapUpdate_own _ rfl _ _ _ 76 rfl 9 3 law Try.underlying76 RV w1.heap.size k _ rfl (unhide hm1) (by unfold maxLen; omega) _ _ _ rfl rfl hkey _ [] rfl ?_; intro w2 hown2 hg2) | gi_in)
          refine ⟨⟨k + 1, by omega, by go_num, hide ?_, hide ?_⟩, by simp [intOf]; omega⟩
          · rw [unhide HST]
            have hd := unhide HD
            simp only at hd
            show w2.ownsMap _ _ _ _ _ (DM keyU valU (addU (sums (l.take k)) m q))
            rw [← hd]
            exact hown2
          · exact ((unhide hb).alloc (unhide hb).size _).grown hg2 ((unhide hb).alloc (unhide hb).size _).size (fun j hj => by cases hj; exact Nat.le_refl _)
        · obtain rfl : k = l.length := by omega
          have hsl := unhide HLn l.length (Nat.le_refl _)
          have HSA := hide (unhide HAs l.length (Nat.le_refl _))
          have HSZ := hide (unhide HSz l.length (Nat.le_refl _))
          rw [List.take_length] at hm hsl HSA HSZ
          have HM := hide (show UM wr w1.heap.size (sums l) from Evs.ownsMap_tight (unhide hm) (size_DM _ _ _))
          have HB := hide (below_trans (unhide B1) (unhide hb))
          have hMw := (unhide HM).lt
          clear hm hb
          generalize hSE : sums l = S at *
          have HSE := hide hSE
          clear hSE
          have hln := len_runU (unhide HM)
          have hmk := makeCU S.length (by omega)
          gi_wp2_with (fail)
          refine ⟨trivial, (ascI 5 _ _).mono ?_⟩
          rintro e w3 ⟨rfl, rfl⟩
          gi_wp2_with (fail)
          have n0 := UOwn.made wr S.length 46
          obtain ⟨X1, hX1⟩ : ∃ X1, wr.alloc (.cells (madeCells #[.string ByteArray.empty, .int .i64 0] (S.length * 2)) 46) = X1 := ⟨_, rfl⟩
          rw [hX1] at n0
          rw [hX1]
          have s1 : X1.heap.size = wr.heap.size + 1 := by rw [← hX1]; simp
          have k0 : Below wr.heap.size wr X1 := by rw [← hX1]; exact (Below.refl _ _).alloc (Nat.le_refl _) _
          have n1 := Evs.new1 X1 (.slice (some ⟨wr.heap.size, 0, none⟩) 0 S.length) 43
          have n2 := Evs.new1 (X1.alloc (.cells #[.slice (some ⟨wr.heap.size, 0, none⟩) 0 S.length] 43)) (.map (some w1.heap.size)) 76
          rw [World.size_alloc] at n2
          obtain ⟨W0, hW0⟩ : ∃ W0, (X1.alloc (.cells #[.slice (some ⟨wr.heap.size, 0, none⟩) 0 S.length] 43)).alloc (.cells #[.map (some w1.heap.size)] 76) = W0 := ⟨_, rfl⟩
          have k1 : Below X1.heap.size X1 W0 := by rw [← hW0]; exact ((Below.refl _ _).alloc (Nat.le_refl _) _).alloc (by simp) _
          have k2 : Below (X1.heap.size + 1) (X1.alloc (.cells #[.slice (some ⟨wr.heap.size, 0, none⟩) 0 S.length] 43)) W0 := by rw [← hW0]; exact (Below.refl _ _).alloc (by simp) _
          have hsz : W0.heap.size = wr.heap.size + 3 := by rw [← hW0]; simp; omega
          have d1 : W0.cell? ⟨wr.heap.size + 1, 0, none⟩ = some (.slice (some ⟨wr.heap.size, 0, none⟩) 0 S.length) := by rw [← s1]; exact (k2.cell (p := ⟨X1.heap.size, 0, none⟩) (by simp)).trans n1.1
          have e1 : W0.frozen? ⟨wr.heap.size + 1, 0, none⟩ = false := by rw [← s1]; exact (k2.frozen (p := ⟨X1.heap.size, 0, none⟩) (by simp)).trans n1.2
          have d2 : W0.cell? ⟨wr.heap.size + 2, 0, none⟩ = some (.map (some w1.heap.size)) := by rw [← hW0]; rw [s1] at n2; exact n2.1
          have hB0 : Below wr.heap.size wr W0 := below_trans k0 k1
          have r0 : UOwn W0 wr.heap.size (padU S.length []) := by
            have := n0.kept k1
            unfold padU
            simpa using this
          have HM0 := hide ((unhide HM).kept hB0)
          rw [hW0]
          clear n0 n1 n2 hX1 hW0 k0 k1 k2 s1 hln hmk
          refine wpIn_rangeFunc_ownH rfl (by omega) (gf := 59) (lb := #[.pointer (some ⟨wr.heap.size + 2, 0, none⟩)]) rfl trivial (enters_of Try.func59 (by kernel_rfl) rfl)
            (asc_stops 5 (by omega) (wr.heap.size + 2) wr.heap.size w1.heap.size S (unhide HSA) (by omega) (unhide HSZ) W0 hMw (Nat.le_refl _) (by omega) d2 (unhide HM0)) KpB.trans (KpB.put (n := W0.heap.size) (by omega)) (Below.refl _ _) (fun _ => rfl)
            (fun pre W => (W.cell? ⟨wr.heap.size + 1, 0, none⟩ = some (.slice (some ⟨wr.heap.size, 0, none⟩) pre.length S.length) ∧ W.frozen? ⟨wr.heap.size + 1, 0, none⟩ = false ∧ (0 < S.length → UOwn W wr.heap.size (padU S.length pre)) ∧ wr.heap.size + 3 ≤ W.heap.size) ∧ Below wr.heap.size wr W)
            (fun c pre W => False)
            (OwnFrom.and (Own.from (fun pre A B row hs hg hr => ⟨cell_kept hs.1 hg hr, (frozen_kept hs.1 hg hr).trans hs.2.1, fun h0 => UOwn.keptR (hs.2.2.1 h0) (padU_pos pre h0) hg hr, Nat.le_trans hs.2.2.2 hg.size⟩) _) (ownFrom_below (Nat.le_refl _) (by omega)))
            (fun c => fun _ _ _ _ h _ _ => h)
            ⟨⟨d1, e1, fun _ => r0, by omega⟩, hB0⟩
            (fun x a' W => a' = { tmps := #[.slice (some ⟨b, o, none⟩) l.length c, undef, .slice none 0 0, .map (some w1.heap.size), undef, u5, .pointer (some ⟨wr.heap.size + 1, 0, none⟩), .string x.1, .int .i64 x.2, .slice (some ⟨b, o, none⟩) l.length c, .bool true, .bool false, .map (some w1.heap.size), .slice (some ⟨b, o, none⟩) l.length c, .int .i64 l.length, .int .i64 l.length, .bool false, u17, u18, u19, u20, u21, u22, u23, u24, u25, u26, .map (some w1.heap.size), .int .i64 S.length, .slice (some ⟨wr.heap.size, 0, none⟩) 0 S.length, .map (some w1.heap.size), .func (.func 59) #[] #[.pointer (some ⟨wr.heap.size + 1 + 1, 0, none⟩)], .string x.1, .int .i64 x.2, undef, undef, undef, undef, undef, undef, undef], defers := [] })
            (fun x a' => Own.from (fun _ A B row hs hg hr => hs) _)
            ?assign ?body ?done ?stop
          case assign =>
            rintro lp pre ⟨s, q⟩ W K ⟨⟨h1, h2, h3, h4⟩, hB⟩ hK
            have HK := hide hK
            have H3 := hide h3
            clear hK h3
            gi_wp2
            exact unhide HK _ _ ((KeepsOthers.refl _).from _) (KpB.grown (World.grownBy.refl _ none) (.inl rfl)) ⟨⟨h1, h2, unhide H3, h4⟩, hB⟩ rfl
          case body =>
            rintro lp pre ⟨s, q⟩ a' W hlp hloop ⟨⟨h1, h2, h3, h4⟩, hB⟩ rfl hlen
            have hE := h3 (by omega)
            have HRUN := hide (fun ty => app_runU s q hE hlen ty)
            have hk1 := hE.kept ((Below.refl W.heap.size W).alloc (Nat.le_refl _) (.cells #[.string s, .int .i64 q] 46))
            have hk2 := hk1.set (k := pre.length) (by rw [padU_len (by omega)]; exact hlen) (s, q)
            rw [padU_step hlen, Nat.zero_add] at hk2
            have HE := hide hk2
            have HB' : Hid (Below wr.heap.size wr (((W.alloc (.cells #[.string s, .int .i64 q] 46)).setCell ⟨wr.heap.size, pre.length * 2, none⟩ (.string s)).setCell ⟨wr.heap.size, pre.length * 2 + 1, none⟩ (.int .i64 q))) := hide (((hB.alloc hB.size _).setCell (p := ⟨wr.heap.size, pre.length * 2, none⟩) (Nat.le_refl _) _).setCell (p := ⟨wr.heap.size, pre.length * 2 + 1, none⟩) (Nat.le_refl _) _)
            have HKO : Hid (KeepsOthers W (((W.alloc (.cells #[.string s, .int .i64 q] 46)).setCell ⟨wr.heap.size, pre.length * 2, none⟩ (.string s)).setCell ⟨wr.heap.size, pre.length * 2 + 1, none⟩ (.int .i64 q))) := hide (((KeepsOthers.alloc _ _).trans (KeepsOthers.setCell _ _ _)).trans (KeepsOthers.setCell _ _ _))
            have HKP : Hid (KpB wr.heap.size W (((W.alloc (.cells #[.string s, .int .i64 q] 46)).setCell ⟨wr.heap.size, pre.length * 2, none⟩ (.string s)).setCell ⟨wr.heap.size, pre.length * 2 + 1, none⟩ (.int .i64 q))) := hide (((KpB.grown (grown_alloc _ _) (.inl rfl)).trans (KpB.grown (Evs.set_grown _ _ _ _) (.inr (.inl rfl)))).trans (KpB.grown (Evs.set_grown _ _ _ _) (.inr (.inl rfl))))
            have g1 : (((W.alloc (.cells #[.string s, .int .i64 q] 46)).setCell ⟨wr.heap.size, pre.length * 2, none⟩ (.string s)).setCell ⟨wr.heap.size, pre.length * 2 + 1, none⟩ (.int .i64 q)).cell? ⟨wr.heap.size + 1, 0, none⟩ = some (.slice (some ⟨wr.heap.size, 0, none⟩) pre.length S.length) := by
              rw [World.cell?_setCell_other _ _ _ _ (by simp), World.cell?_setCell_other _ _ _ _ (by simp)]
              exact cell_kept h1 (grown_alloc _ _) (by simp)
            have g2 : (((W.alloc (.cells #[.string s, .int .i64 q] 46)).setCell ⟨wr.heap.size, pre.length * 2, none⟩ (.string s)).setCell ⟨wr.heap.size, pre.length * 2 + 1, none⟩ (.int .i64 q)).frozen? ⟨wr.heap.size + 1, 0, none⟩ = false := by
              rw [World.frozen?_setCell, World.frozen?_setCell]
              exact (frozen_kept h1 (grown_alloc _ _) (by simp)).trans h2
            have g3 : wr.heap.size + 3 ≤ (((W.alloc (.cells #[.string s, .int .i64 q] 46)).setCell ⟨wr.heap.size, pre.length * 2, none⟩ (.string s)).setCell ⟨wr.heap.size, pre.length * 2 + 1, none⟩ (.int .i64 q)).heap.size := by simp; omega
            generalize hX : (((W.alloc (.cells #[.string s, .int .i64 q] 46)).setCell ⟨wr.heap.size, pre.length * 2, none⟩ (.string s)).setCell ⟨wr.heap.size, pre.length * 2 + 1, none⟩ (.int .i64 q)) = X at *
            clear h3 hE hloop hlp hB hk1 hk2 hX
            gi_wp2_with (first | (gi_at_builtin; refine wpListIn_appU rfl _ _ 43 rfl _ _ _ rfl rfl (unhide HRUN) ?_) | gi_in)
            refine ⟨((unhide HKO).trans (KeepsOthers.setCell _ _ _)).from _, (unhide HKP).trans (KpB.grown (Evs.set_grown _ _ _ _) (.inr (.inr rfl))), ⟨?_, by rw [World.frozen?_setCell]; exact g2, fun _ => UOwn.other (unhide HE) (by omega) _ _, by simpa using g3⟩, (unhide HB').setCell (p := ⟨wr.heap.size + 1, 0, none⟩) (by simp) _⟩
            rw [World.cell?_setCell_same _ _ _ g1]
            simp
          case done =>
            rintro D ys W hD rfl ⟨⟨h1, h2, h3, h4⟩, hB⟩ hK
            have H3 := hide h3
            have HB2 := hide hB
            clear h3 hB
            gi_wp2_with (fail)
            refine ⟨by simp, .inl ⟨_, _, rfl, run_takeDeferred hK, ?_⟩⟩
            have hbw : Below wr.heap.size wr (W.putObj D (.deferred none)) := (unhide HB2).trans (belowK_b (w := wr) (Nat.le_refl _) W D _ _ (by omega) hK rfl rfl)
            refine ⟨.slice (some ⟨wr.heap.size, 0, none⟩) ys.length ys.length, ?_, _, rfl, ?_, below_trans (unhide HB) hbw⟩
            · simp [results, Try.results22, go_sem]
            · rw [unhide HSE]
              by_cases h0 : ys.length = 0
              · exact .inl ⟨List.length_eq_zero_iff.1 h0, _, _, by rw [h0]⟩
              · refine .inr ⟨wr.heap.size, ys.length, rfl, ⟨(unhide HB).size, Nat.le_refl _⟩, ?_⟩
                have hE := unhide H3 (by omega)
                rw [padU_full rfl] at hE
                exact UOwn.keptR hE (by omega) (grownBy_putObj' W D (.deferred none)) (fun r e => by cases e; exact ⟨_, hK, rfl⟩)
          case stop =>
            intro D c pre W _ _ h _
            exact h.elim
end Go.Proofs.Ythhkjbhkginecaa.Sums
