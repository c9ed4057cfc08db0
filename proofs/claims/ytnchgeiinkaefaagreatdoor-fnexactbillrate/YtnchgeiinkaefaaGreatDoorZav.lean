/-
  Texts of this proof laid together, in build order; each says of itself what it holds.
-/
import Derived.Test.YtnchgeiinkaefaaGreatDoorZau
import Derived.Test.YtnchgeiinkaefaaGreatDoorZaf
import Derived.Test.YtnchgeiinkaefaaGreatDoorZak
import Derived.Maps.OwnIn
import Derived.Test.YtnchgeiinkaefaaGreatDoorZap
import Derived.Shelf.Strings.Builder1
import Derived.Shelf.Strings.Builder2
import Derived.Shelf.Strings.OnBuilder
import Derived.Shelf.Small.Utf8
import Derived.Shelf.Small.Bits
import Derived.Shelf.Small.Strs
import Derived.Shelf.Small.Wraps
import Derived.Shelf.Strconv.Atoi
import Derived.Shelf.Strconv.Itoa0
import Derived.Shelf.Strconv.Itoa1
import Derived.Shelf.LaysM
import Derived.Shelf.Strconv.Itoa2
import Derived.Shelf.Strconv.Itoa3
import Derived.Shelf.Strconv.AtoiErrFast
import Derived.Shelf.Strconv.ParseIntEmpty
import Derived.Shelf.Strconv.AtoiFail
import Derived.Shelf.Strconv.Clone
import Derived.Shelf.Strconv.SyntaxError
import Derived.Shelf.LaysC
import Derived.Shelf.Strconv.ToError
import Derived.Shelf.Strconv.Lower
import Derived.Shelf.Strconv.ParseUint10
import Derived.Shelf.Strconv.ParseUint10Empty
import Derived.Shelf.Strconv.ParseUint10Any
import Derived.Shelf.Strconv.ParseInt10
import Derived.Shelf.Strconv.AtoiLong
import Derived.Shelf.Strconv.AtoiInnerAll
import Derived.Shelf.Strconv.RangeError
import Derived.Shelf.Strconv.ToErrorRange
import Derived.Shelf.Strconv.AtoiAll
import Derived.Shelf.Strconv.ErrVarAll
import Derived.Shelf.Strings.Search1
import Derived.Shelf.Strings.Search2
import Derived.Shelf.Strings.Cut
import Derived.Shelf.Strings.Shaped
import Derived.Shelf.Strings.Prefix
import Derived.Shelf.Strings.Fields
import Derived.Shelf.Unicode.Latin
import Derived.Shelf.Strings.Runes
import Derived.Shelf.Strings.IndexAny
import Derived.Shelf.Strings.AsciiSet
import Derived.Shelf.Strings.IndexAnyAll
import Derived.Shelf.Unicode.Is16White
import Derived.Shelf.Unicode.IsSpaceAny
import Derived.Shelf.Unicode.Is16WhiteD
import Derived.Shelf.Unicode.IsSpaceAnyD
import Derived.Shelf.Strings.FieldsAny
import Derived.Shelf.Strings.FieldsFuncAny
import Derived.Shelf.Unicode.Is16Any
import Derived.Shelf.Unicode.Is32Any
import Derived.Shelf.Unicode.ExclAny
import Derived.Ground.SlgmProg
import Derived.Shelf.SortM.Plain
import Derived.Shelf.SortM.SortNone
import Derived.Test.YtnchgeiinkaefaaGreatDoorProg
section
/-
  impl.UseSums: what it answers.
-/
namespace Go.Proofs.YtnchgeiinkaefaaGreatDoor.Sums
set_option linter.unusedVariables false
open Go.RowKit Go.Maps MapM Go.Shelf
open Uses (U U0 UOwn UC UR)
open Evs (E E0 hide unhide RV law KpB below_trans below_grown grown_alloc ER EC KpB.grown)

attribute [local go_sem] Oper.semAt_some

theorem makeCU (n : Nat) (hn : n ≤ 1048576) (w : World) : (Instr.makeSlice 48 (.int .i64 0) (.int .i64 (n : Int))).run Tryz.prog w = .ok (.slice (some ⟨w.heap.size, 0, none⟩) 0 n) (w.alloc (.cells (madeCells #[.string ByteArray.empty, .int .i64 0] (n * 2)) 73)) := by
  obtain ⟨i, hi, h2⟩ := Option.map_eq_some_iff.1 Uses.infoU
  simp only [Prod.mk.injEq] at h2
  obtain ⟨hz, hs, hb⟩ := h2
  have := run_make (P := Tryz.prog) w 48 73 i _ Tryz.underlying48 hi hz .i64 .i64 0 n (by omega) (by omega) (by rw [hb]; omega) (by omega)
  have e : (Value.agg #[.string ByteArray.empty, .int .i64 0]).cells = #[.string ByteArray.empty, .int .i64 0] := rfl
  rw [hs, e] at this
  simpa using this
theorem len_runU {w : World} {b : Nat} {l : List U} (h : UM w b l) (ty : TypeId) : (Builtin.len_ #[116] ty #[.map (some b)]).run Tryz.prog w = .ok (.int .i64 (l.length : Int)) w := by
  have := World.ownsMap.len h Tryz.underlying116 ty
  rwa [size_DM] at this

theorem UOwn.keptR {W W' : World} {b : Nat} {L : List U} {row : Option Nat} (h : UOwn W b L) (hL : 0 < L.length) (hg : W.grownBy W' row) (hr : ∀ r, row = some r → ∃ o : Obj, W.heap[r]? = some o ∧ o.isCells = false) : UOwn W' b L := by
  obtain ⟨o, ho, hc⟩ := cells_of_cell (h.1.2 0 hL).1
  have hk := grownBy_keeps_cells hg hr ho hc
  refine ⟨⟨Nat.lt_of_lt_of_le h.1.1 hg.size, fun i hi => ?_⟩, fun j => ?_⟩
  · obtain ⟨c0, c1⟩ := h.1.2 i hi
    have key : ∀ o : Nat, W'.cell? ⟨b, o, none⟩ = W.cell? ⟨b, o, none⟩ := fun o => World.cell?_of_block hk
    exact ⟨(key _).trans c0, (key _).trans c1⟩
  · have key : W'.frozen? ⟨b, j, none⟩ = W.frozen? ⟨b, j, none⟩ := World.frozen?_of_block hk
    exact key.trans (h.2 j)
theorem UOwn.other {W : World} {b : Nat} {L : List U} (h : UOwn W b L) {j : Nat} (hj : b ≠ j) (o : Nat) (u : Value) : UOwn (W.setCell ⟨j, o, none⟩ u) b L := by
  have hne : ∀ o' : Nat, (⟨j, o, none⟩ : Addr) ≠ ⟨b, o', none⟩ := fun o' e => hj (by simp only [Addr.mk.injEq] at e; exact e.1.symm)
  refine ⟨⟨by simpa using h.1.1, fun i hi => ?_⟩, fun k => by simpa [World.frozen?_setCell] using h.2 k⟩
  obtain ⟨c0, c1⟩ := h.1.2 i hi
  exact ⟨(World.cell?_setCell_other _ _ _ _ (hne _)).trans c0, (World.cell?_setCell_other _ _ _ _ (hne _)).trans c1⟩

/-- the row while it is filled -/
def padU (n : Nat) (pre : List U) : List U := pre ++ List.replicate (n - pre.length) U0
theorem padU_len {n : Nat} {pre : List U} (h : pre.length ≤ n) : (padU n pre).length = n := by unfold padU; simp; omega
theorem padU_pos {n : Nat} (pre : List U) (h : 0 < n) : 0 < (padU n pre).length := by unfold padU; simp; omega
theorem padU_step {n : Nat} {pre : List U} (h : pre.length < n) (x : U) : (padU n pre).set pre.length x = padU n (pre ++ [x]) := by
  unfold padU
  have e : n - pre.length = (n - (pre.length + 1)) + 1 := by omega
  rw [e, List.replicate_succ, List.set_append_right _ _ (Nat.le_refl _), Nat.sub_self, List.set_cons_zero]
  simp
theorem padU_full {n : Nat} {pre : List U} (h : pre.length = n) : padU n pre = pre := by unfold padU; simp [h]

/-- one more, where there is room -/
theorem app_runU {W : World} {S n : Nat} {pre : List U} (s : ByteArray) (q : Int) (h : UOwn W S (padU n pre)) (hp : pre.length < n) (ty : TypeId) :
    (Builtin.append_ #[48, 48] ty #[.slice (some ⟨S, 0, none⟩) pre.length n, .slice (some ⟨W.heap.size, 0, none⟩) 1 1]).run Tryz.prog (W.alloc (.cells #[.string s, .int .i64 q] 73)) =
      .ok (.slice (some ⟨S, 0, none⟩) (pre.length + 1) n) (((W.alloc (.cells #[.string s, .int .i64 q] 73)).setCell ⟨S, pre.length * 2, none⟩ (.string s)).setCell ⟨S, pre.length * 2 + 1, none⟩ (.int .i64 q)) := by
  obtain ⟨i, hi, h2⟩ := Option.map_eq_some_iff.1 Uses.infoU
  simp only [Prod.mk.injEq] at h2
  obtain ⟨hz, hs, hb⟩ := h2
  have hk := h.kept ((Below.refl W.heap.size W).alloc (Nat.le_refl _) (.cells #[.string s, .int .i64 q] 73))
  have hlt : pre.length < (padU n pre).length := by rw [padU_len (by omega)]; exact hp
  obtain ⟨c0, c1⟩ := hk.1.2 pre.length hlt
  rw [Nat.zero_add] at c0 c1
  have e1 := (MapKept.heap_alloc W (.cells #[.string s, .int .i64 q] 73)).1
  have := run_append_room_cells (P := Tryz.prog) (W.alloc (.cells #[.string s, .int .i64 q] 73)) 48 ty 73 i Tryz.underlying48 hi S 0 pre.length n ⟨W.heap.size, 0, none⟩ 1 1 [.string s, .int .i64 q] (by rw [hs]; rfl)
    (World.news_of_block e1)
    (by simp [Value.oneCell']) (by omega)
    (fun j hj => by
      rw [hs]
      match j, hj with
      | 0, _ => simp [c0]
      | 1, _ => simp [c1]
      | j + 2, hj => simp only [List.length_cons, List.length_nil] at hj; omega)
    (fun j _ => hk.2 _)
  rw [hs, Nat.zero_add] at this
  exact this

/-- an append whose run is known, inside a fence -/
theorem wpListIn_appU {F : Fence} {nF : Nat} {w w' : World} {ops : Array Oper} {rest : List Oper} {o : Oper} {a : Act} {Q : Exit → Act → World → Prop} (hgd : o.guard = none) (s x : Operand) (t : TypeId)
    (ho : o.op = .call { callee := .builtin .append, args := #[s, x], argTypes := #[t, t] }) (sv xv v : Value) (hs : a.eval s = sv) (hx : a.eval x = xv) (hr : ∀ ty, (Builtin.append_ #[t, t] ty #[sv, xv]).run Tryz.prog w = .ok v w')
    (h : wpListIn F nF Tryz.prog ops Q rest (a.put o.dst v) w') : wpListIn F nF Tryz.prog ops Q (o :: rest) a w := Evs.wpListIn_app hgd s x t ho sv xv v hs hx hr h

set_option maxRecDepth 100000 in
set_option maxHeartbeats 4000000 in
theorem useSumsI (v : Value) (l : List E) (w : World) (h : ER w v l) (hl : l.length ≤ 1048576) (hs : ∀ u ∈ l, u.1.size ≤ maxLen ∧ u.2.1.size ≤ maxLen) :
    Calls Tryz.prog 43 #[v] w fun e w' => ∃ v', e = .returned v' ∧ UN w.heap.size w' v' (sumsO l) ∧ Below w.heap.size w w' := by
  have H := hide h
  have HS := hide hs
  obtain ⟨a, c, rfl⟩ := h.slice
  have hcase : l.length = 0 ∨ ∃ b o, a = some ⟨b, o, none⟩ ∧ EC w b o l := by
    rcases h with ⟨rfl, _⟩ | ⟨b, o, cap, hv, hc⟩
    · exact .inl rfl
    · simp only [Value.slice.injEq] at hv
      exact .inr ⟨b, o, hv.1, hc⟩
  clear h hs
  have hmm := @run_makeMap Tryz.prog
  cases hok : Evs.okB l with
  | false =>
    have e1 : sumsO l = [] := by unfold sumsO; rw [hok]; rfl
    rw [e1]
    clear hcase
    refine (callsIn_wide (n := 6)).1 ?_
    refine callsIn_of_wp_marks Tryz.func43 rfl trivial ?_ rfl
    simp only [Tryz.ntmps43, List.size_toArray, List.length_cons, List.length_nil, Nat.reduceAdd, Nat.reduceSub, Array.replicate_succ, Array.replicate_zero, List.push_toArray, List.append_toArray, List.nil_append, List.cons_append]
    gi_wp2_with (fail)
    refine ⟨trivial, (callsIn_wide.2 (Evs.okI _ l _ (unhide H) hl (unhide HS))).mono ?_⟩
    rintro e w3 ⟨rfl, hb3⟩
    rw [hok]
    have B3 := hide hb3
    clear hb3
    gi_wp2_with (fail)
    refine ⟨.slice none 0 0, ?_, _, rfl, .inl ⟨rfl, _, _, rfl⟩, unhide B3⟩
    simp [results, Tryz.results43, go_sem]
  | true =>
    have e1 : sumsO l = sums l := by unfold sumsO; rw [hok]; rfl
    rw [e1]
    clear e1
    have hl20 := Evs.okB_len hok
    have HQ := hide (sums_bound l (okB_qty hok))
    have HQ2 := hide (okB_qty hok)
    have HAs := hide (sums_asc l)
    have HLn := hide (sums_len l)
    have HSz := hide (sums_size l (fun u hu => (unhide HS u hu).2))
    rcases hcase with h0 | ⟨b, o, rfl, hc⟩
    all_goals (try (have HC := hide hc; clear hc))
    all_goals (try (have H0 := hide h0; clear h0))
    all_goals (refine (callsIn_wide (n := 6)).1 ?_)
    all_goals (refine callsIn_of_wp_marks Tryz.func43 rfl trivial ?_ rfl)
    all_goals (simp only [Tryz.ntmps43, List.size_toArray, List.length_cons, List.length_nil, Nat.reduceAdd, Nat.reduceSub, Array.replicate_succ, Array.replicate_zero, List.push_toArray, List.append_toArray, List.nil_append, List.cons_append])
    · gi_wp2_with (fail)
      refine ⟨trivial, (callsIn_wide.2 (Evs.okI _ l _ (unhide H) hl (unhide HS))).mono ?_⟩
      rintro e w1 ⟨rfl, hb1⟩
      rw [hok]
      have B1 := hide hb1
      have z1 := hb1.size
      clear hb1 hok
      gi_wp2_with (fail)
      gi_loopw [15] (fun i wr => ∃ k : Nat, k ≤ l.length ∧ i = .int .i64 k ∧ Hid (wr.ownsMap Tryz.prog 9 RV w1.heap.size k (DU (sums (l.take k)))) ∧ Hid (Below w1.heap.size w1 wr)) (fun i _ => l.length - (intOf i).toNat)
      case atStart => exact ⟨0, Nat.zero_le _, rfl, hide (World.ownsMap_made _ _ _ _), hide ((Below.refl _ _).alloc (Nat.le_refl _) _)⟩
      case round =>
        obtain ⟨k, hk, rfl, hm, hb⟩ := hrel
        by_cases hlt : k < l.length
        · exact absurd (unhide H0) (by omega)
        · obtain rfl : k = l.length := by omega
          have hsl := unhide HLn l.length (Nat.le_refl _)
          have HSA := hide (unhide HAs l.length (Nat.le_refl _))
          have HSZ := hide (unhide HSz l.length (Nat.le_refl _))
          rw [List.take_length] at hm hsl HSA HSZ
          have HM := hide (show UM wr w1.heap.size (sums l) from Evs.ownsMap_tight (unhide hm) (size_DM _ _ _))
          have HB := hide (below_trans (unhide B1) (unhide hb))
          have hMw := (unhide HM).lt
          clear hm hb
          generalize hSE : sums l = S at *
          have HSE := hide hSE
          clear hSE
          have hln := len_runU (unhide HM)
          have hmk := makeCU S.length (by omega)
          gi_wp2_with (fail)
          refine ⟨trivial, (ascI 5 _ _).mono ?_⟩
          rintro e w3 ⟨rfl, rfl⟩
          gi_wp2_with (fail)
          have n0 := UOwn.made wr S.length 73
          obtain ⟨X1, hX1⟩ : ∃ X1, wr.alloc (.cells (madeCells #[.string ByteArray.empty, .int .i64 0] (S.length * 2)) 73) = X1 := ⟨_, rfl⟩
          rw [hX1] at n0
          rw [hX1]
          have s1 : X1.heap.size = wr.heap.size + 1 := by rw [← hX1]; simp
          have k0 : Below wr.heap.size wr X1 := by rw [← hX1]; exact (Below.refl _ _).alloc (Nat.le_refl _) _
          have n1 := Evs.new1 X1 (.slice (some ⟨wr.heap.size, 0, none⟩) 0 S.length) 48
          have n2 := Evs.new1 (X1.alloc (.cells #[.slice (some ⟨wr.heap.size, 0, none⟩) 0 S.length] 48)) (.map (some w1.heap.size)) 116
          rw [World.size_alloc] at n2
          obtain ⟨W0, hW0⟩ : ∃ W0, (X1.alloc (.cells #[.slice (some ⟨wr.heap.size, 0, none⟩) 0 S.length] 48)).alloc (.cells #[.map (some w1.heap.size)] 116) = W0 := ⟨_, rfl⟩
          have k1 : Below X1.heap.size X1 W0 := by rw [← hW0]; exact ((Below.refl _ _).alloc (Nat.le_refl _) _).alloc (by simp) _
          have k2 : Below (X1.heap.size + 1) (X1.alloc (.cells #[.slice (some ⟨wr.heap.size, 0, none⟩) 0 S.length] 48)) W0 := by rw [← hW0]; exact (Below.refl _ _).alloc (by simp) _
          have hsz : W0.heap.size = wr.heap.size + 3 := by rw [← hW0]; simp; omega
          have d1 : W0.cell? ⟨wr.heap.size + 1, 0, none⟩ = some (.slice (some ⟨wr.heap.size, 0, none⟩) 0 S.length) := by rw [← s1]; exact (k2.cell (p := ⟨X1.heap.size, 0, none⟩) (by simp)).trans n1.1
          have e1 : W0.frozen? ⟨wr.heap.size + 1, 0, none⟩ = false := by rw [← s1]; exact (k2.frozen (p := ⟨X1.heap.size, 0, none⟩) (by simp)).trans n1.2
          have d2 : W0.cell? ⟨wr.heap.size + 2, 0, none⟩ = some (.map (some w1.heap.size)) := by rw [← hW0]; rw [s1] at n2; exact n2.1
          have hB0 : Below wr.heap.size wr W0 := below_trans k0 k1
          have r0 : UOwn W0 wr.heap.size (padU S.length []) := by
            have := n0.kept k1
            unfold padU
            simpa using this
          have HM0 := hide ((unhide HM).kept hB0)
          rw [hW0]
          clear n0 n1 n2 hX1 hW0 k0 k1 k2 s1 hln hmk
          refine wpIn_rangeFunc_ownH rfl (by omega) (gf := 99) (lb := #[.pointer (some ⟨wr.heap.size + 2, 0, none⟩)]) rfl trivial (enters_of Tryz.func99 (by kernel_rfl) rfl)
            (asc_stops 5 (by omega) (wr.heap.size + 2) wr.heap.size w1.heap.size S (unhide HSA) (by omega) (unhide HSZ) W0 hMw (Nat.le_refl _) (by omega) d2 (unhide HM0)) KpB.trans (KpB.put (n := W0.heap.size) (by omega)) (Below.refl _ _) (fun _ => rfl)
            (fun pre W => (W.cell? ⟨wr.heap.size + 1, 0, none⟩ = some (.slice (some ⟨wr.heap.size, 0, none⟩) pre.length S.length) ∧ W.frozen? ⟨wr.heap.size + 1, 0, none⟩ = false ∧ (0 < S.length → UOwn W wr.heap.size (padU S.length pre)) ∧ wr.heap.size + 3 ≤ W.heap.size) ∧ Below wr.heap.size wr W)
            (fun c pre W => False)
            (OwnFrom.and (Own.from (fun pre A B row hs hg hr => ⟨cell_kept hs.1 hg hr, (frozen_kept hs.1 hg hr).trans hs.2.1, fun h0 => UOwn.keptR (hs.2.2.1 h0) (padU_pos pre h0) hg hr, Nat.le_trans hs.2.2.2 hg.size⟩) _) (ownFrom_below (Nat.le_refl _) (by omega)))
            (fun c => fun _ _ _ _ h _ _ => h)
            ⟨⟨d1, e1, fun _ => r0, by omega⟩, hB0⟩
            (fun x a' W => a' = { tmps := #[.slice a l.length c, undef, .slice none 0 0, .map (some w1.heap.size), undef, u5, .pointer (some ⟨wr.heap.size + 1, 0, none⟩), .string x.1, .int .i64 x.2, .slice a l.length c, .bool true, .bool false, .map (some w1.heap.size), .slice a l.length c, .int .i64 l.length, .int .i64 l.length, .bool false, u17, u18, u19, u20, u21, u22, u23, u24, u25, u26, .map (some w1.heap.size), .int .i64 S.length, .slice (some ⟨wr.heap.size, 0, none⟩) 0 S.length, .map (some w1.heap.size), .func (.func 99) #[] #[.pointer (some ⟨wr.heap.size + 1 + 1, 0, none⟩)], .string x.1, .int .i64 x.2, undef, undef, undef, undef, undef, undef, undef], defers := [] })
            (fun x a' => Own.from (fun _ A B row hs hg hr => hs) _)
            ?assign ?body ?done ?stop
          case assign =>
            rintro lp pre ⟨s, q⟩ W K ⟨⟨h1, h2, h3, h4⟩, hB⟩ hK
            have HK := hide hK
            have H3 := hide h3
            clear hK h3
            gi_wp2
            exact unhide HK _ _ ((KeepsOthers.refl _).from _) (KpB.grown (World.grownBy.refl _ none) (.inl rfl)) ⟨⟨h1, h2, unhide H3, h4⟩, hB⟩ rfl
          case body =>
            rintro lp pre ⟨s, q⟩ a' W hlp hloop ⟨⟨h1, h2, h3, h4⟩, hB⟩ rfl hlen
            have hE := h3 (by omega)
            have HRUN := hide (fun ty => app_runU s q hE hlen ty)
            have hk1 := hE.kept ((Below.refl W.heap.size W).alloc (Nat.le_refl _) (.cells #[.string s, .int .i64 q] 73))
            have hk2 := hk1.set (k := pre.length) (by rw [padU_len (by omega)]; exact hlen) (s, q)
            rw [padU_step hlen, Nat.zero_add] at hk2
            have HE := hide hk2
            have HB' : Hid (Below wr.heap.size wr (((W.alloc (.cells #[.string s, .int .i64 q] 73)).setCell ⟨wr.heap.size, pre.length * 2, none⟩ (.string s)).setCell ⟨wr.heap.size, pre.length * 2 + 1, none⟩ (.int .i64 q))) := hide (((hB.alloc hB.size _).setCell (p := ⟨wr.heap.size, pre.length * 2, none⟩) (Nat.le_refl _) _).setCell (p := ⟨wr.heap.size, pre.length * 2 + 1, none⟩) (Nat.le_refl _) _)
            have HKO : Hid (KeepsOthers W (((W.alloc (.cells #[.string s, .int .i64 q] 73)).setCell ⟨wr.heap.size, pre.length * 2, none⟩ (.string s)).setCell ⟨wr.heap.size, pre.length * 2 + 1, none⟩ (.int .i64 q))) := hide (((KeepsOthers.alloc _ _).trans (KeepsOthers.setCell _ _ _)).trans (KeepsOthers.setCell _ _ _))
            have HKP : Hid (KpB wr.heap.size W (((W.alloc (.cells #[.string s, .int .i64 q] 73)).setCell ⟨wr.heap.size, pre.length * 2, none⟩ (.string s)).setCell ⟨wr.heap.size, pre.length * 2 + 1, none⟩ (.int .i64 q))) := hide (((KpB.grown (grown_alloc _ _) (.inl rfl)).trans (KpB.grown (Evs.set_grown _ _ _ _) (.inr (.inl rfl)))).trans (KpB.grown (Evs.set_grown _ _ _ _) (.inr (.inl rfl))))
            have g1 : (((W.alloc (.cells #[.string s, .int .i64 q] 73)).setCell ⟨wr.heap.size, pre.length * 2, none⟩ (.string s)).setCell ⟨wr.heap.size, pre.length * 2 + 1, none⟩ (.int .i64 q)).cell? ⟨wr.heap.size + 1, 0, none⟩ = some (.slice (some ⟨wr.heap.size, 0, none⟩) pre.length S.length) := by
              rw [World.cell?_setCell_other _ _ _ _ (by simp), World.cell?_setCell_other _ _ _ _ (by simp)]
              exact cell_kept h1 (grown_alloc _ _) (by simp)
            have g2 : (((W.alloc (.cells #[.string s, .int .i64 q] 73)).setCell ⟨wr.heap.size, pre.length * 2, none⟩ (.string s)).setCell ⟨wr.heap.size, pre.length * 2 + 1, none⟩ (.int .i64 q)).frozen? ⟨wr.heap.size + 1, 0, none⟩ = false := by
              rw [World.frozen?_setCell, World.frozen?_setCell]
              exact (frozen_kept h1 (grown_alloc _ _) (by simp)).trans h2
            have g3 : wr.heap.size + 3 ≤ (((W.alloc (.cells #[.string s, .int .i64 q] 73)).setCell ⟨wr.heap.size, pre.length * 2, none⟩ (.string s)).setCell ⟨wr.heap.size, pre.length * 2 + 1, none⟩ (.int .i64 q)).heap.size := by simp; omega
            generalize hX : (((W.alloc (.cells #[.string s, .int .i64 q] 73)).setCell ⟨wr.heap.size, pre.length * 2, none⟩ (.string s)).setCell ⟨wr.heap.size, pre.length * 2 + 1, none⟩ (.int .i64 q)) = X at *
            clear h3 hE hloop hlp hB hk1 hk2 hX
            gi_wp2_with (first | (gi_at_builtin; refine wpListIn_appU rfl _ _ 48 rfl _ _ _ rfl rfl (unhide HRUN) ?_) | gi_in)
            refine ⟨((unhide HKO).trans (KeepsOthers.setCell _ _ _)).from _, (unhide HKP).trans (KpB.grown (Evs.set_grown _ _ _ _) (.inr (.inr rfl))), ⟨?_, by rw [World.frozen?_setCell]; exact g2, fun _ => UOwn.other (unhide HE) (by omega) _ _, by simpa using g3⟩, (unhide HB').setCell (p := ⟨wr.heap.size + 1, 0, none⟩) (by simp) _⟩
            rw [World.cell?_setCell_same _ _ _ g1]
            simp
          case done =>
            rintro D ys W hD rfl ⟨⟨h1, h2, h3, h4⟩, hB⟩ hK
            have H3 := hide h3
            have HB2 := hide hB
            clear h3 hB
            gi_wp2_with (fail)
            refine ⟨by simp, .inl ⟨_, _, rfl, run_takeDeferred hK, ?_⟩⟩
            have hbw : Below wr.heap.size wr (W.putObj D (.deferred none)) := (unhide HB2).trans (belowK_b (w := wr) (Nat.le_refl _) W D _ _ (by omega) hK rfl rfl)
            refine ⟨.slice (some ⟨wr.heap.size, 0, none⟩) ys.length ys.length, ?_, _, rfl, ?_, below_trans (unhide HB) hbw⟩
            · simp [results, Tryz.results43, go_sem]
            · rw [unhide HSE]
              by_cases h0 : ys.length = 0
              · exact .inl ⟨List.length_eq_zero_iff.1 h0, _, _, by rw [h0]⟩
              · refine .inr ⟨wr.heap.size, ys.length, rfl, ⟨(unhide HB).size, Nat.le_refl _⟩, ?_⟩
                have hE := unhide H3 (by omega)
                rw [padU_full rfl] at hE
                exact UOwn.keptR hE (by omega) (grownBy_putObj' W D (.deferred none)) (fun r e => by cases e; exact ⟨_, hK, rfl⟩)
          case stop =>
            intro D c pre W _ _ h _
            exact h.elim
    · gi_wp2_with (fail)
      refine ⟨trivial, (callsIn_wide.2 (Evs.okI _ l _ (unhide H) hl (unhide HS))).mono ?_⟩
      rintro e w1 ⟨rfl, hb1⟩
      rw [hok]
      have B1 := hide hb1
      have z1 := hb1.size
      clear hb1 hok
      gi_wp2_with (fail)
      gi_loopw [15] (fun i wr => ∃ k : Nat, k ≤ l.length ∧ i = .int .i64 k ∧ Hid (wr.ownsMap Tryz.prog 9 RV w1.heap.size k (DU (sums (l.take k)))) ∧ Hid (Below w1.heap.size w1 wr)) (fun i _ => l.length - (intOf i).toNat)
      case atStart => exact ⟨0, Nat.zero_le _, rfl, hide (World.ownsMap_made _ _ _ _), hide ((Below.refl _ _).alloc (Nat.le_refl _) _)⟩
      case round =>
        obtain ⟨k, hk, rfl, hm, hb⟩ := hrel
        by_cases hlt : k < l.length
        · obtain ⟨c0, c1, c2⟩ := (((unhide HC).kept (unhide B1)).kept (unhide hb)).2 k hlt
          obtain ⟨_, hmz⟩ : (l.getD k E0).1.size ≤ maxLen ∧ (l.getD k E0).2.1.size ≤ maxLen := unhide HS _ (by simp [List.getD, hlt])
          obtain ⟨q0, q1⟩ : 0 ≤ (l.getD k E0).2.2 ∧ (l.getD k E0).2.2 ≤ 1000000000 := unhide HQ2 _ (by simp [List.getD, hlt])
          have HD := hide (put_DU (unhide HAs k hk) (l.getD k E0).2.1 (l.getD k E0).2.2)
          have HST := hide (sums_step hlt)
          obtain ⟨r0, r1⟩ := lk_bound (m := (l.getD k E0).2.1) (unhide HAs k hk) (by omega) (unhide HQ k hk)
          have i1 : (0 : Int) ≤ (k : Int) := by omega
          have i2 : (k : Int) < (l.length : Int) := by omega
          have hm1 := hide ((unhide hm).alloc (.cells #[.string (l.getD k E0).1, .string (l.getD k E0).2.1, .int .i64 (l.getD k E0).2.2] 59))
          have hlk := look1_run Tryz.underlying116 (unhide hm1) (unhide HAs k hk) hmz
          generalize l.getD k E0 = x at *
          obtain ⟨s, m, q⟩ := x
          simp only at c0 c1 c2 hmz hlk q0 q1 r0 r1
          generalize lkU (sums (l.take k)) m = r at *
          have hkey : keyOf Tryz.prog 9 (.string m) = some (.string m.data.toList) := WideMaps.keyOf_string_mk Tryz.underlying9 hmz
          gi_wp2_with (first | (gi_at_mapUpdate; refine wpListIn_mapUpdate_own _ rfl _ _ _ 116 rfl 9 3 law Tryz.underlying116 RV w1.heap.size k _ rfl (unhide hm1) (by unfold maxLen; omega) _ _ _ rfl rfl hkey _ [] rfl ?_; intro w2 hown2 hg2) | gi_in)
          refine ⟨⟨k + 1, by omega, by go_num, hide ?_, hide ?_⟩, by simp [intOf]; omega⟩
          · rw [unhide HST]
            have hd := unhide HD
            simp only at hd
            show w2.ownsMap _ _ _ _ _ (DM keyU valU (addU (sums (l.take k)) m q))
            rw [← hd]
            exact hown2
          · exact ((unhide hb).alloc (unhide hb).size _).grown hg2 ((unhide hb).alloc (unhide hb).size _).size (fun j hj => by cases hj; exact Nat.le_refl _)
        · obtain rfl : k = l.length := by omega
          have hsl := unhide HLn l.length (Nat.le_refl _)
          have HSA := hide (unhide HAs l.length (Nat.le_refl _))
          have HSZ := hide (unhide HSz l.length (Nat.le_refl _))
          rw [List.take_length] at hm hsl HSA HSZ
          have HM := hide (show UM wr w1.heap.size (sums l) from Evs.ownsMap_tight (unhide hm) (size_DM _ _ _))
          have HB := hide (below_trans (unhide B1) (unhide hb))
          have hMw := (unhide HM).lt
          clear hm hb
          generalize hSE : sums l = S at *
          have HSE := hide hSE
          clear hSE
          have hln := len_runU (unhide HM)
          have hmk := makeCU S.length (by omega)
          gi_wp2_with (fail)
          refine ⟨trivial, (ascI 5 _ _).mono ?_⟩
          rintro e w3 ⟨rfl, rfl⟩
          gi_wp2_with (fail)
          have n0 := UOwn.made wr S.length 73
          obtain ⟨X1, hX1⟩ : ∃ X1, wr.alloc (.cells (madeCells #[.string ByteArray.empty, .int .i64 0] (S.length * 2)) 73) = X1 := ⟨_, rfl⟩
          rw [hX1] at n0
          rw [hX1]
          have s1 : X1.heap.size = wr.heap.size + 1 := by rw [← hX1]; simp
          have k0 : Below wr.heap.size wr X1 := by rw [← hX1]; exact (Below.refl _ _).alloc (Nat.le_refl _) _
          have n1 := Evs.new1 X1 (.slice (some ⟨wr.heap.size, 0, none⟩) 0 S.length) 48
          have n2 := Evs.new1 (X1.alloc (.cells #[.slice (some ⟨wr.heap.size, 0, none⟩) 0 S.length] 48)) (.map (some w1.heap.size)) 116
          rw [World.size_alloc] at n2
          obtain ⟨W0, hW0⟩ : ∃ W0, (X1.alloc (.cells #[.slice (some ⟨wr.heap.size, 0, none⟩) 0 S.length] 48)).alloc (.cells #[.map (some w1.heap.size)] 116) = W0 := ⟨_, rfl⟩
          have k1 : Below X1.heap.size X1 W0 := by rw [← hW0]; exact ((Below.refl _ _).alloc (Nat.le_refl _) _).alloc (by simp) _
          have k2 : Below (X1.heap.size + 1) (X1.alloc (.cells #[.slice (some ⟨wr.heap.size, 0, none⟩) 0 S.length] 48)) W0 := by rw [← hW0]; exact (Below.refl _ _).alloc (by simp) _
          have hsz : W0.heap.size = wr.heap.size + 3 := by rw [← hW0]; simp; omega
          have d1 : W0.cell? ⟨wr.heap.size + 1, 0, none⟩ = some (.slice (some ⟨wr.heap.size, 0, none⟩) 0 S.length) := by rw [← s1]; exact (k2.cell (p := ⟨X1.heap.size, 0, none⟩) (by simp)).trans n1.1
          have e1 : W0.frozen? ⟨wr.heap.size + 1, 0, none⟩ = false := by rw [← s1]; exact (k2.frozen (p := ⟨X1.heap.size, 0, none⟩) (by simp)).trans n1.2
          have d2 : W0.cell? ⟨wr.heap.size + 2, 0, none⟩ = some (.map (some w1.heap.size)) := by rw [← hW0]; rw [s1] at n2; exact n2.1
          have hB0 : Below wr.heap.size wr W0 := below_trans k0 k1
          have r0 : UOwn W0 wr.heap.size (padU S.length []) := by
            have := n0.kept k1
            unfold padU
            simpa using this
          have HM0 := hide ((unhide HM).kept hB0)
          rw [hW0]
          clear n0 n1 n2 hX1 hW0 k0 k1 k2 s1 hln hmk
          refine wpIn_rangeFunc_ownH rfl (by omega) (gf := 99) (lb := #[.pointer (some ⟨wr.heap.size + 2, 0, none⟩)]) rfl trivial (enters_of Tryz.func99 (by kernel_rfl) rfl)
            (asc_stops 5 (by omega) (wr.heap.size + 2) wr.heap.size w1.heap.size S (unhide HSA) (by omega) (unhide HSZ) W0 hMw (Nat.le_refl _) (by omega) d2 (unhide HM0)) KpB.trans (KpB.put (n := W0.heap.size) (by omega)) (Below.refl _ _) (fun _ => rfl)
            (fun pre W => (W.cell? ⟨wr.heap.size + 1, 0, none⟩ = some (.slice (some ⟨wr.heap.size, 0, none⟩) pre.length S.length) ∧ W.frozen? ⟨wr.heap.size + 1, 0, none⟩ = false ∧ (0 < S.length → UOwn W wr.heap.size (padU S.length pre)) ∧ wr.heap.size + 3 ≤ W.heap.size) ∧ Below wr.heap.size wr W)
            (fun c pre W => False)
            (OwnFrom.and (Own.from (fun pre A B row hs hg hr => ⟨cell_kept hs.1 hg hr, (frozen_kept hs.1 hg hr).trans hs.2.1, fun h0 => UOwn.keptR (hs.2.2.1 h0) (padU_pos pre h0) hg hr, Nat.le_trans hs.2.2.2 hg.size⟩) _) (ownFrom_below (Nat.le_refl _) (by omega)))
            (fun c => fun _ _ _ _ h _ _ => h)
            ⟨⟨d1, e1, fun _ => r0, by omega⟩, hB0⟩
            (fun x a' W => a' = { tmps := #[.slice (some ⟨b, o, none⟩) l.length c, undef, .slice none 0 0, .map (some w1.heap.size), undef, u5, .pointer (some ⟨wr.heap.size + 1, 0, none⟩), .string x.1, .int .i64 x.2, .slice (some ⟨b, o, none⟩) l.length c, .bool true, .bool false, .map (some w1.heap.size), .slice (some ⟨b, o, none⟩) l.length c, .int .i64 l.length, .int .i64 l.length, .bool false, u17, u18, u19, u20, u21, u22, u23, u24, u25, u26, .map (some w1.heap.size), .int .i64 S.length, .slice (some ⟨wr.heap.size, 0, none⟩) 0 S.length, .map (some w1.heap.size), .func (.func 99) #[] #[.pointer (some ⟨wr.heap.size + 1 + 1, 0, none⟩)], .string x.1, .int .i64 x.2, undef, undef, undef, undef, undef, undef, undef], defers := [] })
            (fun x a' => Own.from (fun _ A B row hs hg hr => hs) _)
            ?assign ?body ?done ?stop
          case assign =>
            rintro lp pre ⟨s, q⟩ W K ⟨⟨h1, h2, h3, h4⟩, hB⟩ hK
            have HK := hide hK
            have H3 := hide h3
            clear hK h3
            gi_wp2
            exact unhide HK _ _ ((KeepsOthers.refl _).from _) (KpB.grown (World.grownBy.refl _ none) (.inl rfl)) ⟨⟨h1, h2, unhide H3, h4⟩, hB⟩ rfl
          case body =>
            rintro lp pre ⟨s, q⟩ a' W hlp hloop ⟨⟨h1, h2, h3, h4⟩, hB⟩ rfl hlen
            have hE := h3 (by omega)
            have HRUN := hide (fun ty => app_runU s q hE hlen ty)
            have hk1 := hE.kept ((Below.refl W.heap.size W).alloc (Nat.le_refl _) (.cells #[.string s, .int .i64 q] 73))
            have hk2 := hk1.set (k := pre.length) (by rw [padU_len (by omega)]; exact hlen) (s, q)
            rw [padU_step hlen, Nat.zero_add] at hk2
            have HE := hide hk2
            have HB' : Hid (Below wr.heap.size wr (((W.alloc (.cells #[.string s, .int .i64 q] 73)).setCell ⟨wr.heap.size, pre.length * 2, none⟩ (.string s)).setCell ⟨wr.heap.size, pre.length * 2 + 1, none⟩ (.int .i64 q))) := hide (((hB.alloc hB.size _).setCell (p := ⟨wr.heap.size, pre.length * 2, none⟩) (Nat.le_refl _) _).setCell (p := ⟨wr.heap.size, pre.length * 2 + 1, none⟩) (Nat.le_refl _) _)
            have HKO : Hid (KeepsOthers W (((W.alloc (.cells #[.string s, .int .i64 q] 73)).setCell ⟨wr.heap.size, pre.length * 2, none⟩ (.string s)).setCell ⟨wr.heap.size, pre.length * 2 + 1, none⟩ (.int .i64 q))) := hide (((KeepsOthers.alloc _ _).trans (KeepsOthers.setCell _ _ _)).trans (KeepsOthers.setCell _ _ _))
            have HKP : Hid (KpB wr.heap.size W (((W.alloc (.cells #[.string s, .int .i64 q] 73)).setCell ⟨wr.heap.size, pre.length * 2, none⟩ (.string s)).setCell ⟨wr.heap.size, pre.length * 2 + 1, none⟩ (.int .i64 q))) := hide (((KpB.grown (grown_alloc _ _) (.inl rfl)).trans (KpB.grown (Evs.set_grown _ _ _ _) (.inr (.inl rfl)))).trans (KpB.grown (Evs.set_grown _ _ _ _) (.inr (.inl rfl))))
            have g1 : (((W.alloc (.cells #[.string s, .int .i64 q] 73)).setCell ⟨wr.heap.size, pre.length * 2, none⟩ (.string s)).setCell ⟨wr.heap.size, pre.length * 2 + 1, none⟩ (.int .i64 q)).cell? ⟨wr.heap.size + 1, 0, none⟩ = some (.slice (some ⟨wr.heap.size, 0, none⟩) pre.length S.length) := by
              rw [World.cell?_setCell_other _ _ _ _ (by simp), World.cell?_setCell_other _ _ _ _ (by simp)]
              exact cell_kept h1 (grown_alloc _ _) (by simp)
            have g2 : (((W.alloc (.cells #[.string s, .int .i64 q] 73)).setCell ⟨wr.heap.size, pre.length * 2, none⟩ (.string s)).setCell ⟨wr.heap.size, pre.length * 2 + 1, none⟩ (.int .i64 q)).frozen? ⟨wr.heap.size + 1, 0, none⟩ = false := by
              rw [World.frozen?_setCell, World.frozen?_setCell]
              exact (frozen_kept h1 (grown_alloc _ _) (by simp)).trans h2
            have g3 : wr.heap.size + 3 ≤ (((W.alloc (.cells #[.string s, .int .i64 q] 73)).setCell ⟨wr.heap.size, pre.length * 2, none⟩ (.string s)).setCell ⟨wr.heap.size, pre.length * 2 + 1, none⟩ (.int .i64 q)).heap.size := by simp; omega
            generalize hX : (((W.alloc (.cells #[.string s, .int .i64 q] 73)).setCell ⟨wr.heap.size, pre.length * 2, none⟩ (.string s)).setCell ⟨wr.heap.size, pre.length * 2 + 1, none⟩ (.int .i64 q)) = X at *
            clear h3 hE hloop hlp hB hk1 hk2 hX
            gi_wp2_with (first | (gi_at_builtin; refine wpListIn_appU rfl _ _ 48 rfl _ _ _ rfl rfl (unhide HRUN) ?_) | gi_in)
            refine ⟨((unhide HKO).trans (KeepsOthers.setCell _ _ _)).from _, (unhide HKP).trans (KpB.grown (Evs.set_grown _ _ _ _) (.inr (.inr rfl))), ⟨?_, by rw [World.frozen?_setCell]; exact g2, fun _ => UOwn.other (unhide HE) (by omega) _ _, by simpa using g3⟩, (unhide HB').setCell (p := ⟨wr.heap.size + 1, 0, none⟩) (by simp) _⟩
            rw [World.cell?_setCell_same _ _ _ g1]
            simp
          case done =>
            rintro D ys W hD rfl ⟨⟨h1, h2, h3, h4⟩, hB⟩ hK
            have H3 := hide h3
            have HB2 := hide hB
            clear h3 hB
            gi_wp2_with (fail)
            refine ⟨by simp, .inl ⟨_, _, rfl, run_takeDeferred hK, ?_⟩⟩
            have hbw : Below wr.heap.size wr (W.putObj D (.deferred none)) := (unhide HB2).trans (belowK_b (w := wr) (Nat.le_refl _) W D _ _ (by omega) hK rfl rfl)
            refine ⟨.slice (some ⟨wr.heap.size, 0, none⟩) ys.length ys.length, ?_, _, rfl, ?_, below_trans (unhide HB) hbw⟩
            · simp [results, Tryz.results43, go_sem]
            · rw [unhide HSE]
              by_cases h0 : ys.length = 0
              · exact .inl ⟨List.length_eq_zero_iff.1 h0, _, _, by rw [h0]⟩
              · refine .inr ⟨wr.heap.size, ys.length, rfl, ⟨(unhide HB).size, Nat.le_refl _⟩, ?_⟩
                have hE := unhide H3 (by omega)
                rw [padU_full rfl] at hE
                exact UOwn.keptR hE (by omega) (grownBy_putObj' W D (.deferred none)) (fun r e => by cases e; exact ⟨_, hK, rfl⟩)
          case stop =>
            intro D c pre W _ _ h _
            exact h.elim
end Go.Proofs.YtnchgeiinkaefaaGreatDoor.Sums
end

section
/-
  spec.BillRate.
-/
namespace Go.Proofs.YtnchgeiinkaefaaGreatDoor.Bill
set_option linter.unusedVariables false
open Go.RowKit Evs
open Tax
open BRow (R R0 RC ROwn RN XR listAppR)
open Uses (U UR)
open Sums (useSumsS sumsO UN)

theorem usum_len {evs : List E} (h : Evs.okB evs = true) : (sumsO evs).length ≤ 20 := by
  have h2 := h
  unfold Evs.okB at h2
  rw [Bool.and_eq_true, decide_eq_true_eq] at h2
  unfold sumsO
  rw [if_pos h]
  have := Sums.sums_len evs evs.length (Nat.le_refl _)
  rw [List.take_length] at this
  omega

set_option maxRecDepth 20000 in
set_option maxHeartbeats 8000000 in
theorem rateS (tv ev : Value) (t evs : List E) (w : World) (hT : ER w tv t) (hE : ER w ev evs) (ht : t.length ≤ 1048576) (hts : ∀ u ∈ t, u.1.size ≤ maxLen ∧ u.2.1.size ≤ maxLen) (he : evs.length ≤ 1048576) (hes : ∀ u ∈ evs, u.1.size ≤ maxLen ∧ u.2.1.size ≤ maxLen) :
    Calls Tryz.prog 6 #[tv, ev] w fun x w' => ∃ v c, x = .returned (.tuple #[v, .int .i64 c]) ∧ RateOut w w' t evs (sumsO evs) v c ∧ Below w.heap.size w w' := by
  obtain ⟨ta, tc, rfl⟩ := hT.slice
  obtain ⟨ea, ec, rfl⟩ := hE.slice
  have HT := hide hT
  have HE := hide hE
  have HTS := hide hts
  clear hT hE hts
  go_enter Tryz.func6, Tryz.ntmps6
  go_wp2_with (fail)
  refine (tarS _ t w (unhide HT) ht (unhide HTS)).mono ?_
  rintro x w1 ⟨rfl, hb1⟩
  have HB1 := hide hb1
  have HE1 := hide ((unhide HE).kept hb1)
  clear hb1 HE
  cases hk : okL t with
  | false =>
    go_wp2_with (fail)
    go_ret2
    exact ⟨_, _, rfl, .inl ⟨by rw [hk]; rfl, rfl, rfl⟩, unhide HB1⟩
  | true =>
  go_wp2_with (fail)
  refine (Evs.okS _ evs w1 (unhide HE1) he hes).mono ?_
  rintro x w2 ⟨rfl, hb2⟩
  have HB2 := hide (below_trans (unhide HB1) hb2)
  have HE2 := hide ((unhide HE1).kept hb2)
  clear hb2 HE1 HB1
  cases hv : Evs.okB evs with
  | false =>
    go_wp2_with (fail)
    go_ret2
    exact ⟨_, _, rfl, .inl ⟨by rw [hv]; simp, rfl, rfl⟩, unhide HB2⟩
  | true =>
  have HOK : Hid ((okL t && Evs.okB evs) = true) := hide (by rw [hk, hv]; rfl)
  have hul := usum_len hv
  obtain ⟨h6, hlp⟩ := okL_parts hk
  have HLP := hide hlp
  clear hlp hk
  go_wp2_with (fail)
  refine (useSumsS _ evs w2 (unhide HE2) he hes).mono ?_
  rintro x w3 ⟨uv, rfl, hu, hb3⟩
  have HB3 := hide (below_trans (unhide HB2) hb3)
  have HU := hide hu.ur
  clear hu hb3 HE2 HB2 hv
  generalize hus : sumsO evs = us at *
  have HUS := hide hus
  clear hus
  obtain ⟨ua, uc, huf⟩ : ∃ a c, uv = .slice a us.length c := by
    rcases unhide HU with ⟨rfl, a, c, rfl⟩ | ⟨b, o, cap, rfl, _⟩
    · exact ⟨_, _, rfl⟩
    · exact ⟨_, _, rfl⟩
  subst huf
  go_wp2_with (fail)
  have X0 := hide (XR.made w3 w3.heap.size (Nat.le_refl _) 55 rfl)
  have Y0 := hide (Rule.below_alloc w3 (.cells #[] 55))
  go_loopw [7, 8, 9] (fun rv sv iv wr => ∃ i g c' : Nat, i ≤ t.length ∧ iv = .int .i64 i ∧ rv = .slice (some ⟨g, 0, none⟩) i c' ∧ sv = .int .i64 (sumA (netJ us t) i) ∧ Hid (XR wr w3.heap.size g c' (rowsN us t i)) ∧ Hid (∀ j, j < i → hasJ us t j = true) ∧ Hid (Coin.okB (sumA (netJ us t) i) = true) ∧ Hid (Below w3.heap.size w3 wr)) (fun _ _ iv _ => t.length - (intOf iv).toNat)
  case atStart => exact ⟨0, w3.heap.size, 0, Nat.zero_le _, rfl, rfl, rfl, X0, hide (fun j hj => by omega), hide (by simp [sumA, sumG, Coin.okB]), Y0⟩
  case round =>
    obtain ⟨i, g, c', hi, rfl, rfl, rfl, hX, hH, hO, hB⟩ := hrel
    clear X0 Y0
    have hob := Coin.okB_iff.1 (unhide hO)
    have HBW := hide (below_trans (unhide HB3) (unhide hB))
    by_cases hlt : i < t.length
    · obtain ⟨b2, o2, cap2, hcf, hc⟩ : ∃ b2 o2 cap2, Value.slice ta t.length tc = .slice (some ⟨b2, o2, none⟩) t.length cap2 ∧ EC w b2 o2 t := by
        rcases unhide HT with ⟨h, _⟩ | h
        · rw [h] at hlt; simp at hlt
        · exact h
      simp only [Value.slice.injEq, true_and] at hcf
      obtain ⟨rfl, rfl⟩ := hcf
      obtain ⟨c0, c1, c2⟩ := (hc.kept (unhide HBW)).2 i hlt
      have hb2w : b2 < w.heap.size := hc.1
      have i1 : (0 : Int) ≤ (i : Int) := by omega
      have i2 : (i : Int) < (t.length : Int) := by omega
      obtain ⟨_, hmz⟩ := unhide HTS (t.getD i E0) (by simp [List.getD, hlt])
      obtain ⟨hrb, _, _⟩ := unhide HLP i hlt
      have HSC := hide (rowsN_succ us t i)
      have HSS := hide (sumA_succ (netJ us t) i)
      have HNJ : Hid (netJ us t i = (netO us (t.getD i E0).2.1).getD 0) := hide (by unfold netJ; rw [if_pos hlt])
      have HHJ : Hid (hasJ us t i = (netO us (t.getD i E0).2.1).isSome) := hide rfl
      have HU2 := hide ((unhide HU).kept (unhide hB))
      have HNO := hide (fun h => rateB_no (us := us) hlt h)
      have HOV := hide (fun h => rateB_over (us := us) (t := t) (i := i + 1) hlt h)
      clear hc
      generalize t.getD i E0 = y at *
      obtain ⟨s, m, q⟩ := y
      simp only at c0 c1 c2 hmz hrb HSC HNJ HHJ
      go_wp2_with (fail)
      refine (lineNetS s m q _ us wr hmz hrb (unhide HU2) (by omega)).mono ?_
      rintro x w4 ⟨nv, ok, rfl, hN, hb4⟩
      have HB4 := hide (below_trans (unhide hB) hb4)
      have HX4 := hide ((unhide hX).kept (growB hb4 none) (by simp))
      have c0' : w4.cell? ⟨b2, o2 + i * 3, none⟩ = some (.string s) := (hb4.cell (p := ⟨b2, o2 + i * 3, none⟩) (Nat.lt_of_lt_of_le hb2w (unhide HBW).size)).trans c0
      clear hb4 hX hB HU2 c0 c1 c2
      cases ok with
      | false =>
        obtain ⟨rfl, hn⟩ := hN.2 rfl
        have HR := hide (unhide HNO ((unhide HHJ).trans (by rw [hn]; rfl)))
        have HBF := hide (below_trans (unhide HB3) (unhide HB4))
        clear hN hn HNO HOV HX4
        go_wp2_with (fail)
        go_ret2
        exact ⟨_, _, rfl, .inr (.inl ⟨unhide HOK, (by rw [unhide HUS]; exact unhide HR), rfl, rfl⟩), unhide HBF⟩
      | true =>
        obtain ⟨hn, n0, n1⟩ := hN.1 rfl
        have hnj : netJ us t i = nv := by rw [unhide HNJ, hn]; rfl
        have hhj : hasJ us t i = true := by rw [unhide HHJ, hn]; rfl
        have HSS2 : Hid (sumA (netJ us t) (i + 1) = sumA (netJ us t) i + nv) := hide (by rw [unhide HSS, hnj])
        have HSC2 : Hid (rowsN us t (i + 1) = rowsN us t i ++ [(s, nv, 0)]) := hide (by rw [unhide HSC, hnj])
        have hH2 : Hid (∀ j, j < i + 1 → hasJ us t j = true) := hide (fun j hj => by
          by_cases e : j = i
          · subst e; exact hhj
          · exact unhide hH j (by omega))
        have HLN := hide (rowsN_len us t i)
        clear hN hn HNO hnj hhj HSS HSC HNJ HHJ hH
        generalize sumA (netJ us t) i = sg at *
        go_wp2_with (fail)
        refine (Coin.okS (sg + nv) _).mono ?_
        rintro x w5 ⟨rfl, hw5⟩
        subst hw5
        cases hok : Coin.okB (sg + nv) with
        | false =>
          have HR := hide (unhide HOV (by rw [unhide HSS2]; exact hok))
          have HBF := hide (below_trans (unhide HB3) (unhide HB4))
          clear hok HOV HX4
          go_wp2_with (fail)
          go_ret2
          exact ⟨_, _, rfl, .inr (.inl ⟨unhide HOK, (by rw [unhide HUS]; exact unhide HR), rfl, rfl⟩), unhide HBF⟩
        | true =>
          have HO2 : Hid (Coin.okB (sumA (netJ us t) (i + 1)) = true) := hide (by rw [unhide HSS2]; exact hok)
          have hcl : (rowsN us t i).length + [(s, nv, (0 : Int))].length ≤ 3000000 := by rw [unhide HLN]; simp; omega
          have hz4 := (unhide HB4).size
          clear hok HOV
          go_wp2_with (first | (at_builtin; refine listAppR _ rfl _ _ rfl w3.heap.size g c' i (rowsN us t i) [(s, nv, 0)] _ (unhide HLN) rfl ((unhide HX4).kept (growB (Rule.below_alloc _ _) none) (by simp)) rfl (newR _ s nv 0) hcl (by simp; omega) ?_; intro b6 c6 w6 hx6 hg6 hat6 hlt6) | fail)
          have hgl := (unhide HX4).own.1
          have HX6 : Hid (XR w6 w3.heap.size b6 c6 (rowsN us t (i + 1))) := hide (by rw [unhide HSC2]; exact hx6)
          have HB6 := hide (((unhide HB4).alloc hz4 _).grown hg6 (by simp; omega) (fun j hj => by cases hj; exact hgl))
          clear hx6 hg6 hat6 hlt6 HX4
          go_wp2_with (fail)
          exact ⟨⟨i + 1, b6, c6, by omega, by go_num, rfl, by rw [unhide HSS2], HX6, hH2, HO2, HB6⟩, by simp [intOf]; omega⟩
    · obtain rfl : i = t.length := by omega
      obtain ⟨hg3, hown⟩ := (unhide hX).own
      have hcap := (unhide hX).cap
      rw [rowsN_len] at hcap
      have hz3 := (unhide HB3).size
      have HNF := hide (netF_rowsN us t)
      have HLN := hide (rowsN_len us t t.length)
      have HOWN := hide hown
      have HOF := hide (fun j h => oldF_rowsN us t (j := j) h)
      have HEN : Hid (allTold (netJ us t) (rateF t) t.length = true → rateB us t = Coin.okB (sumA (netJ us t) t.length + sumA (owed (netJ us t) (rateF t) t.length) t.length)) := hide (fun h => rateB_end (unhide hH) (unhide hO) h)
      have HOB : Hid (∀ j, j < t.length → 0 ≤ owed (netJ us t) (rateF t) t.length j ∧ owed (netJ us t) (rateF t) t.length j ≤ 500000000005001) := hide (fun j hj => owed_bd hj (netJ_bd us t j) (unhide HLP j hj).2)
      have HSO : Hid (∀ k, k ≤ t.length → 0 ≤ sumA (owed (netJ us t) (rateF t) t.length) k ∧ sumA (owed (netJ us t) (rateF t) t.length) k ≤ 3000000000030006) := hide (fun k hk => by
        have := sumG_bd (g := fun _ => true) (f := owed (netJ us t) (rateF t) t.length) (m := 500000000005001) (by omega) k (fun i hi => unhide HOB i (by omega))
        have h2 : (k : Int) * 500000000005001 ≤ 6 * 500000000005001 := Int.mul_le_mul_of_nonneg_right (by omega) (by omega)
        unfold sumA; omega)
      have HRD : Hid (∀ W, ROwn W g (rowsF (rowsN us t t.length) (owed (netF (rowsN us t t.length)) (rateF t) t.length)) → RN w.heap.size W (.slice (some ⟨g, 0, none⟩) t.length c') (rated us t)) := hide (fun W hW => by
        rw [netF_rowsN] at hW
        exact .inr ⟨g, c', by rw [rated, rowsF_len, rowsN_len], ⟨by omega, by rw [rated, rowsF_len, rowsN_len]; exact hcap⟩, hW⟩)
      clear hX hH hO hown hlt
      go_wp2_with (fail)
      refine (taxesS w _ t g c' t.length (rowsN us t t.length) wr (unhide HT) (unhide HBW) (unhide HOWN) (by omega) (unhide HLN) rfl h6 (fun j hj => by rw [unhide HNF]; exact netJ_bd us t j) (fun j hj => (unhide HLP j hj).2) (unhide HOF)).mono ?_
      rintro x w4 ⟨hb4, ⟨ha, rfl, hR4⟩ | ⟨ha, rfl⟩⟩
      · rw [unhide HNF] at ha
        have HE2 := hide (unhide HEN ha)
        have HRD2 := hide (unhide HRD w4 hR4)
        have HR4 : Hid (ROwn w4 g (rated us t)) := hide (by rw [unhide HNF] at hR4; exact hR4)
        have HB4 := hide hb4
        clear ha hR4 hb4 HEN HRD HOWN HOF HBW hB HB3 HU
        go_wp2_with (fail)
        go_loop [8, 13] (fun sv iv => ∃ k : Nat, k ≤ t.length ∧ iv = .int .i64 k ∧ sv = .int .i64 (sumA (netJ us t) t.length + sumA (owed (netJ us t) (rateF t) t.length) k)) (fun _ iv => t.length - (intOf iv).toNat)
        case atStart => exact ⟨0, Nat.zero_le _, rfl, by simp [sumA, sumG]⟩
        case round =>
          obtain ⟨k, hk, rfl, rfl⟩ := hrel
          have hsk := unhide HSO k hk
          by_cases hkl : k < t.length
          · have hob2 := unhide HOB k hkl
            obtain ⟨_, _, r2⟩ := (unhide HR4).1.2 k (by rw [rated, rowsF_len, rowsN_len]; exact hkl)
            rw [rated, rowsF_get _ _ (by rw [rowsN_len]; exact hkl), Nat.zero_add] at r2
            simp only at r2
            have k1 : (0 : Int) ≤ (k : Int) := by omega
            have k2 : (k : Int) < (t.length : Int) := by omega
            have HSS := hide (sumA_succ (owed (netJ us t) (rateF t) t.length) k)
            generalize owed (netJ us t) (rateF t) t.length k = ow at *
            generalize sumA (owed (netJ us t) (rateF t) t.length) k = so at *
            generalize sumA (netJ us t) t.length = sn at *
            go_wp2
            exact ⟨⟨k + 1, by omega, by go_num, by rw [unhide HSS]; go_num⟩, by simp [intOf]; omega⟩
          · obtain rfl : k = t.length := by omega
            have HE3 := hide (unhide HE2)
            generalize sumA (owed (netJ us t) (rateF t) t.length) t.length = so at *
            generalize sumA (netJ us t) t.length = sn at *
            go_wp2_with (fail)
            refine (Coin.okS (sn + so) _).mono ?_
            rintro x w5 ⟨rfl, hw5⟩
            subst hw5
            cases hok : Coin.okB (sn + so) with
            | false =>
              have HR : Hid (rateB us t = false) := hide ((unhide HE3).trans hok)
              clear hok HE3 HE2
              go_wp2_with (fail)
              go_ret2
              exact ⟨_, _, rfl, .inr (.inl ⟨unhide HOK, (by rw [unhide HUS]; exact unhide HR), rfl, rfl⟩), unhide HB4⟩
            | true =>
              have HR : Hid (rateB us t = true) := hide ((unhide HE3).trans hok)
              clear hok HE3 HE2
              go_wp2_with (fail)
              go_ret2
              exact ⟨_, _, rfl, .inr (.inr ⟨unhide HOK, (by rw [unhide HUS]; exact unhide HR), (by rw [unhide HUS]; exact unhide HRD2), rfl⟩), unhide HB4⟩
      · rw [unhide HNF] at ha
        have HR := hide (rateB_told ha)
        have HB4 := hide hb4
        clear ha hb4 HEN HRD HOWN HOF HBW hB HB3 HU HSO HOB
        go_wp2_with (fail)
        refine wp_loop_rounds 1 ?_
        rw [rounds_succ]
        go_wp2_with (fail)
        go_ret2
        exact ⟨_, _, rfl, .inr (.inl ⟨unhide HOK, (by rw [unhide HUS]; exact unhide HR), rfl, rfl⟩), unhide HB4⟩
end Go.Proofs.YtnchgeiinkaefaaGreatDoor.Bill
end

section
/-
  DERIVED: THE SHELF's CONTRACTS AT THIS DUMP, IN PLAIN WORDS (tools/lay-plain.mjs out of 'YtnchgeiinkaefaaGreatDoorShelfI.lean', which tools/lay-shelf.mjs wrote): THE SAME DECLARATIONS UNDER THE SAME NAMES: 'import', 'namespace', 'open', 'def', 'theorem' AND NOTHING ELSE: no command of the shelf's: FOR A HAND-IN. Each laying: the table of numbers ('.._ren') and one theorem, a field a fact of the dump's own or the kernel's comparison; each contract: ONE APPLICATION.
-/
namespace Go.Proofs
open Go.Shelf
def Tryz.laysM171_ren : Go.Shelf.Ren := ⟨fun | 171 => 209 | 243 => 217 | 246 => 218 | 283 => 219 | 284 => 220 | 285 => 221 | 286 => 222 | 129 => 157 | 317 => 223 | 318 => 224 | 319 => 225 | 320 => 226 | 337 => 227 | 338 => 228 | n => n, fun | 3 => 3 | 9 => 9 | 2 => 2 | 4 => 4 | 171 => 315 | 0 => 0 | 53 => 245 | 37 => 97 | 5 => 5 | 173 => 317 | 212 => 320 | 51 => 243 | 20 => 20 | 213 => 321 | 46 => 214 | 232 => 322 | 233 => 323 | n => n, fun | 17 => 6 | 18 => 7 | 19 => 8 | n => n⟩
theorem Tryz.laysM171 : Go.Proofs.LaysM.n171 Tryz.prog Tryz.laysM171_ren := {
  mixed := by kernel_rfl
  f129 := Tryz.func157.trans (congrArg some (by kernel_rfl))
  f171 := Tryz.func209.trans (congrArg some (by kernel_rfl))
  f243 := Tryz.func217.trans (congrArg some (by kernel_rfl))
  f246 := Tryz.func218.trans (congrArg some (by kernel_rfl))
  f283 := Tryz.func219.trans (congrArg some (by kernel_rfl))
  f284 := Tryz.func220.trans (congrArg some (by kernel_rfl))
  f285 := Tryz.func221.trans (congrArg some (by kernel_rfl))
  f286 := Tryz.func222.trans (congrArg some (by kernel_rfl))
  f317 := Tryz.func223.trans (congrArg some (by kernel_rfl))
  f318 := Tryz.func224.trans (congrArg some (by kernel_rfl))
  f319 := Tryz.func225.trans (congrArg some (by kernel_rfl))
  f320 := Tryz.func226.trans (congrArg some (by kernel_rfl))
  f337 := Tryz.func227.trans (congrArg some (by kernel_rfl))
  f338 := Tryz.func228.trans (congrArg some (by kernel_rfl))
  t0 := Tryz.underlying0
  a0 := Tryz.isAgg0
  z0 := Tryz.sizeOf0
  v0 := Tryz.zeroValue0
  t2 := Tryz.underlying2
  a2 := Tryz.isAgg2
  z2 := Tryz.sizeOf2
  v2 := Tryz.zeroValue2
  t3 := Tryz.underlying3
  a3 := Tryz.isAgg3
  z3 := Tryz.sizeOf3
  v3 := Tryz.zeroValue3
  t4 := Tryz.underlying4
  a4 := Tryz.isAgg4
  z4 := Tryz.sizeOf4
  v4 := Tryz.zeroValue4
  t5 := Tryz.underlying5
  a5 := Tryz.isAgg5
  z5 := Tryz.sizeOf5
  v5 := Tryz.zeroValue5
  t9 := Tryz.underlying9
  a9 := Tryz.isAgg9
  z9 := Tryz.sizeOf9
  v9 := Tryz.zeroValue9
  t20 := Tryz.underlying20
  a20 := Tryz.isAgg20
  z20 := Tryz.sizeOf20
  v20 := Tryz.zeroValue20
  t37 := Tryz.underlying97
  a37 := Tryz.isAgg97
  z37 := Tryz.sizeOf97
  v37 := Tryz.zeroValue97
  t46 := Tryz.underlying214
  a46 := Tryz.isAgg214
  z46 := Tryz.sizeOf214
  v46 := Tryz.zeroValue214
  t51 := Tryz.underlying243
  a51 := Tryz.isAgg243
  z51 := Tryz.sizeOf243
  v51 := Tryz.zeroValue243
  t53 := Tryz.underlying245
  a53 := Tryz.isAgg245
  z53 := Tryz.sizeOf245
  v53 := Tryz.zeroValue245
  t171 := Tryz.underlying315
  a171 := Tryz.isAgg315
  z171 := Tryz.sizeOf315
  v171 := Tryz.zeroValue315
  t173 := Tryz.underlying317
  a173 := Tryz.isAgg317
  z173 := Tryz.sizeOf317
  v173 := Tryz.zeroValue317
  t212 := Tryz.underlying320
  a212 := Tryz.isAgg320
  z212 := Tryz.sizeOf320
  v212 := Tryz.zeroValue320
  t213 := Tryz.underlying321
  a213 := Tryz.isAgg321
  z213 := Tryz.sizeOf321
  t232 := Tryz.underlying322
  a232 := Tryz.isAgg322
  z232 := Tryz.sizeOf322
  v232 := Tryz.zeroValue322
  t233 := Tryz.underlying323
  a233 := Tryz.isAgg323
  z233 := Tryz.sizeOf323
  v233 := Tryz.zeroValue323
  g17 := by kernel_rfl
  g18 := by kernel_rfl
  g19 := by kernel_rfl
  i0 := by kernel_rfl
  i2 := by kernel_rfl
  i3 := by kernel_rfl
  i4 := by kernel_rfl
  i5 := by kernel_rfl
  i9 := by kernel_rfl
  i20 := by kernel_rfl
  i37 := by kernel_rfl
  i46 := by kernel_rfl
  i51 := by kernel_rfl
  i53 := by kernel_rfl
  i171 := by kernel_rfl
  i173 := by kernel_rfl
  i212 := by kernel_rfl
  i232 := by kernel_rfl
  i233 := by kernel_rfl
  m17 := by kernel_rfl
  m18 := by kernel_rfl
  m19 := by kernel_rfl }
open Go.RowKit Go.Sort Go.Lib in
/-- strconv.Itoa: "Itoa is equivalent to FormatInt(int64(i), 10).": i's DECIMAL NUMERAL ('Lib.itoa': a '-' where i is negative, then the digits), FOR EVERY int. The world behind the call: the world before it, new blocks behind the heap (the library's 'var a [24]byte'), draws. (LAID: no walk: one application.) -/
theorem Tryz.strconv_Itoa (n : Int) (h0 : -9223372036854775808 ≤ n) (h1 : n ≤ 9223372036854775807) (w : World) (htab : Lib.TabIs Tryz.prog w "internal/strconv.uint64pow10" .u64 Lib.pow10Tab) :
    Calls Tryz.prog 209 #[.int .i64 n] w fun e w' => e = .returned (.string ⟨(Lib.itoa n).toArray⟩) ∧ ∃ k os, w' = grow (w.drewN k) os := Any.strconv_Itoa Tryz.laysM171 n h0 h1 w htab
end Go.Proofs
end
