/-
  Events in a map by their Ids: the method 'list' tells them in their order, in new memory.
-/
import Derived.Test.YthhkjbhkginecaaAsc1
import Derived.ArgAppend
import Derived.Deep.AppendLies
namespace Go.Proofs.Ythhkjbhkginecaa.Evs
set_option linter.unusedVariables false
open Go.RowKit Go.Maps MapM Go.Shelf

attribute [local go_sem] Oper.semAt_some

theorem makeC (n : Nat) (hn : n ≤ 1048576) (w : World) : (Instr.makeSlice 29 (.int .i64 0) (.int .i64 (n : Int))).run Try.prog w = .ok (.slice (some ⟨w.heap.size, 0, none⟩) 0 n) (w.alloc (.cells (madeCells #[.string ByteArray.empty, .string ByteArray.empty, .int .i64 0] (n * 3)) 31)) := by
  obtain ⟨i, hi, h2⟩ := Option.map_eq_some_iff.1 infoE
  simp only [Prod.mk.injEq] at h2
  obtain ⟨hz, hs, hb⟩ := h2
  have := run_make (P := Try.prog) w 29 31 i _ Try.underlying29 hi hz .i64 .i64 0 n (by omega) (by omega) (by rw [hb]; omega) (by omega)
  have e : (Value.agg #[.string ByteArray.empty, .string ByteArray.empty, .int .i64 0]).cells = #[.string ByteArray.empty, .string ByteArray.empty, .int .i64 0] := rfl
  rw [hs, e] at this
  simpa using this
theorem len_run {w : World} {b : Nat} {l : List E} (h : EM w b l) (ty : TypeId) : (Builtin.len_ #[67] ty #[.map (some b)]).run Try.prog w = .ok (.int .i64 (l.length : Int)) w := by
  have := World.ownsMap.len h Try.underlying67 ty
  rwa [size_DM] at this

theorem new1 (w : World) (a : Value) (t : TypeId) : (w.alloc (.cells #[a] t)).cell? ⟨w.heap.size, 0, none⟩ = some a ∧ (w.alloc (.cells #[a] t)).frozen? ⟨w.heap.size, 0, none⟩ = false := by
  have e1 := (MapKept.heap_alloc w (.cells #[a] t)).1
  simp only [World.cell?, World.frozen?]
  rw [e1]; simp
theorem EOwn.keptR {W W' : World} {b : Nat} {L : List E} {row : Option Nat} (h : EOwn W b L) (hL : 0 < L.length) (hg : W.grownBy W' row) (hr : ∀ r, row = some r → ∃ o : Obj, W.heap[r]? = some o ∧ o.isCells = false) : EOwn W' b L := by
  obtain ⟨o, ho, hc⟩ := cells_of_cell (h.1.2 0 hL).1
  have hk := grownBy_keeps_cells hg hr ho hc
  refine ⟨⟨Nat.lt_of_lt_of_le h.1.1 hg.size, fun i hi => ?_⟩, fun j => ?_⟩
  · obtain ⟨c0, c1, c2⟩ := h.1.2 i hi
    have key : ∀ o : Nat, W'.cell? ⟨b, o, none⟩ = W.cell? ⟨b, o, none⟩ := fun o => World.cell?_of_block hk
    exact ⟨(key _).trans c0, (key _).trans c1, (key _).trans c2⟩
  · have key : W'.frozen? ⟨b, j, none⟩ = W.frozen? ⟨b, j, none⟩ := World.frozen?_of_block hk
    exact key.trans (h.2 j)
theorem EOwn.other {W : World} {b : Nat} {L : List E} (h : EOwn W b L) {j : Nat} (hj : b ≠ j) (o : Nat) (u : Value) : EOwn (W.setCell ⟨j, o, none⟩ u) b L := by
  have hne : ∀ o' : Nat, (⟨j, o, none⟩ : Addr) ≠ ⟨b, o', none⟩ := fun o' e => hj (by simp only [Addr.mk.injEq] at e; exact e.1.symm)
  refine ⟨⟨by simpa using h.1.1, fun i hi => ?_⟩, fun k => by simpa [World.frozen?_setCell] using h.2 k⟩
  obtain ⟨c0, c1, c2⟩ := h.1.2 i hi
  exact ⟨(World.cell?_setCell_other _ _ _ _ (hne _)).trans c0, (World.cell?_setCell_other _ _ _ _ (hne _)).trans c1, (World.cell?_setCell_other _ _ _ _ (hne _)).trans c2⟩
theorem set_grown (w : World) (b o : Nat) (u : Value) : w.grownBy (w.setCell ⟨b, o, none⟩ u) (some b) := by
  refine ⟨rfl, rfl, rfl, ?_, ?_⟩
  · simp
  · intro j hj hne
    exact Below.heap_setCell w ⟨b, o, none⟩ u j (fun e => hne (by rw [e]))
theorem KpB.grown {B : Nat} {W W' : World} {r : Option Nat} (hg : W.grownBy W' r) (hr : r = none ∨ r = some B ∨ r = some (B + 1)) : KpB B W W' :=
  ⟨hg.os, hg.tape, hg.output, hg.size, fun j o hj ho => by
    have hjs : j < W.heap.size := by
      refine Nat.lt_of_not_le fun hle => ?_
      rw [Array.getElem?_eq_none hle] at hj; simp at hj
    refine (hg.block j hjs ?_).trans hj
    rcases hr with rfl | rfl | rfl
    · simp
    · intro e; simp only [Option.some.injEq] at e; omega
    · intro e; simp only [Option.some.injEq] at e; omega⟩

/-- the row while it is filled -/
def padE (n : Nat) (pre : List E) : List E := pre ++ List.replicate (n - pre.length) E0
theorem padE_len {n : Nat} {pre : List E} (h : pre.length ≤ n) : (padE n pre).length = n := by unfold padE; simp; omega
theorem padE_pos {n : Nat} (pre : List E) (h : 0 < n) : 0 < (padE n pre).length := by unfold padE; simp; omega
theorem padE_step {n : Nat} {pre : List E} (h : pre.length < n) (x : E) : (padE n pre).set pre.length x = padE n (pre ++ [x]) := by
  unfold padE
  have e : n - pre.length = (n - (pre.length + 1)) + 1 := by omega
  rw [e, List.replicate_succ, List.set_append_right _ _ (Nat.le_refl _), Nat.sub_self, List.set_cons_zero]
  simp
theorem padE_full {n : Nat} {pre : List E} (h : pre.length = n) : padE n pre = pre := by unfold padE; simp [h]

/-- one more, where there is room -/
theorem app_run {W : World} {S n : Nat} {pre : List E} (s m : ByteArray) (q : Int) (h : EOwn W S (padE n pre)) (hp : pre.length < n) (ty : TypeId) :
    (Builtin.append_ #[29, 29] ty #[.slice (some ⟨S, 0, none⟩) pre.length n, .slice (some ⟨W.heap.size, 0, none⟩) 1 1]).run Try.prog (W.alloc (.cells #[.string s, .string m, .int .i64 q] 31)) =
      .ok (.slice (some ⟨S, 0, none⟩) (pre.length + 1) n) ((((W.alloc (.cells #[.string s, .string m, .int .i64 q] 31)).setCell ⟨S, pre.length * 3, none⟩ (.string s)).setCell ⟨S, pre.length * 3 + 1, none⟩ (.string m)).setCell ⟨S, pre.length * 3 + 2, none⟩ (.int .i64 q)) := by
  obtain ⟨i, hi, h2⟩ := Option.map_eq_some_iff.1 infoE
  simp only [Prod.mk.injEq] at h2
  obtain ⟨hz, hs, hb⟩ := h2
  have hk := h.kept ((Below.refl W.heap.size W).alloc (Nat.le_refl _) (.cells #[.string s, .string m, .int .i64 q] 31))
  have hlt : pre.length < (padE n pre).length := by rw [padE_len (by omega)]; exact hp
  obtain ⟨c0, c1, c2⟩ := hk.1.2 pre.length hlt
  rw [Nat.zero_add] at c0 c1 c2
  have e1 := (MapKept.heap_alloc W (.cells #[.string s, .string m, .int .i64 q] 31)).1
  have := run_append_room_cells (P := Try.prog) (W.alloc (.cells #[.string s, .string m, .int .i64 q] 31)) 29 ty 31 i Try.underlying29 hi S 0 pre.length n ⟨W.heap.size, 0, none⟩ 1 1 [.string s, .string m, .int .i64 q] (by rw [hs]; rfl)
    (World.news_of_block e1)
    (by simp [Value.oneCell']) (by omega)
    (fun j hj => by
      rw [hs]
      match j, hj with
      | 0, _ => simp [c0]
      | 1, _ => simp [c1]
      | 2, _ => simp [c2]
      | j + 3, hj => simp only [List.length_cons, List.length_nil] at hj; omega)
    (fun j _ => hk.2 _)
  rw [hs, Nat.zero_add] at this
  exact this

/-- an append whose run is known, inside a fence -/
theorem wpListIn_app {F : Fence} {nF : Nat} {w w' : World} {ops : Array Oper} {rest : List Oper} {o : Oper} {a : Act} {Q : Exit → Act → World → Prop} (hgd : o.guard = none) (s x : Operand) (t : TypeId)
    (ho : o.op = .call { callee := .builtin .append, args := #[s, x], argTypes := #[t, t] }) (sv xv v : Value) (hs : a.eval s = sv) (hx : a.eval x = xv) (hr : ∀ ty, (Builtin.append_ #[t, t] ty #[sv, xv]).run Try.prog w = .ok v w')
    (h : wpListIn F nF Try.prog ops Q rest (a.put o.dst v) w') : wpListIn F nF Try.prog ops Q (o :: rest) a w := by
  refine wpListIn_plain hgd fun K hK => ?_
  unfold Oper.wpIn
  refine ⟨by simp [Oper.about, ho, resolve, Target.leads, Sem.run_pure], ?_⟩
  rw [Oper.semAt_plain F _ _ (by rw [ho]; intro c hc'; cases hc')]
  simp [execOp, ho, resolve, invoke, builtin, hs, hx, hr, Result.andThen]
  exact hK _ _ h

set_option maxRecDepth 100000 in
set_option maxHeartbeats 2000000 in
theorem listI (b : Nat) (l : List E) (w : World) (h : EM w b l) (ha : Asc keyE l) (hl : l.length ≤ 1000) (hs : ∀ u ∈ l, u.1.size ≤ maxLen) :
    Calls Try.prog 39 #[.map (some b)] w fun e w' => ∃ v, e = .returned v ∧ EN w.heap.size w' v l ∧ Below w.heap.size w w' := by
  have hln := len_run h
  have hmk := makeC l.length (by omega)
  have hbw := h.lt
  have H := hide h
  have HA := hide ha
  have HS := hide hs
  clear h ha hs
  refine (callsIn_wide (n := 5)).1 ?_
  refine callsIn_of_wp_marks Try.func39 rfl trivial ?_ rfl
  simp only [Try.ntmps39, List.size_toArray, List.length_cons, List.length_nil, Nat.reduceAdd, Nat.reduceSub, Array.replicate_succ, Array.replicate_zero, List.push_toArray, List.append_toArray, List.nil_append, List.cons_append]
  gi_wp2_with (fail)
  refine ⟨trivial, (ascI 4 b _).mono ?_⟩
  rintro e w3 ⟨rfl, rfl⟩
  gi_wp2_with (fail)
  have n0 := EOwn.made w l.length 31
  obtain ⟨X1, hX1⟩ : ∃ X1, w.alloc (.cells (madeCells #[.string ByteArray.empty, .string ByteArray.empty, .int .i64 0] (l.length * 3)) 31) = X1 := ⟨_, rfl⟩
  rw [hX1] at n0
  rw [hX1]
  have s1 : X1.heap.size = w.heap.size + 1 := by rw [← hX1]; simp
  have k0 : Below w.heap.size w X1 := by rw [← hX1]; exact (Below.refl _ _).alloc (Nat.le_refl _) _
  have n1 := new1 X1 (.slice (some ⟨w.heap.size, 0, none⟩) 0 l.length) 29
  have n2 := new1 (X1.alloc (.cells #[.slice (some ⟨w.heap.size, 0, none⟩) 0 l.length] 29)) (.map (some b)) 66
  rw [World.size_alloc] at n2
  obtain ⟨W0, hW0⟩ : ∃ W0, (X1.alloc (.cells #[.slice (some ⟨w.heap.size, 0, none⟩) 0 l.length] 29)).alloc (.cells #[.map (some b)] 66) = W0 := ⟨_, rfl⟩
  have k1 : Below X1.heap.size X1 W0 := by rw [← hW0]; exact ((Below.refl _ _).alloc (Nat.le_refl _) _).alloc (by simp) _
  have k2 : Below (X1.heap.size + 1) (X1.alloc (.cells #[.slice (some ⟨w.heap.size, 0, none⟩) 0 l.length] 29)) W0 := by rw [← hW0]; exact (Below.refl _ _).alloc (by simp) _
  have hsz : W0.heap.size = w.heap.size + 3 := by rw [← hW0]; simp; omega
  have d1 : W0.cell? ⟨w.heap.size + 1, 0, none⟩ = some (.slice (some ⟨w.heap.size, 0, none⟩) 0 l.length) := by rw [← s1]; exact (k2.cell (p := ⟨X1.heap.size, 0, none⟩) (by simp)).trans n1.1
  have e1 : W0.frozen? ⟨w.heap.size + 1, 0, none⟩ = false := by rw [← s1]; exact (k2.frozen (p := ⟨X1.heap.size, 0, none⟩) (by simp)).trans n1.2
  have d2 : W0.cell? ⟨w.heap.size + 2, 0, none⟩ = some (.map (some b)) := by rw [← hW0]; rw [s1] at n2; exact n2.1
  have hB0 : Below w.heap.size w W0 := below_trans k0 k1
  have r0 : EOwn W0 w.heap.size (padE l.length []) := by
    have := n0.kept k1
    unfold padE
    simpa using this
  have HM0 := hide ((unhide H).kept hB0)
  rw [hW0]
  clear n0 n1 n2 hX1 hW0 k0 k1 k2 s1 hln hmk
  refine wpIn_rangeFunc_ownH rfl (by omega) (gf := 67) (lb := #[.pointer (some ⟨w.heap.size + 2, 0, none⟩)]) rfl trivial (enters_of Try.func67 (by kernel_rfl) rfl)
    (asc_stops 4 (by omega) (w.heap.size + 2) w.heap.size b l (unhide HA) (by omega) (unhide HS) W0 hbw (Nat.le_refl _) (by omega) d2 (unhide HM0)) KpB.trans (KpB.put (n := W0.heap.size) (by omega)) (Below.refl _ _) (fun _ => rfl)
    (fun pre W => (W.cell? ⟨w.heap.size + 1, 0, none⟩ = some (.slice (some ⟨w.heap.size, 0, none⟩) pre.length l.length) ∧ W.frozen? ⟨w.heap.size + 1, 0, none⟩ = false ∧ (0 < l.length → EOwn W w.heap.size (padE l.length pre)) ∧ w.heap.size + 3 ≤ W.heap.size) ∧ Below w.heap.size w W)
    (fun c pre W => False)
    (OwnFrom.and (Own.from (fun pre A B row hs hg hr => ⟨cell_kept hs.1 hg hr, (frozen_kept hs.1 hg hr).trans hs.2.1, fun h0 => (hs.2.2.1 h0).keptR (padE_pos pre h0) hg hr, Nat.le_trans hs.2.2.2 hg.size⟩) _) (ownFrom_below (Nat.le_refl _) (by omega)))
    (fun c => fun _ _ _ _ h _ _ => h)
    ⟨⟨d1, e1, fun _ => r0, by omega⟩, hB0⟩
    (fun x a' W => ∃ p, w.heap.size + 3 ≤ p ∧ a' = { tmps := #[.map (some b), undef, .slice none 0 0, .pointer (some ⟨w.heap.size + 1, 0, none⟩), undef, .pointer (some ⟨p, 0, none⟩), .map (some b), .int .i64 l.length, .slice (some ⟨w.heap.size, 0, none⟩) 0 l.length, .map (some b), .func (.func 67) #[] #[.pointer (some ⟨w.heap.size + 1 + 1, 0, none⟩)], .string x.1, eV x, undef, undef, undef, undef, undef], defers := [] } ∧
      W.cell? ⟨p, 0, none⟩ = some (.string x.1) ∧ W.cell? ⟨p, 1, none⟩ = some (.string x.2.1) ∧ W.cell? ⟨p, 2, none⟩ = some (.int .i64 x.2.2))
    (fun x a' => Own.from (fun _ A B row hs hg hr => by
      obtain ⟨p, hp, ha, c0, c1, c2⟩ := hs
      exact ⟨p, hp, ha, cell_kept c0 hg hr, cell_kept c1 hg hr, cell_kept c2 hg hr⟩) _)
    ?assign ?body ?done ?stop
  case assign =>
    rintro lp pre ⟨s, m, q⟩ W K ⟨⟨h1, h2, h3, h4⟩, hB⟩ hK
    have HK := hide hK
    have H3 := hide h3
    clear hK h3
    gi_wp2
    have hg := grown_alloc W (.cells #[.string s, .string m, .int .i64 q] 31)
    refine unhide HK _ _ ((KeepsOthers.alloc _ _).from _) (KpB.grown hg (.inl rfl)) ⟨⟨cell_kept h1 hg (by simp), (frozen_kept h1 hg (by simp)).trans h2, fun h0 => (unhide H3 h0).keptR (padE_pos pre h0) hg (by simp), Nat.le_trans h4 hg.size⟩, hB.alloc hB.size _⟩ ⟨W.heap.size, h4, rfl, ?_, ?_, ?_⟩
    · go_keep
    · go_keep
    · go_keep
  case body =>
    rintro lp pre ⟨s, m, q⟩ a' W hlp hloop ⟨⟨h1, h2, h3, h4⟩, hB⟩ ⟨p, hp, rfl, c0, c1, c2⟩ hlen
    have hE := h3 (by omega)
    have HRUN := hide (fun ty => app_run s m q hE hlen ty)
    have hk1 := hE.kept ((Below.refl W.heap.size W).alloc (Nat.le_refl _) (.cells #[.string s, .string m, .int .i64 q] 31))
    have hk2 := hk1.set (k := pre.length) (by rw [padE_len (by omega)]; exact hlen) (s, m, q)
    rw [padE_step hlen, Nat.zero_add] at hk2
    have HE := hide hk2
    have HB : Hid (Below w.heap.size w ((((W.alloc (.cells #[.string s, .string m, .int .i64 q] 31)).setCell ⟨w.heap.size, pre.length * 3, none⟩ (.string s)).setCell ⟨w.heap.size, pre.length * 3 + 1, none⟩ (.string m)).setCell ⟨w.heap.size, pre.length * 3 + 2, none⟩ (.int .i64 q))) := hide ((((hB.alloc hB.size _).setCell (p := ⟨w.heap.size, pre.length * 3, none⟩) (Nat.le_refl _) _).setCell (p := ⟨w.heap.size, pre.length * 3 + 1, none⟩) (Nat.le_refl _) _).setCell (p := ⟨w.heap.size, pre.length * 3 + 2, none⟩) (Nat.le_refl _) _)
    have HKO : Hid (KeepsOthers W ((((W.alloc (.cells #[.string s, .string m, .int .i64 q] 31)).setCell ⟨w.heap.size, pre.length * 3, none⟩ (.string s)).setCell ⟨w.heap.size, pre.length * 3 + 1, none⟩ (.string m)).setCell ⟨w.heap.size, pre.length * 3 + 2, none⟩ (.int .i64 q))) := hide ((((KeepsOthers.alloc _ _).trans (KeepsOthers.setCell _ _ _)).trans (KeepsOthers.setCell _ _ _)).trans (KeepsOthers.setCell _ _ _))
    have HKP : Hid (KpB w.heap.size W ((((W.alloc (.cells #[.string s, .string m, .int .i64 q] 31)).setCell ⟨w.heap.size, pre.length * 3, none⟩ (.string s)).setCell ⟨w.heap.size, pre.length * 3 + 1, none⟩ (.string m)).setCell ⟨w.heap.size, pre.length * 3 + 2, none⟩ (.int .i64 q))) := hide ((((KpB.grown (grown_alloc _ _) (.inl rfl)).trans (KpB.grown (set_grown _ _ _ _) (.inr (.inl rfl)))).trans (KpB.grown (set_grown _ _ _ _) (.inr (.inl rfl)))).trans (KpB.grown (set_grown _ _ _ _) (.inr (.inl rfl))))
    have g1 : ((((W.alloc (.cells #[.string s, .string m, .int .i64 q] 31)).setCell ⟨w.heap.size, pre.length * 3, none⟩ (.string s)).setCell ⟨w.heap.size, pre.length * 3 + 1, none⟩ (.string m)).setCell ⟨w.heap.size, pre.length * 3 + 2, none⟩ (.int .i64 q)).cell? ⟨w.heap.size + 1, 0, none⟩ = some (.slice (some ⟨w.heap.size, 0, none⟩) pre.length l.length) := by
      rw [World.cell?_setCell_other _ _ _ _ (by simp), World.cell?_setCell_other _ _ _ _ (by simp), World.cell?_setCell_other _ _ _ _ (by simp)]
      exact cell_kept h1 (grown_alloc _ _) (by simp)
    have g2 : ((((W.alloc (.cells #[.string s, .string m, .int .i64 q] 31)).setCell ⟨w.heap.size, pre.length * 3, none⟩ (.string s)).setCell ⟨w.heap.size, pre.length * 3 + 1, none⟩ (.string m)).setCell ⟨w.heap.size, pre.length * 3 + 2, none⟩ (.int .i64 q)).frozen? ⟨w.heap.size + 1, 0, none⟩ = false := by
      rw [World.frozen?_setCell, World.frozen?_setCell, World.frozen?_setCell]
      exact (frozen_kept h1 (grown_alloc _ _) (by simp)).trans h2
    have g3 : w.heap.size + 3 ≤ ((((W.alloc (.cells #[.string s, .string m, .int .i64 q] 31)).setCell ⟨w.heap.size, pre.length * 3, none⟩ (.string s)).setCell ⟨w.heap.size, pre.length * 3 + 1, none⟩ (.string m)).setCell ⟨w.heap.size, pre.length * 3 + 2, none⟩ (.int .i64 q)).heap.size := by simp; omega
    generalize hX : ((((W.alloc (.cells #[.string s, .string m, .int .i64 q] 31)).setCell ⟨w.heap.size, pre.length * 3, none⟩ (.string s)).setCell ⟨w.heap.size, pre.length * 3 + 1, none⟩ (.string m)).setCell ⟨w.heap.size, pre.length * 3 + 2, none⟩ (.int .i64 q)) = X at *
    clear h3 hE hloop hlp hB hk1 hk2 hX
    simp only at c0 c1 c2
    gi_wp2_with (first | (gi_at_builtin; refine wpListIn_app rfl _ _ 29 rfl _ _ _ rfl rfl (unhide HRUN) ?_) | gi_in)
    refine ⟨((unhide HKO).trans (KeepsOthers.setCell _ _ _)).from _, (unhide HKP).trans (KpB.grown (set_grown _ _ _ _) (.inr (.inr rfl))), ⟨?_, by rw [World.frozen?_setCell]; exact g2, fun _ => (unhide HE).other (by omega) _ _, by simpa using g3⟩, (unhide HB).setCell (p := ⟨w.heap.size + 1, 0, none⟩) (by simp) _⟩
    rw [World.cell?_setCell_same _ _ _ g1]
    simp
  case done =>
    rintro D ys W hD rfl ⟨⟨h1, h2, h3, h4⟩, hB⟩ hK
    have H3 := hide h3
    have HB := hide hB
    clear h3 hB
    gi_wp2_with (fail)
    refine ⟨by simp, .inl ⟨_, _, rfl, run_takeDeferred hK, ?_⟩⟩
    refine ⟨.slice (some ⟨w.heap.size, 0, none⟩) ys.length ys.length, ?_, _, rfl, ?_, (unhide HB).trans (belowK_b (w := w) (Nat.le_refl _) W D _ _ (by omega) hK rfl rfl)⟩
    · simp [results, Try.results39, go_sem]
    · by_cases h0 : ys.length = 0
      · exact .inl ⟨List.length_eq_zero_iff.1 h0, _, _, by rw [h0]⟩
      · refine .inr ⟨w.heap.size, ys.length, rfl, ⟨Nat.le_refl _, Nat.le_refl _⟩, ?_⟩
        have hE := unhide H3 (by omega)
        rw [padE_full rfl] at hE
        exact hE.keptR (by omega) (grownBy_putObj' W D (.deferred none)) (fun r e => by cases e; exact ⟨_, hK, rfl⟩)
  case stop =>
    intro D c pre W _ _ h _
    exact h.elim
end Go.Proofs.Ythhkjbhkginecaa.Evs
