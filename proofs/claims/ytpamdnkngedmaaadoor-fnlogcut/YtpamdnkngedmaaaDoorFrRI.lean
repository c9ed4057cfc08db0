/-
  impl.LogRead.
-/
import Derived.Test.YtpamdnkngedmaaaDoorFrL
import Derived.Test.YtpamdnkngedmaaaDoorFrR
import Derived.RangeFuncBox
import Derived.ArgAppend
import Derived.RegionIn
import Derived.OrdersIn
namespace Go.Proofs.YtpamdnkngedmaaaDoor.Fr
set_option linter.unusedVariables false
open Go.RowKit Go.Shelf
open _root_.Go.Proofs.YtpamdnkngedmaaaDoor.Text (Env)
open Draw (TN infoS')

attribute [local go_sem] Oper.semAt_some

/-- one text more, inside a fence -/
theorem wpListIn_appT {F : Fence} {nF : Nat} {w : World} {ops : Array Oper} {rest : List Oper} {o : Oper} {a : Act} {Q : Exit → Act → World → Prop} (hgd : o.guard = none) (s x : Operand)
    (ho : o.op = .call { callee := .builtin .append, args := #[s, x], argTypes := #[23, 23] }) (B k : Nat) (v : Value) (l : List Value) (q : ByteArray) (N : Nat) (hk : l.length = k) (hs : a.eval s = v) (hown : w.ownsRow B 9 1 v k l) (hx : a.eval x = .slice (some ⟨N, 0, none⟩) 1 1) (hN : w.heap[N]? = some (.cells #[.string q] 9 (0, 0)))
    (hl : l.length ≤ 1000000) (hB : B ≤ w.heap.size)
    (h : ∀ g c w', w'.ownsRow B 9 1 (.slice (some ⟨g, 0, none⟩) (k + 1) c) (k + 1) (l ++ [.string q]) → w.grownBy w' v.ownBlock → g < w'.heap.size → (v.ownBlock = some g ∨ g = w.heap.size) → wpListIn F nF Tryd.prog ops Q rest (a.put o.dst (.slice (some ⟨g, 0, none⟩) (k + 1) c)) w') : wpListIn F nF Tryd.prog ops Q (o :: rest) a w := by
  subst hk
  obtain ⟨i, hi, hz, hsz, hby⟩ := infoS'
  obtain ⟨g, c, w', hr, h1, h2, h3, h4⟩ := run_append_lies (P := Tryd.prog) w 23 o.type B 9 i _ 1 16 Tryd.underlying23 hi hz hsz hby rfl (by omega) v l.length l hown ⟨N, 0, none⟩ 1 1 [.string q] rfl (fun j u hj => by
      match j, hj with
      | 0, hj => obtain rfl : Value.string q = u := by simpa using hj
                 simp [World.cell?, Addr.add_lit, hN]) (by simp [Value.oneCell']) (by omega) (by unfold maxLen; omega) (by omega) hB _ rfl
  refine wpListIn_plain hgd fun K hK => ?_
  unfold Oper.wpIn
  refine ⟨by simp [Oper.about, ho, resolve, Target.leads, Sem.run_pure], ?_⟩
  rw [Oper.semAt_plain F _ _ (by rw [ho]; intro c hc'; cases hc')]
  simp [execOp, ho, resolve, invoke, builtin, hs, hx, hr, Result.andThen]
  exact hK _ _ (h g c w' (by simpa using h1) h2 h4 h3)

theorem boxed_own {β : Type} (B : Nat) (t : TypeId) (f : β → Value) : Own (fun s W => Boxed W B t (f s)) := by
  rintro s X Y row hv hg hrow
  refine hv.kept hg (fun e' => ?_)
  obtain ⟨o, ho, hc⟩ := hrow B e'.symm
  rw [show X.heap[B]? = _ from hv] at ho; cases ho; cases hc

set_option maxRecDepth 100000 in
set_option maxHeartbeats 4000000 in
/-- impl.LogRead -/
theorem readI (s : ByteArray) (tp : TypeId) (v : Value) (w : World) (hs : s.size ≤ maxLen) (he : Env w) (hv : ErrAt w tp v) :
    Calls Tryd.prog 11 #[.string s] w fun e w' => ∃ u ts n, e = .returned (.tuple #[u, .int .i64 (n : Nat)]) ∧ TN w' w.heap.size u ts ∧ Out s ts n ∧ Below w.heap.size w w' := by
  have hs' := hs
  unfold maxLen at hs'
  by_cases hbig : 100000 < s.size
  · have HO : Out s [] 0 := by unfold Out; rw [if_neg (by omega)]; exact ⟨rfl, rfl⟩
    refine (callsIn_wide (n := 5)).1 ?_
    refine callsIn_of_wp_marks Tryd.func11 rfl trivial ?_ rfl
    simp only [Tryd.ntmps11, List.size_toArray, List.length_cons, List.length_nil, Nat.reduceAdd, Nat.reduceSub, Array.replicate_succ, Array.replicate_zero, List.push_toArray, List.append_toArray, List.nil_append, List.cons_append]
    gi_wp2_with (fail)
    refine ⟨.tuple #[.slice none 0 0, .int .i64 0], by simp [results, Tryd.results11, go_sem], _, [], 0, rfl, ⟨rfl, .inl ⟨rfl, rfl⟩⟩, HO, Below.refl _ _⟩
  refine (callsIn_wide (n := 5)).1 ?_
  refine callsIn_of_wp_marks Tryd.func11 rfl trivial ?_ rfl
  simp only [Tryd.ntmps11, List.size_toArray, List.length_cons, List.length_nil, Nat.reduceAdd, Nat.reduceSub, Array.replicate_succ, Array.replicate_zero, List.push_toArray, List.append_toArray, List.nil_append, List.cons_append]
  gi_wp2_with (fail)
  refine ⟨trivial, (framesOfI 4 s _).mono ?_⟩
  rintro e w3 ⟨rfl, rfl⟩
  gi_wp2_with (fail)
  have b0 := Boxed.new w 23 (.slice none 0 0)
  have b1 := Boxed.new (w.alloc (.cells #[.slice none 0 0] 23)) 3 (.int .i64 0)
  have b2 := Boxed.new ((w.alloc (.cells #[.slice none 0 0] 23)).alloc (.cells #[.int .i64 0] 3)) 9 (.string s)
  obtain ⟨W0, hW0⟩ : ∃ W0, ((w.alloc (.cells #[.slice none 0 0] 23)).alloc (.cells #[.int .i64 0] 3)).alloc (.cells #[.string s] 9) = W0 := ⟨_, rfl⟩
  have b0' := (b0.alloc (.cells #[.int .i64 0] 3)).alloc (.cells #[.string s] 9)
  have b1' := b1.alloc (.cells #[.string s] 9)
  rw [hW0] at b0' b1' b2
  rw [World.size_alloc] at b1' b2
  rw [World.size_alloc] at b2
  have hB0 : Below w.heap.size w W0 := by rw [← hW0]; exact (((Below.refl _ _).alloc (Nat.le_refl _) _).alloc (by simp) _).alloc (by simp; omega) _
  have hsz : W0.heap.size = w.heap.size + 1 + 1 + 1 := by rw [← hW0]; simp
  have HB0 := hide b0'
  have HB1 := hide b1'
  have c2 := b2.cell
  rw [hW0]
  clear hW0 b0 b1 b0' b1' b2
  refine wpIn_rangeFunc_ownH rfl (by omega) (gf := 31) (lb := #[.pointer (some ⟨w.heap.size + 1 + 1, 0, none⟩)]) rfl trivial (enters_of Tryd.func31 (by kernel_rfl) rfl)
    (frames_stops 4 (by omega) (w.heap.size + 1 + 1) w.heap.size (fun j => j < w.heap.size ∨ j = w.heap.size + 1 + 1) s (by omega) tp v w he hv rfl W0 (.inr rfl) (fun j hj => by rcases hj with hj | hj <;> omega) (fun j hj => .inl hj) hB0 c2) KpS.trans (KpS.put (n := W0.heap.size) (fun j hj => by rcases hj with hj | hj <;> omega)) (Below.refl _ _) (fun _ => rfl)
    (fun pre W => ((∃ u, Boxed W w.heap.size 23 u ∧ W.ownsRow w.heap.size 9 1 u pre.length (pre.map fun x => Value.string x.1) ∧ u.ownBlock ≠ some (w.heap.size + 1 + 1)) ∧ Boxed W (w.heap.size + 1) 3 (.int .i64 ((pre.getLastD (ByteArray.empty, 0)).2 : Nat))) ∧ Below w.heap.size w W)
    (fun c pre W => False)
    (OwnFrom.and (OwnFrom.and ((holdsRow_own w.heap.size w.heap.size 23 9 1 (fun pre : List (ByteArray × Nat) => pre.length) (fun pre => pre.map fun x => Value.string x.1) (fun _ u => u.ownBlock ≠ some (w.heap.size + 1 + 1))).from _) (Own.from (boxed_own _ _ _) _)) (ownFrom_below (Nat.le_refl _) (by omega)))
    (fun c => fun _ _ _ _ h _ _ => h)
    ⟨⟨⟨_, unhide HB0, ⟨rfl, .inl ⟨rfl, rfl⟩⟩, by simp [Value.ownBlock]⟩, unhide HB1⟩, hB0⟩
    (fun x a' W => a' = { tmps := #[.string s, undef, .slice none 0 0, .int .i64 0, .pointer (some ⟨w.heap.size, 0, none⟩), .pointer (some ⟨w.heap.size + 1, 0, none⟩), .string x.1, .int .i64 (x.2 : Nat), .string s, .int .i64 (s.size : Nat), .bool (decide (100000 < (s.size : Int))), .string s, .func (.func 31) #[] #[.pointer (some ⟨w.heap.size + 1 + 1, 0, none⟩)], .string x.1, .int .i64 (x.2 : Nat), undef, undef, undef, undef, undef, undef, undef], defers := [] })
    (fun x a' => Own.from (fun _ A B row hs hg hr => hs) _)
    ?assign ?body ?done ?stop
  case assign =>
    rintro lp pre x W K hI hK
    have HK := hide hK
    have HI := hide hI
    clear hK hI
    gi_wp2
    exact unhide HK _ _ ((KeepsOthers.refl _).from _) ⟨rfl, rfl, rfl, Nat.le_refl _, fun _ _ => rfl⟩ (unhide HI) rfl
  case body =>
    rintro lp pre x a' W hlp hloop ⟨⟨⟨u, hu, hrow, hnb⟩, hwh⟩, hB⟩ rfl hlen
    have hWz : w.heap.size + 1 + 1 < W.heap.size := by
      obtain ⟨r, hr⟩ := hloop
      have := (Array.getElem?_eq_some_iff.1 hr).1
      omega
    have hform : ∃ ao k, u = .slice ao pre.length k := by
      rcases hrow.2 with ⟨rfl, h0⟩ | ⟨g, cap, cur, rfl, _⟩
      · exact ⟨none, 0, by rw [h0]⟩
      · exact ⟨_, _, rfl⟩
    obtain ⟨ao, k, rfl⟩ := hform
    have HU := hide hu
    have HR := hide hrow
    have HB := hide hB
    have HWH := hide hwh
    have h1 := hu.cell
    rw [toL] at hlen
    have HNB := hide hnb
    clear hu hrow hB hloop hwh hnb
    gi_wp2_with (first
      | (gi_at_builtin
         refine wpListIn_appT rfl _ _ rfl w.heap.size pre.length (.slice ao pre.length k) (pre.map fun x => Value.string x.1) x.1 W.heap.size (by simp) rfl ((unhide HR).kept (World.grownBy_alloc _ _ none) (by cases (Value.slice ao pre.length k).ownBlock with | none => exact .inl rfl | some b => exact .inr (by simp))) rfl (MapKept.heap_alloc _ _).1 (by simp; omega) (by have := (unhide HB).size; simp; omega) ?_
         intro g c w' ho hg hlt hgn
         have hgn' : g ≠ w.heap.size + 1 + 1 := by
           rcases hgn with e | e
           · intro e2; exact unhide HNB (by rw [e, e2])
           · rw [World.size_alloc] at e; omega
         have HS2 : Hid (w'.heap[w.heap.size + 1 + 1]? = W.heap[w.heap.size + 1 + 1]?) := hide ((hg.block _ (by simp; omega) (Ne.symm (unhide HNB))).trans (((Below.refl _ W).alloc (Nat.le_refl _) _).block _ hWz))
         obtain ⟨b1, b2, b3, b4, b5⟩ := Boxed.appended (unhide HU) (by decide) (unhide HR) (unhide HB).size (Nat.le_refl _) ho hg
         have HZ2 : Hid (W.heap.size ≤ w'.heap.size) := hide (by have := hg.size; simp at this; omega)
         have f1 := b1.cell
         have f2 := b1.frozen
         have B2 := hide b2
         have B3 := hide b3
         have B4 := hide b4
         have B5 := hide b5
         have B6 : Boxed w' (w.heap.size + 1) 3 (.int .i64 ((pre.getLastD (ByteArray.empty, 0)).2 : Nat)) := ((unhide HWH).alloc _).kept hg ((unhide HWH).not_row (by decide) (unhide HR))
         have B7 : Boxed (w'.setCell ⟨w.heap.size, 0, none⟩ (.slice (some ⟨g, 0, none⟩) (pre.length + 1) c)) (w.heap.size + 1) 3 (.int .i64 ((pre.getLastD (ByteArray.empty, 0)).2 : Nat)) := B6.kept (grownBy_setCell' _ _ _) (by simp)
         have f3 := B7.cell
         have f4 := B7.frozen
         have B8 := hide B7
         clear b1 b2 b3 b4 b5 B6 B7 ho hg hgn)
      | gi_in)
    have B := (unhide B5).setCell (p := ⟨w.heap.size + 1, 0, none⟩) (Nat.le_add_right _ _) (.int .i64 (x.2 : Nat))
    refine ⟨((unhide B4).trans (KeepsOthers.setCell _ _ _)).from _, ⟨B.os, B.tape, B.output, B.size, fun j hj => ?_⟩, ⟨⟨_, (unhide B2).kept (grownBy_setCell' _ _ _) (by simp), ?_, ?_⟩, ?_⟩, (unhide HB).trans B⟩
    · rcases hj with hj | rfl
      · exact B.block j hj
      · have z2 := unhide HZ2
        have e1 := (grownBy_setCell' w' w.heap.size (.slice (some ⟨g, 0, none⟩) (pre.length + 1) c)).block (w.heap.size + 1 + 1) (by omega) (by simp; omega)
        have e2 := (grownBy_setCell' (w'.setCell ⟨w.heap.size, 0, none⟩ (.slice (some ⟨g, 0, none⟩) (pre.length + 1) c)) (w.heap.size + 1) (.int .i64 (x.2 : Nat))).block (w.heap.size + 1 + 1) (by rw [World.size_setCell]; omega) (by simp)
        exact e2.trans (e1.trans (unhide HS2))
    · have := (unhide B3).kept (grownBy_setCell' _ (w.heap.size + 1) (.int .i64 (x.2 : Nat))) (.inr (Ne.symm ((unhide B8).not_row (by decide) (unhide B3))))
      simpa using this
    · simp [Value.ownBlock]; exact hgn'
    · have := (unhide B8).set (.int .i64 (x.2 : Nat))
      simpa using this
  case done =>
    rintro D ys W hD ⟨a, hys, hno⟩ ⟨⟨⟨u, hu, hrow, _⟩, hwh⟩, hB⟩ hK
    have h1 := hu.cell
    have h2 := hwh.cell
    have HR := hide hrow
    have HB := hide hB
    have hform : ∃ ao n k, u = .slice ao n k := by
      rcases hrow.2 with ⟨rfl, _⟩ | ⟨g, cap, cur, rfl, _⟩
      · exact ⟨_, _, _, rfl⟩
      · exact ⟨_, _, _, rfl⟩
    obtain ⟨ao, n, k, rfl⟩ := hform
    clear hu hrow hB hwh
    have hout : Out s (ys.map (·.1)) a := out_of (by omega) hys.1 hno
    have hlast : (ys.getLastD (ByteArray.empty, 0)).2 = a := hys.2
    rw [hlast] at h2
    gi_wp2_with (fail)
    gi_region
    gi_wp2_with (fail)
    have hKd : W.drew.heap[D]? = some (.deferred (some [])) := hK
    have hBd : Below w.heap.size w W.drew := ⟨(unhide HB).os, (unhide HB).tape, (unhide HB).output, (unhide HB).size, (unhide HB).block⟩
    have hRd : W.drew.ownsRow w.heap.size 9 1 (.slice ao n k) ys.length (ys.map fun x => Value.string x.1) := unhide HR
    refine ⟨by simp, .inl ⟨_, _, rfl, run_takeDeferred hKd, ?_⟩⟩
    refine ⟨.tuple #[.slice ao n k, .int .i64 (a : Nat)], by simp [results, Tryd.results11, go_sem], _, ys.map (·.1), a, rfl, ?_, hout, hBd.grown (grownBy_putObj' W.drew D (.deferred none)) hBd.size (fun k e => by cases e; omega)⟩
    have h3 := ownsRow_putObj hRd (.deferred none) hKd rfl
    unfold TN
    rw [List.length_map, List.map_map]
    exact h3
  case stop =>
    intro D c pre W _ _ h _
    exact h.elim
end Go.Proofs.YtpamdnkngedmaaaDoor.Fr
