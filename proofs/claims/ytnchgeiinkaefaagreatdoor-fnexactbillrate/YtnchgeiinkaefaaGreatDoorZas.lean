/-
  Texts of this proof laid together, in build order; each says of itself what it holds.
-/
import Derived.Test.YtnchgeiinkaefaaGreatDoorZar
import Derived.Deep.LoopGhost
import Derived.Deep.RegionHeld3
import Derived.Test.YtnchgeiinkaefaaGreatDoorZah
import Derived.Test.YtnchgeiinkaefaaGreatDoorZad
import Derived.Deep.SlicePairs
import Derived.Lib.SmallJoins
import Derived.Test.YtnchgeiinkaefaaGreatDoorZae
import Derived.Shelf.SlSortCmp.WholeK
import Derived.Ground.SlsfProg
import Derived.Test.YtnchgeiinkaefaaGreatDoorProg
import Derived.Shelf.SlIter.Nil
import Derived.Shelf.SortM.Plain
import Derived.Shelf.SortM.SortNone
import Derived.Ground.GgzProg
import Derived.Ground.SlgmProg
section
/-
  impl.runExpr.
-/
namespace Go.Proofs.YtnchgeiinkaefaaGreatDoor.Rule
set_option linter.unusedVariables false
open Go.RowKit Tiers
open Kinds hiding hide unhide below_trans ext_toList
open Coin (okB addV addB timesV fitB partV partB)
open Draw (grown_trans grown_none grown_of_below below_of)

theorem grown_ad (w : World) (o : Obj) (r : Option Nat) : w.grownBy (w.alloc o).drew r := by
  have h := World.grownBy_alloc w o r
  exact ⟨h.os, h.tape, h.output, h.size, h.block⟩

/-- the box E holds e, and may be written -/
structure EBox (W : World) (E : Nat) (e : Ex) (ka : Option Addr) (kc : Nat) (ta : Option Addr) (tc : Nat) : Prop where
  box : Box W E e ka kc ta tc
  free : ∀ j, W.frozen? ⟨E, j, none⟩ = false
theorem EBox.kept {W W' : World} {E : Nat} {e : Ex} {ka : Option Addr} {kc : Nat} {ta : Option Addr} {tc : Nat} {r : Option Nat} (h : EBox W E e ka kc ta tc) (hg : W.grownBy W' r) (hne : some E ≠ r) : EBox W' E e ka kc ta tc := by
  have hE := lt_of_cell h.box.1
  have hb := hg.block E hE hne
  exact ⟨h.box.same hb, fun j => (World.frozen?_of_block (w := W) hb).trans (h.free j)⟩
theorem EBox.new (w : World) (e : Ex) (ka : Option Addr) (kc : Nat) (ta : Option Addr) (tc : Nat) (t : TypeId) : EBox (w.alloc (.cells #[.int .i64 e.kind, .int .i64 e.num, .string e.meter, .slice ka e.kids.length kc, .slice ta e.tiers.length tc] t)) w.heap.size e ka kc ta tc := by
  refine ⟨Box.new w e ka kc ta tc t, fun j => ?_⟩
  simp only [World.frozen?, (MapKept.heap_alloc w _).1]
  simp

/-- an expression that is right, as it came in -/
structure In (lo hi : Nat) (w : World) (e : Ex) (ka : Option Addr) (kc : Nat) (ta : Option Addr) (tc : Nat) : Prop where
  ev : ∃ d, EV lo hi w d (exV e ka kc ta tc) e
  all : allB e = true
  wt : wt e ≤ 1048576
/-- at the head of the outer loop -/
structure OutR (us : List Uses.U) (lo hi : Nat) (w : World) (rv : Int) (rc rl : Nat) (g : Nat) (s9 : Value) (wr : World) (st : List Fr) (e : Ex) (ka : Option Addr) (kc : Nat) (ta : Option Addr) (tc : Nat) : Prop where
  stk : Stk lo hi w wr (w.heap.size + 1) s9 st
  box : EBox wr w.heap.size e ka kc ta tc
  isIn : In lo hi w e ka kc ta tc
  ev : ∃ v c l', Ev us e g v c l' ∧ Cont us st v c l' rv rc rl
  below : Below w.heap.size w wr
  deep : st.length + g ≤ 1000
/-- at the head of the inner loop -/
structure InR (us : List Uses.U) (lo hi : Nat) (w : World) (rv : Int) (rc rl : Nat) (left : Nat) (s9 : Value) (wr : World) (x : Fr) (st : List Fr) : Prop where
  stk : Stk lo hi w wr (w.heap.size + 1) s9 (x :: st)
  box : ∃ e ka kc ta tc, EBox wr w.heap.size e ka kc ta tc
  ev : ∃ v c l', Rest us x.f x.vs left v c l' ∧ Cont us st v c l' rv rc rl
  below : Below w.heap.size w wr
  deep : st.length + 1 + left ≤ 1000

theorem infoF : (Tryz.prog.info? 207).map (fun i => (i.zero, i.size, i.bytes)) = some (some (.agg #[.nilIface, .int .i64 0, .int .i64 0, .string ByteArray.empty, .slice none 0 0, .slice none 0 0, .slice none 0 0]), 7, 120) := by kernel_rfl

theorem kindOf' {k : Int} (hk : 1 ≤ k ∧ k ≤ 10) (w : World) : Calls Tryz.prog 119 #[.int .i64 k] w fun e w' => e = .returned (.iface (typeK k) (recK k)) ∧ w' = w := by
  rw [← kindV_in hk]; exact kindOf k w
/-- one that begins -/
abbrev fr0 (e : Ex) (ka : Option Addr) (kc : Nat) (ta : Option Addr) (tc : Nat) : Fr := ⟨e, ka, kc, ta, tc, [], .slice none 0 0⟩
theorem oneK (k : Int) : (kindV k).oneCell' = true := by unfold kindV; split <;> rfl

section
variable {ops : Array Oper} {o : Oper} {a : Act} {K : Act → World → Prop} {Q : Exit → Act → World → Prop} {E : Prop}
theorem stepApp7 (w : World) (hgd : o.guard = none) (s x : Operand) (ho : o.op = .call { callee := .builtin .append, args := #[s, x], argTypes := #[205, 205] })
    (B N n : Nat) (v : Value) (st : List Fr) (e : Ex) (ka : Option Addr) (kc : Nat) (ta : Option Addr) (tc : Nat) (hk : 1 ≤ e.kind ∧ e.kind ≤ 10) (hn : st.length = n) (hs : a.eval s = v) (hown : w.ownsRow B 207 7 v st.length (flat7 st)) (hx : a.eval x = .slice (some ⟨N, 0, none⟩) 1 1)
    (hN : w.heap[N]? = some (.cells #[.iface (typeK e.kind) (recK e.kind), .int .i64 e.kind, .int .i64 e.num, .string e.meter, .slice ka e.kids.length kc, .slice ta e.tiers.length tc, .slice none 0 0] 207 (0, 0)))
    (hl : st.length ≤ 1000) (hB : B ≤ w.heap.size)
    (h : ∀ g c w', w'.ownsRow B 207 7 (.slice (some ⟨g, 0, none⟩) (st.length + 1) c) (st.length + 1) (flat7 st ++ (fr0 e ka kc ta tc).cells) → w.grownBy w' v.ownBlock → (v.ownBlock = some g ∨ g = w.heap.size) → g < w'.heap.size → K (a.put o.dst (.slice (some ⟨g, 0, none⟩) (n + 1) c)) w') :
    if Region.wanted o (yielded ops a.tmps) = true then Oper.wp Tryz.prog o a w K Q else E := by
  subst hn
  obtain ⟨i, hi, h2⟩ := Option.map_eq_some_iff.1 infoF
  simp only [Prod.mk.injEq] at h2
  rw [← kindV_in hk] at hN
  exact step_append_lies (P := Tryz.prog) w hgd s x 205 ho B 207 i _ 7 120 Tryz.underlying205 hi h2.1 h2.2.1 h2.2.2 rfl (by omega) v st.length (flat7 st) hs hown ⟨N, 0, none⟩ 1 1 (fr0 e ka kc ta tc).cells hx rfl (World.news_of_block hN) (by
    intro u hu
    simp only [Fr.cells, List.mem_cons, List.not_mem_nil, or_false] at hu
    rcases hu with rfl | rfl | rfl | rfl | rfl | rfl | rfl
    · exact oneK _
    all_goals rfl) (by omega) (by unfold maxLen; omega) (by omega) hB _ rfl h
end

theorem new7 (w : World) (a b c d e f g : Value) (t : TypeId) : (w.alloc (.cells #[a, b, c, d, e, f, g] t)).cell? ⟨w.heap.size, 0, none⟩ = some a ∧ (w.alloc (.cells #[a, b, c, d, e, f, g] t)).cell? ⟨w.heap.size, 1, none⟩ = some b ∧ (w.alloc (.cells #[a, b, c, d, e, f, g] t)).cell? ⟨w.heap.size, 2, none⟩ = some c ∧
    (w.alloc (.cells #[a, b, c, d, e, f, g] t)).cell? ⟨w.heap.size, 3, none⟩ = some d ∧ (w.alloc (.cells #[a, b, c, d, e, f, g] t)).cell? ⟨w.heap.size, 4, none⟩ = some e ∧ (w.alloc (.cells #[a, b, c, d, e, f, g] t)).cell? ⟨w.heap.size, 5, none⟩ = some f ∧ (w.alloc (.cells #[a, b, c, d, e, f, g] t)).cell? ⟨w.heap.size, 6, none⟩ = some g := by
  have e1 := (MapKept.heap_alloc w (.cells #[a, b, c, d, e, f, g] t)).1
  simp only [World.cell?]
  rw [e1]
  simp
theorem EBox.set {W : World} {E : Nat} {e : Ex} {ka : Option Addr} {kc : Nat} {ta : Option Addr} {tc : Nat} (h : EBox W E e ka kc ta tc) (f : Ex) (ka' : Option Addr) (kc' : Nat) (ta' : Option Addr) (tc' : Nat) :
    EBox (((((W.setCell ⟨E, 0, none⟩ (.int .i64 f.kind)).setCell ⟨E, 1, none⟩ (.int .i64 f.num)).setCell ⟨E, 2, none⟩ (.string f.meter)).setCell ⟨E, 3, none⟩ (.slice ka' f.kids.length kc')).setCell ⟨E, 4, none⟩ (.slice ta' f.tiers.length tc')) E f ka' kc' ta' tc' := by
  obtain ⟨⟨b0, b1, b2, b3, b4⟩, hf⟩ := h
  refine ⟨⟨?_, ?_, ?_, ?_, ?_⟩, fun j => by simpa [World.frozen?_setCell] using hf j⟩
  · rw [World.cell?_setCell_other _ _ _ _ (by simp), World.cell?_setCell_other _ _ _ _ (by simp), World.cell?_setCell_other _ _ _ _ (by simp), World.cell?_setCell_other _ _ _ _ (by simp)]
    exact World.cell?_setCell_same _ _ _ b0
  · rw [World.cell?_setCell_other _ _ _ _ (by simp), World.cell?_setCell_other _ _ _ _ (by simp), World.cell?_setCell_other _ _ _ _ (by simp)]
    exact World.cell?_setCell_same _ _ _ (by rw [World.cell?_setCell_other _ _ _ _ (by simp)]; exact b1)
  · rw [World.cell?_setCell_other _ _ _ _ (by simp), World.cell?_setCell_other _ _ _ _ (by simp)]
    exact World.cell?_setCell_same _ _ _ (by rw [World.cell?_setCell_other _ _ _ _ (by simp), World.cell?_setCell_other _ _ _ _ (by simp)]; exact b2)
  · rw [World.cell?_setCell_other _ _ _ _ (by simp)]
    exact World.cell?_setCell_same _ _ _ (by rw [World.cell?_setCell_other _ _ _ _ (by simp), World.cell?_setCell_other _ _ _ _ (by simp), World.cell?_setCell_other _ _ _ _ (by simp)]; exact b3)
  · exact World.cell?_setCell_same _ _ _ (by rw [World.cell?_setCell_other _ _ _ _ (by simp), World.cell?_setCell_other _ _ _ _ (by simp), World.cell?_setCell_other _ _ _ _ (by simp), World.cell?_setCell_other _ _ _ _ (by simp)]; exact b4)
theorem grown_set5 (W : World) (E : Nat) (a b c d e : Value) : W.grownBy (((((W.setCell ⟨E, 0, none⟩ a).setCell ⟨E, 1, none⟩ b).setCell ⟨E, 2, none⟩ c).setCell ⟨E, 3, none⟩ d).setCell ⟨E, 4, none⟩ e) (some E) :=
  grown_trans (grown_trans (grown_trans (grown_trans (grown_set _ _ _ _) (grown_set _ _ _ _)) (grown_set _ _ _ _)) (grown_set _ _ _ _)) (grown_set _ _ _ _)
theorem Stk.keptE {lo hi : Nat} {w0 W W' : World} {B E : Nat} {v : Value} {st : List Fr} (h : Stk lo hi w0 W B v st) (hg : W.grownBy W' (some E)) (hE : E < B) : Stk lo hi w0 W' B v st := by
  have hne : ∀ {e : TypeId} {size : Nat} {u : Value} {n : Nat} {xs : List Value}, W.ownsRow B e size u n xs → u.ownBlock = none ∨ u.ownBlock ≠ some E := fun hr => by
    right; intro e; have := (hr.lt E e).1; omega
  exact ⟨h.row.kept hg (hne h.row), fun x hx => (h.each x hx).kept hg (hne (h.each x hx).row), h.apart, h.off⟩
/-- a kid of one that has begun -/
theorem In.kid {lo hi : Nat} {w : World} {f : Ex} {ka : Option Addr} {kc : Nat} {ta : Option Addr} {tc : Nat} (h : In lo hi w f ka kc ta tc) {p : Nat} (hp : p < f.kids.length) :
    ∃ b o ka' kc' ta' tc', ka = some ⟨b, o, none⟩ ∧ b < hi ∧ KidC w b (o + p * 5) (f.kids.getD p E0) ka' kc' ta' tc' ∧ In lo hi w (f.kids.getD p E0) ka' kc' ta' tc' := by
  obtain ⟨d, kv, tv, heq, hz, hk, ht⟩ := h.ev
  simp only [Value.agg.injEq, Array.mk.injEq, List.cons.injEq, and_true, true_and] at heq
  obtain ⟨rfl, rfl⟩ := heq
  cases d with
  | zero => obtain ⟨h0, _⟩ := hk; rw [h0] at hp; simp at hp
  | succ d =>
    rcases hk with ⟨h0, _⟩ | ⟨b, o, cap, hs, hl, h1, h2, hc⟩
    · rw [h0] at hp; simp at hp
    · simp only [Value.slice.injEq, true_and] at hs
      obtain ⟨ka', kc', ta', tc', hc1, hE⟩ := kidEV hc p hp
      exact ⟨b, o, ka', kc', ta', tc', hs.1, h2, hc1, ⟨d, hE⟩, all_kid h.all hp, wt_kid hp h.wt⟩

section
variable {ops : Array Oper} {o : Oper} {a : Act} {Q : Exit → Act → World → Prop}
theorem infoI : (Tryz.prog.info? 3).map (fun i => (i.zero, i.size, i.bytes)) = some (some (.int .i64 0), 1, 8) := by kernel_rfl
theorem listApp1 (w : World) {rest : List Oper} (hgd : o.guard = none) (s x : Operand) (ho : o.op = .call { callee := .builtin .append, args := #[s, x], argTypes := #[91, 91] })
    (B N : Nat) (v : Value) (vs : List Int) (q : Int) (hs : a.eval s = v) (hown : w.ownsRow B 3 1 v vs.length (vs.map (Value.int .i64))) (hx : a.eval x = .slice (some ⟨N, 0, none⟩) 1 1) (hN : w.heap[N]? = some (.cells #[.int .i64 q] 3 (0, 0)))
    (hl : vs.length ≤ 3) (hB : B ≤ w.heap.size)
    (h : ∀ g c w', w'.ownsRow B 3 1 (.slice (some ⟨g, 0, none⟩) (vs.length + 1) c) (vs.length + 1) (vs.map (Value.int .i64) ++ [.int .i64 q]) → w.grownBy w' v.ownBlock → (v.ownBlock = some g ∨ g = w.heap.size) → g < w'.heap.size → wpList Tryz.prog ops Q rest (a.put o.dst (.slice (some ⟨g, 0, none⟩) (vs.length + 1) c)) w') :
    wpList Tryz.prog ops Q (o :: rest) a w := by
  obtain ⟨i, hi, h2⟩ := Option.map_eq_some_iff.1 infoI
  simp only [Prod.mk.injEq] at h2
  exact wpList_append_lies (P := Tryz.prog) w hgd s x 91 ho B 3 i (.int .i64 0) 1 8 Tryz.underlying91 hi h2.1 h2.2.1 h2.2.2 rfl (by omega) v vs.length _ hs hown ⟨N, 0, none⟩ 1 1 [.int .i64 q] hx rfl (World.news_of_block hN) (by simp [Value.oneCell']) (by omega) (by unfold maxLen; omega) (by omega) hB _ rfl h
end

set_option maxHeartbeats 3200000 in
set_option maxRecDepth 100000 in
theorem runI_expr (us : List Uses.U) (hul : us.length ≤ 1048576) (lo hi : Nat) (uv : Value) (e : Ex) (ka : Option Addr) (kc : Nat) (ta : Option Addr) (tc : Nat) (F : Nat) (hF : F ≤ 1000) (w : World) (hI : In lo hi w e ka kc ta tc) (hhi : hi ≤ w.heap.size) (hU : Uses.UR w uv us) (n' : Int) (c' l' : Nat) (hev : Ev us e F n' c' l') :
    Calls Tryz.prog 98 #[exV e ka kc ta tc, uv, .int .i64 (F : Int)] w fun x w' => x = .returned (.tuple #[.int .i64 (if c' = 0 then n' else 0), .int .i64 (c' : Int), .int .i64 ((F : Int) - l')]) ∧ Below w.heap.size w w' := by
  have HU := hide hU
  have H0 : Hid (OutR us lo hi w (if c' = 0 then n' else 0) c' l' F (.slice none 0 0) (w.alloc (.cells #[.int .i64 e.kind, .int .i64 e.num, .string e.meter, .slice ka e.kids.length kc, .slice ta e.tiers.length tc] 77)) [] e ka kc ta tc) :=
    hide ⟨Stk.nil _ _ _ _ _, EBox.new _ _ _ _ _ _ _, hI, ⟨n', c', l', hev, rfl, rfl, rfl⟩, below_alloc _ _, by simpa using hF⟩
  clear hU hI hev
  generalize (if c' = 0 then n' else 0) = rv at *
  go_enter Tryz.func98, Tryz.ntmps98
  go_wp2
  go_step3
  go_wp2
  go_step3
  go_wp2
  go_loopg [9, 10, 11] F (fun g s9 s10 s11 wr => ∃ (st : List Fr) (e : Ex) (ka : Option Addr) (kc : Nat) (ta : Option Addr) (tc : Nat), g ≤ F ∧ s10 = .int .i64 ((F : Int) - g) ∧ s11 = .int .i64 0 ∧ Hid (OutR us lo hi w rv c' l' g s9 wr st e ka kc ta tc))
  case atStart => exact ⟨[], e, ka, kc, ta, tc, Nat.le_refl _, by go_num, rfl, H0⟩
  case round =>
    obtain ⟨st, e, ka, kc, ta, tc, hg, rfl, rfl, hO⟩ := hrel
    clear H0
    cases gk with
    | zero =>
      obtain ⟨v, c, l, hv, hC⟩ := (unhide hO).ev
      obtain ⟨rfl, rfl⟩ := hv.nought
      obtain ⟨rfl, rfl, rfl⟩ := hC.bad (by omega)
      have HB := hide (unhide hO).below
      have t1 : ((F : Int) - (0 : Nat) == (F : Int)) = true := by simp
      clear hO hC hv
      go_wp2_with (fail)
      rw [Exit.noGoto_ret]
      go_ret3
      exact ⟨rfl, unhide HB⟩
    | succ g =>
      have t1 : ((F : Int) - ((g + 1 : Nat) : Int) == (F : Int)) = false := beq_eq_false_iff_ne.2 (by omega)
      have t2 : (F : Int) - ((g + 1 : Nat) : Int) + 1 = (F : Int) - g := by omega
      have t3 : -1 ≤ (F : Int) - ((g + 1 : Nat) : Int) := by omega
      have t4 : (F : Int) - ((g + 1 : Nat) : Int) ≤ 1000 := by omega
      have hk : 1 ≤ e.kind ∧ e.kind ≤ 10 := by
        have := node_parts (all_node (unhide hO).isIn.all); exact ⟨this.1, this.2.1⟩
      obtain ⟨b0, b1, b2, b3, b4⟩ := (unhide hO).box.box
      have hE : w.heap.size < wr.heap.size := lt_of_cell b0
      have hEne : some w.heap.size ≠ u9.ownBlock := fun e => by have := ((unhide hO).stk.row.lt w.heap.size e.symm).1; omega
      generalize (F : Int) - ((g + 1 : Nat) : Int) = tk at *
      go_wp2_with (fail)
      go_region_held_law (fun ww => ww.cell? ⟨w.heap.size, 0, none⟩ = some (.int .i64 e.kind) ∧ ww.cell? ⟨w.heap.size, 1, none⟩ = some (.int .i64 e.num) ∧ ww.cell? ⟨w.heap.size, 2, none⟩ = some (.string e.meter) ∧ ww.cell? ⟨w.heap.size, 3, none⟩ = some (.slice ka e.kids.length kc) ∧ ww.cell? ⟨w.heap.size, 4, none⟩ = some (.slice ta e.tiers.length tc)) (go_keep)
        (first | (go_at_call 119; refine (kindOf' hk _).mono ?_; rintro x wq ⟨rfl, rfl⟩) | (refine stepApp7 _ rfl _ _ rfl (w.heap.size + 1) wr.heap.size st.length u9 st e ka kc ta tc hk rfl rfl (World.ownsRow.kept (unhide hO).stk.row (grown_ad wr _ none) (ne_none _)) rfl (show (wr.alloc _).heap[wr.heap.size]? = _ from (MapKept.heap_alloc wr _).1) (by have := (unhide hO).deep; omega) (by simp; omega) ?_; intro gb cb w6 ho hgr hat hlt6; have hg6 : wr.grownBy w6 u9.ownBlock := grown_trans (grown_ad _ _ _) hgr; have EB6 := hide ((unhide hO).box.kept hg6 hEne); obtain ⟨p0, p1, p2, p3, p4⟩ := (unhide EB6).box))
      obtain ⟨W5, hW5⟩ : ∃ W5, (wr.alloc (.cells #[.iface (typeK e.kind) (recK e.kind), .int .i64 e.kind, .int .i64 e.num, .string e.meter, .slice ka e.kids.length kc, .slice ta e.tiers.length tc, .slice none 0 0] 207)).drew = W5 := ⟨_, rfl⟩
      have hb5 : Below wr.heap.size wr W5 := by
        rw [← hW5]; have := below_alloc wr (.cells #[.iface (typeK e.kind) (recK e.kind), .int .i64 e.kind, .int .i64 e.num, .string e.meter, .slice ka e.kids.length kc, .slice ta e.tiers.length tc, .slice none 0 0] 207); exact ⟨this.os, this.tape, this.output, this.size, this.block⟩
      rw [hW5] at hgr hat
      have HI : Hid (InR us lo hi w rv c' l' g (.slice (some ⟨gb, 0, none⟩) (st.length + 1) cb) w6 (fr0 e ka kc ta tc) st) := hide (by
        have h := unhide hO
        obtain ⟨v, c, l, hv, hC⟩ := h.ev
        refine ⟨(h.stk.kept hb5).push h.isIn.ev h.isIn.all h.isIn.wt rfl rfl ho hgr hat, ⟨e, ka, kc, ta, tc, unhide EB6⟩, ⟨v, c, l, hv.more, hC⟩, h.below.grown hg6 h.below.size (fun k hk => ?_), by have := h.deep; omega⟩
        have := (h.stk.row.lt k hk).1; omega)
      clear hgr hat ho hlt6 hg6 EB6 p0 p1 p2 p3 p4 hO b0 b1 b2 b3 b4 hE hEne hW5 hb5
      generalize fr0 e ka kc ta tc = x0 at *
      simp only [go_sem, List.getElem_toArray, List.getElem_cons_succ, List.getElem_cons_zero, List.setIfInBounds_toArray, List.set_cons_succ, List.set_cons_zero]
      go_wp2_with (fail)
      go_loopg [9, 11] st.length (fun g2 s9 s11 wy => ∃ (x : Fr) (st : List Fr), st.length = g2 ∧ s11 = .int .i64 0 ∧ Hid (InR us lo hi w rv c' l' g s9 wy x st))
      case atStart => exact ⟨x0, st, rfl, rfl, HI⟩
      case round =>
        clear HI
        obtain ⟨x, st2, hst, rfl, hJ⟩ := hrel
        obtain ⟨G, cap, hs9⟩ : ∃ G cap, u9 = .slice (some ⟨G, 0, none⟩) (st2.length + 1) cap := by
          rcases (unhide hJ).stk.row.2 with ⟨_, h⟩ | ⟨G, cap, cur, h, _⟩
          · simp at h
          · exact ⟨G, cap, h⟩
        subst hs9 hst
        obtain ⟨f, fka, fkc, fta, ftc, vs, vv⟩ := x
        have hx := (unhide hJ).stk.each _ (List.mem_cons_self ..)
        obtain ⟨va, vc, hvv⟩ := hx.vr.form
        simp only at hvv
        subst hvv
        obtain ⟨_, y0, y1, y2, y3, y4, y5, y6, yf⟩ := (unhide hJ).stk.top
        simp only at y0 y1 y2 y3 y4 y5 y6
        obtain ⟨k1, k2, k3, k4⟩ := node_parts (all_node hx.all)
        simp only at k1 k2 k3 k4
        have hkf : 1 ≤ f.kind ∧ f.kind ≤ 10 := ⟨k1, k2⟩
        rw [kindV_in hkf] at y0
        have hvl : vs.length ≤ 3 := hx.len
        obtain ⟨W7, hW7⟩ : ∃ W7, wr.alloc (.cells #[.iface (typeK f.kind) (recK f.kind), .int .i64 f.kind, .int .i64 f.num, .string f.meter, .slice fka f.kids.length fkc, .slice fta f.tiers.length ftc, .slice va vs.length vc] 207) = W7 := ⟨_, rfl⟩
        have HW7 := hide hW7
        have n7 := new7 wr (.iface (typeK f.kind) (recK f.kind)) (.int .i64 f.kind) (.int .i64 f.num) (.string f.meter) (.slice fka f.kids.length fkc) (.slice fta f.tiers.length ftc) (.slice va vs.length vc) 207
        rw [hW7] at n7
        have N7 := hide n7
        have hb7 : Below wr.heap.size wr W7 := by rw [← hW7]; exact below_alloc _ _
        have hs7 : wr.heap.size < W7.heap.size := by rw [← hW7]; simp
        have HB7 := hide hb7
        have HVR := hide (hx.vr.kept hb7)
        have HX := hide hx
        have mm2 := mNext hkf
        have mm3 := eNext hkf
        have j0 : (0 : Int) ≤ (st2.length : Int) := by omega
        have j1 : ((st2.length + 1 : Nat) : Int) - 1 = (st2.length : Int) := by omega
        have j2 : st2.length ≤ 1000 := by have := (unhide hJ).deep; omega
        have j3 : ((st2.length : Int) + 1) - 1 = (st2.length : Int) := by omega
        clear hW7 n7 hb7 hx
        go_wp2_with (fail)
        rw [unhide HW7]
        refine (nextI hkf _ vs W7 (unhide HVR) hvl).mono ?_
        rintro x8 w8 ⟨p, bb, rfl, hy, hn, hb8⟩
        have HB8 : Hid (Below wr.heap.size wr w8) := hide (below_trans (unhide HB7) hb8)
        have HY := hide hy
        have HN := hide hn
        obtain ⟨m0, m1, m2, m3, m4, m5, m6⟩ := unhide N7
        have q0 := (hb8.cell (p := ⟨wr.heap.size, 0, none⟩) hs7).trans m0
        have q1 := (hb8.cell (p := ⟨wr.heap.size, 1, none⟩) hs7).trans m1
        have q2 := (hb8.cell (p := ⟨wr.heap.size, 2, none⟩) hs7).trans m2
        have q3 := (hb8.cell (p := ⟨wr.heap.size, 3, none⟩) hs7).trans m3
        have q4 := (hb8.cell (p := ⟨wr.heap.size, 4, none⟩) hs7).trans m4
        have q5 := (hb8.cell (p := ⟨wr.heap.size, 5, none⟩) hs7).trans m5
        have q6 := (hb8.cell (p := ⟨wr.heap.size, 6, none⟩) hs7).trans m6
        have hs8 : wr.heap.size < w8.heap.size := Nat.lt_of_lt_of_le hs7 hb8.size
        have HV8 := hide ((unhide HVR).kept hb8)
        clear m0 m1 m2 m3 m4 m5 m6 hb8 hy hn N7 HVR HB7 HW7 y0 y1 y2 y3 y4 y5 y6 yf mm2 mm3
        have HS8 := hide ((unhide hJ).stk.kept (unhide HB8))
        have HBW := hide (below_trans (unhide hJ).below (unhide HB8))
        obtain ⟨e2, ka2, kc2, ta2, tc2, hEB⟩ := (unhide hJ).box
        have hEl : w.heap.size < wr.heap.size := lt_of_cell hEB.box.1
        have HEB := hide (hEB.kept (grown_of_below (unhide HB8) none) (by simp))
        clear hEB
        cases bb
        rotate_left
        · have hnx := unhide HY rfl
          obtain ⟨hv2, hp⟩ := next_len hkf hnx
          have hp' : p < f.kids.length := by omega
          have hIf : In lo hi w f fka fkc fta ftc := ⟨(unhide HX).ev, (unhide HX).all, (unhide HX).wt⟩
          obtain ⟨b, o, ka', kc', ta', tc', hfka, hbhi, hKC, hIn⟩ := hIf.kid hp'
          subst hfka
          obtain ⟨z0, z1, z2, z3, z4⟩ := hKC.same ((unhide HBW).block b (by omega))
          obtain ⟨⟨eb0, eb1, eb2, eb3, eb4⟩, hfree⟩ := unhide HEB
          have f0 := hfree 0
          have f1 := hfree 1
          have f2 := hfree 2
          have f3 := hfree 3
          have f4 := hfree 4
          have p0 : (0 : Int) ≤ (p : Int) := by omega
          have p1 : (p : Int) < (f.kids.length : Int) := by omega
          have hne1 : ¬ b = w.heap.size := by omega
          have hne2 : ¬ wr.heap.size = w.heap.size := by omega
          have HOUT : Hid (OutR us lo hi w rv c' l' g (.slice (some ⟨G, 0, none⟩) (st2.length + 1) cap) (((((w8.setCell ⟨w.heap.size, 0, none⟩ (.int .i64 (f.kids.getD p E0).kind)).setCell ⟨w.heap.size, 1, none⟩ (.int .i64 (f.kids.getD p E0).num)).setCell ⟨w.heap.size, 2, none⟩ (.string (f.kids.getD p E0).meter)).setCell ⟨w.heap.size, 3, none⟩ (.slice ka' (f.kids.getD p E0).kids.length kc')).setCell ⟨w.heap.size, 4, none⟩ (.slice ta' (f.kids.getD p E0).tiers.length tc')) (⟨f, some ⟨b, o, none⟩, fkc, fta, ftc, vs, .slice va vs.length vc⟩ :: st2) (f.kids.getD p E0) ka' kc' ta' tc') := hide (by
            obtain ⟨v, c, l, hr, hC⟩ := (unhide hJ).ev
            exact ⟨(unhide HS8).keptE (grown_set5 _ _ _ _ _ _ _) (by omega), (unhide HEB).set _ _ _ _ _, hIn, Cont.kid hr hC hnx hv2, (unhide HBW).grown (grown_set5 _ _ _ _ _ _ _) (unhide HBW).size (fun k hk => by cases hk; exact Nat.le_refl _), by have := (unhide hJ).deep; simp only [List.length_cons]; omega⟩)
          clear hfree hKC hIf HX HEB HS8 HBW hJ HY HN HV8 hnx hp
          generalize f.kids.getD p E0 = kd at *
          go_wp2_with (fail)
          go_roundg g
          case measure => omega
          case rel => exact ⟨_, kd, ka', kc', ta', tc', by omega, rfl, rfl, HOUT⟩
        · have hnx := unhide HN rfl
          have mm2 := mVal hkf
          have mm3 := eVal hkf
          have HT8 : Hid (TR w8 (.slice fta f.tiers.length ftc) f.tiers) := hide (by
            obtain ⟨d, kv, tv, heq, _, _, ht⟩ := (unhide HX).ev
            simp only [Value.agg.injEq, Array.mk.injEq, List.cons.injEq, and_true, true_and] at heq
            obtain ⟨rfl, rfl⟩ := heq
            exact ht.toTR.kept (unhide HBW))
          have htl : f.tiers.length ≤ 1048576 := by have := (unhide HX).wt; have := wt_eq f; simp only at *; omega
          have HU8 := hide ((unhide HU).kept (unhide HBW))
          have HOK : Hid (∀ v ∈ vs, okB v = true) := hide (unhide HX).ok
          have HNX := hide hnx
          clear hnx
          go_wp2_with (fail)
          refine (runValI us hul f fka fkc fta ftc uv _ vs w8 hkf (unhide HNX) (unhide HV8) hvl (unhide HOK) (unhide HU8) (unhide HT8) htl).mono ?_
          rintro x9 w9 ⟨rfl, hb9⟩
          have HS9 := hide ((unhide HS8).kept hb9)
          have HB9 := hide (below_trans (unhide HBW) hb9)
          have HE9 := hide ((unhide HEB).kept (grown_of_below hb9 none) (by simp))
          clear hb9 HS8 HBW HEB q0 q1 q2 q3 q4 q5 q6 mm2 mm3 HT8 HU8 HV8 HB8
          obtain ⟨rr, rcc, rll, hr, hC⟩ := (unhide hJ).ev
          have hdeep := (unhide hJ).deep
          have HR := hide hr
          have HC := hide hC
          clear hr hC hJ
          cases hvb : valB us f vs
          · obtain ⟨rfl, rfl⟩ := (unhide HR).no (unhide HNX) hvb
            obtain ⟨rfl, rfl, rfl⟩ := (unhide HC).bad (by omega)
            clear hvb HR HC
            go_wp2_with (fail)
            rw [Exit.noGoto_ret]
            go_ret3
            exact ⟨rfl, unhide HB9⟩
          · obtain ⟨rfl, rfl, rfl⟩ := (unhide HR).yes (unhide HNX) hvb
            clear hvb HR
            generalize valV us f vs = vl at *
            cases st2 with
            | nil =>
              obtain ⟨rfl, rfl, hrv⟩ := unhide HC
              rw [if_pos rfl] at hrv
              subst hrv
              clear HC
              go_wp2_with (fail)
              rw [Exit.noGoto_ret]
              go_ret3
              exact ⟨rfl, unhide HB9⟩
            | cons x1 st3 =>
              obtain ⟨f1, a1, b1, d1, g1, vs1, vv1⟩ := x1
              have hx1 := (unhide HS9).each ⟨f1, a1, b1, d1, g1, vs1, vv1⟩ (by simp)
              obtain ⟨va1, vc1, hvv⟩ := hx1.vr.form
              simp only at hvv
              subst hvv
              have hcap : st3.length + 1 + 1 ≤ cap := by
                rcases (unhide HS9).row.2 with ⟨h', _⟩ | ⟨_, _, _, h', _, _, hn, _⟩
                · cases h'
                · simp only [Value.slice.injEq] at h'
                  have := h'.2.2
                  simp only [List.length_cons] at hn
                  omega
              have HS10 := hide (unhide HS9).pop
              obtain ⟨_, y0, y1, y2, y3, y4, y5, y6, yf⟩ := (unhide HS10).top
              simp only at y6
              have hGl : G < w9.heap.size := lt_of_cell y6
              have hGB : w.heap.size + 1 ≤ G := ((unhide HS10).row.lt G rfl).1
              have hE9 : w.heap.size < w9.heap.size := lt_of_cell (unhide HE9).box.1
              obtain ⟨hl2, hC2⟩ := unhide HC
              rw [if_pos rfl] at hC2
              obtain ⟨hvo, r2, c2, l2, hR2, hC3⟩ := hC2
              simp only at hl2 hR2
              have HR2 := hide hR2
              have HC3 := hide hC3
              have HVO := hide hvo
              simp only [List.length_cons] at j0 j1 j2 j3 hdeep HS9 HS10
              have i1 : ((st3.length + 1 : Nat) : Int) == 0 ↔ False := by simp; omega
              have i2 : (((st3.length : Int) + 1) == 0) = false := beq_eq_false_iff_ne.2 (by omega)
              have i3 : (st3.length : Int) + 1 + 1 - 1 = (st3.length : Int) + 1 := by omega
              have i4 : (st3.length : Int) + 1 - 1 = (st3.length : Int) := by omega
              have i5 : (st3.length : Int) + 1 ≤ (cap : Int) := by omega
              have i6 : (0 : Int) ≤ (st3.length : Int) := by omega
              have HX1 := hide hx1
              clear HC hR2 hC3 hvo y0 y1 y2 y3 y4 y5 i1 hx1 HS9
              go_wp2_with (first
                         | (at_builtin
                            refine listApp1 _ rfl _ _ rfl (w.heap.size + 1) w9.heap.size (.slice va1 vs1.length vc1) vs1 vl rfl ((unhide HX1).row.kept (World.grownBy_alloc _ _ none) (ne_none _)) rfl (MapKept.heap_alloc _ _).1 (by omega) (by simp; omega) ?_
                            intro gb2 cb2 w10 ho2 hgr2 hat2 hlt2
                            have hS11 := (unhide HS10).kept (below_alloc w9 (.cells #[.int .i64 vl] 3))
                            have hoff : (Value.slice va1 vs1.length vc1).ownBlock = none ∨ (Value.slice va1 vs1.length vc1).ownBlock ≠ some G := hS11.off _ (List.mem_cons_self ..)
                            have hgG : some G ≠ (Value.slice va1 vs1.length vc1).ownBlock := (by rcases hoff with e | e; (rw [e]; simp); exact fun e' => e e'.symm)
                            have hEo : some w.heap.size ≠ (Value.slice va1 vs1.length vc1).ownBlock := fun e => (by have := ((unhide HX1).row.lt w.heap.size e.symm).1; omega)
                            have hg10 : w9.grownBy w10 (Value.slice va1 vs1.length vc1).ownBlock := grown_trans (World.grownBy_alloc _ _ _) hgr2
                            have z6 := hg10.cell y6 hgG
                            have zf : w10.frozen? ⟨G, st3.length * 7 + 6, none⟩ = false := (World.frozen?_of_block (w := w9) (hg10.block G hGl hgG)).trans yf
                            have HSV := hide (hS11.value (m := vl) hl2 (unhide HVO) ho2 hgr2 hat2)
                            have HE10 := hide ((unhide HE9).kept hg10 hEo)
                            have HB10 := hide ((unhide HB9).grown hg10 (unhide HB9).size (fun k hk => by have := ((unhide HX1).row.lt k hk).1; omega))
                            clear ho2 hgr2 hat2 hS11 hg10 hoff y6 yf))
              have HIN := hide (InR.mk (unhide HSV) ⟨_, _, _, _, _, (unhide HE10).kept (grown_set _ _ _ _) (by intro e; cases e; omega)⟩ ⟨r2, c2, l2, unhide HR2, unhide HC3⟩ ((unhide HB10).grown (grown_set _ _ _ _) (unhide HB10).size (fun k hk => by cases hk; omega)) (by omega))
              clear HSV HE10 HB10
              go_wp2_with (fail)
              go_roundg st3.length
              case measure => simp
              case rel => exact ⟨_, st3, rfl, rfl, HIN⟩
end Go.Proofs.YtnchgeiinkaefaaGreatDoor.Rule
end

section
/-
  impl.RuleRun, and the law on RuleRun.
-/
namespace Go.Proofs.YtnchgeiinkaefaaGreatDoor.Rule
set_option linter.unusedVariables false
open Go.RowKit Tiers

theorem RunOf.no {us : List Uses.U} {e : Ex} {f v c t : Int} (h : RunOf us e f v c t) (hn : ¬ (okE e = true ∧ 0 ≤ f ∧ f ≤ 1000)) : v = 0 ∧ c = 3 ∧ t = 0 := by
  unfold RunOf at h; rw [if_neg hn] at h; exact h
theorem RunOf.yes {us : List Uses.U} {e : Ex} {f v c t : Int} (h : RunOf us e f v c t) (hy : okE e = true ∧ 0 ≤ f ∧ f ≤ 1000) : ∃ (n' : Int) (c' l' : Nat), Ev us e f.toNat n' c' l' ∧ c = c' ∧ (l' : Int) ≤ f ∧ v = (if c' = 0 then n' else 0) ∧ t = f - l' := by
  unfold RunOf at h; rw [if_pos hy] at h; exact h

set_option maxHeartbeats 1600000 in
theorem runI (us : List Uses.U) (hul : us.length ≤ 1048576) (d lo hi : Nat) (v uv : Value) (e : Ex) (f : Int) (w : World) (h : EV lo hi w d v e) (hhi : hi ≤ w.heap.size) (hw : wt e ≤ 1048576) (hU : Uses.UR w uv us) (sv sc st : Int) (hs : RunOf us e f sv sc st) :
    Calls Tryz.prog 65 #[v, uv, .int .i64 f] w fun x w' => x = .returned (.tuple #[.int .i64 sv, .int .i64 sc, .int .i64 st]) ∧ Below w.heap.size w w' := by
  obtain ⟨ka, kc, ta, tc, rfl⟩ := h.form
  have HS := hide hs
  obtain ⟨W1, hW1⟩ : ∃ W1, w.alloc (.cells #[.int .i64 e.kind, .int .i64 e.num, .string e.meter, .slice ka e.kids.length kc, .slice ta e.tiers.length tc] 77) = W1 := ⟨_, rfl⟩
  have HW1 := hide hW1
  have hb1 : Below w.heap.size w W1 := by rw [← hW1]; exact below_alloc _ _
  have HB1 := hide hb1
  have HX : Hid (Box W1 w.heap.size e ka kc ta tc) := hide (by rw [← hW1]; exact Box.new _ _ _ _ _ _ _)
  have HE1 := hide (keptE h hhi hb1)
  have HU1 := hide (hU.kept hb1)
  have hs1 : w.heap.size < W1.heap.size := by rw [← hW1]; simp
  clear hW1 hb1 h hU hs
  by_cases f0 : f < 0
  · obtain ⟨rfl, rfl, rfl⟩ := (unhide HS).no (by omega)
    clear HS
    go_enter Tryz.func65, Tryz.ntmps65
    go_wp2_with (fail)
    go_ret3
    exact ⟨rfl, below_alloc _ _⟩
  by_cases f1 : 1000 < f
  · obtain ⟨rfl, rfl, rfl⟩ := (unhide HS).no (by omega)
    clear HS
    go_enter Tryz.func65, Tryz.ntmps65
    go_wp2_with (fail)
    go_ret3
    exact ⟨rfl, below_alloc _ _⟩
  go_enter Tryz.func65, Tryz.ntmps65
  go_wp2_with (fail)
  rw [unhide HW1]
  refine (okI d lo hi _ e W1 (unhide HE1) (by omega) hw).mono ?_
  rintro x w2 ⟨rfl, hb2⟩
  have HX2 := hide ((unhide HX).kept hb2)
  have HE2 := hide (keptE (unhide HE1) (by omega) hb2)
  have HU2 := hide ((unhide HU1).kept hb2)
  have HB2 := hide (below_trans (unhide HB1) hb2)
  have hs2 : w.heap.size < w2.heap.size := Nat.lt_of_lt_of_le hs1 hb2.size
  clear HX HE1 HU1 HB1 hb2 HW1
  obtain ⟨x0, x1, x2, x3, x4⟩ := unhide HX2
  cases hk : okE e
  · obtain ⟨rfl, rfl, rfl⟩ := (unhide HS).no (by rw [hk]; rintro ⟨h, _⟩; cases h)
    clear hk HS
    go_wp2_with (fail)
    go_ret3
    exact ⟨rfl, unhide HB2⟩
  obtain ⟨F, rfl⟩ := Int.eq_ofNat_of_zero_le (show 0 ≤ f by omega)
  obtain ⟨n', c', l', hev, rfl, hl, hsv, rfl⟩ := (unhide HS).yes ⟨hk, by omega, by omega⟩
  have HEV : Hid (Ev us e F n' c' l') := hide (by simpa using hev)
  have HIN : Hid (In lo hi w2 e ka kc ta tc) := hide ⟨⟨d, unhide HE2⟩, okE_all hk, hw⟩
  clear hev HS hk
  have HV := hide hsv
  clear hsv
  go_wp2_with (fail)
  have hR := runI_expr us hul lo hi uv e ka kc ta tc F (by omega) w2 (unhide HIN) (by omega) (unhide HU2) n' c' l' (unhide HEV)
  rw [← unhide HV] at hR
  refine hR.mono ?_
  rintro x w3 ⟨rfl, hb3⟩
  have HB3 := hide (below_trans (unhide HB2) hb3)
  clear hb3 hR HV HEV HIN
  go_wp2_with (fail)
  go_ret3
  exact ⟨rfl, unhide HB3⟩

end Go.Proofs.YtnchgeiinkaefaaGreatDoor.Rule
end

section
/-
  Arguments that came in, opened: slices of events, and an event by value.
-/
namespace Go.Proofs.YtnchgeiinkaefaaGreatDoor.Evs
set_option linter.unusedVariables false
open Go.RowKit Go.Deep Go.ChangeShapes Go.WideShapes

section
variable {H : Type} {enc : TypeId × Value → H} {w : World} {base : Nat} {held : Bool}

theorem lt_of_cell {W : World} {b o : Nat} {v : Value} (h : W.cell? ⟨b, o, none⟩ = some v) : b < W.heap.size := by
  refine Nat.lt_of_not_le fun hn => ?_
  have h2 : W.heap[b]? = none := by simp; omega
  simp [World.cell?, h2] at h

theorem list3 {α : Type} {cs : List α} (h : cs.length = 3) : ∃ a b c, cs = [a, b, c] := by
  match cs, h with
  | [a, b, c], _ => exact ⟨a, b, c, rfl⟩

theorem openFieldsV {fuel : Nat} {cs : List Value} {x : DataW H × List MemPlace} (h : DataW.trod enc Tryz.prog w base (fun _ => true) held fuel 45 cs = some x) :
    ∃ (s m : ByteArray) (q : Int), cs = [.string s, .string m, .int .i64 q] ∧ s.size ≤ maxLen ∧ m.size ≤ maxLen := by
  obtain ⟨xs, n, hn, _, hl, hxl, hf⟩ := DataW.trod_struct Tryz.underlying45 h
  have hl3 : cs.length = 3 := hl.trans (by kernel_rfl)
  obtain ⟨c0, c1, c2, rfl⟩ := list3 hl3
  obtain ⟨x0, x1, x2, rfl⟩ := list3 (by simpa using hxl)
  have k1 : Tryz.prog.cellsOf 3 = 1 := by kernel_rfl
  have k2 : Tryz.prog.cellsOf 9 = 1 := by kernel_rfl
  have h0 := hf 0 _ rfl
  have h1 := hf 1 _ rfl
  have h2 := hf 2 _ rfl
  simp [k1, k2] at h0 h1 h2
  obtain ⟨s, e0, _, hs⟩ := DataW.trod_string Tryz.underlying9 h0
  obtain ⟨m, e1, _, hm⟩ := DataW.trod_string Tryz.underlying9 h1
  obtain ⟨q, e2, _, _⟩ := DataW.trod_int Tryz.underlying3 h2
  simp only [List.cons.injEq, and_true] at e0 e1 e2
  subst e0 e1 e2
  exact ⟨s, m, q, rfl, hs, hm⟩

theorem openEvs {fuel : Nat} {cs : List Value} {x : DataW H × List MemPlace} (h : DataW.trod enc Tryz.prog w base (fun _ => true) held fuel 23 cs = some x) :
    ∃ v l, cs = [v] ∧ ER w v l ∧ l.length ≤ maxLen ∧ ∀ u ∈ l, u.1.size ≤ maxLen ∧ u.2.1.size ≤ maxLen := by
  rcases DataW.trod_slice Tryz.underlying23 h with ⟨rfl, _⟩ | ⟨a, len, cap, elems, rest, n, hfu, rfl, _, hb, hl, hm, hlen, hel, _, _⟩
  · exact ⟨_, [], rfl, .inl ⟨rfl, _, _, rfl⟩, by simp, by simp⟩
  have ce : Tryz.prog.cellsOf 45 = 3 := by kernel_rfl
  by_cases h0 : len = 0
  · subst h0
    exact ⟨_, [], rfl, .inl ⟨rfl, _, _, rfl⟩, by simp, by simp⟩
  have each : ∀ i, i < len → ∃ q : E, (w.cell? (a.add (i * 3)) = some (.string q.1) ∧ w.cell? (a.add (i * 3 + 1)) = some (.string q.2.1) ∧ w.cell? (a.add (i * 3 + 2)) = some (.int .i64 q.2.2)) ∧ (q.1.size ≤ maxLen ∧ q.2.1.size ≤ maxLen) := by
    intro i hi
    have h1 := hel i hi
    rw [List.getElem?_eq_getElem (by omega), ce] at h1
    obtain ⟨cs', h2, h3⟩ := Option.bind_eq_some_iff.1 h1
    obtain ⟨s, m, q, rfl, hs, hm'⟩ := openFieldsV h3
    obtain ⟨_, _, hcell⟩ := World.cells?_some h2
    have g0 := hcell 0 (by omega)
    have g1 := hcell 1 (by omega)
    have g2 := hcell 2 (by omega)
    rw [add_add] at g0 g1 g2
    exact ⟨(s, m, q), ⟨by simpa using g0, by simpa using g1, by simpa using g2⟩, hs, hm'⟩
  obtain ⟨q, hq⟩ := choose_lt each
  obtain ⟨b, off, spot⟩ := a
  have hspot : spot = none := by simpa [Addr.add] using World.cell?_spot (hq 0 (by omega)).1.1
  subst hspot
  have hlt : b < w.heap.size := lt_of_cell (v := .string (q 0).1) (by simpa [Addr.add] using (hq 0 (by omega)).1.1)
  refine ⟨_, (List.range len).map q, rfl, .inr ⟨b, off, cap, by simp, hlt, fun i hi => ?_⟩, by simp; omega, ?_⟩
  · have hi' : i < len := by simpa using hi
    have e : ((List.range len).map q).getD i E0 = q i := by simp [List.getD, hi']
    rw [e]
    obtain ⟨⟨c0, c1, c2⟩, _⟩ := hq i hi'
    rw [Addr.add_lit] at c0 c1 c2
    rw [← Nat.add_assoc] at c1 c2
    exact ⟨c0, c1, c2⟩
  · intro u hu
    obtain ⟨i, hi, rfl⟩ := List.mem_map.1 hu
    exact (hq i (by have := List.mem_range.1 hi; omega)).2

end
end Go.Proofs.YtnchgeiinkaefaaGreatDoor.Evs
end

section
/-
  Arguments that came in, opened: bills.
-/
namespace Go.Proofs.YtnchgeiinkaefaaGreatDoor.Bills
set_option linter.unusedVariables false
open Go.RowKit Go.Deep Go.ChangeShapes Go.WideShapes
open Evs (E E0 ER EN EC EOwn lt_of_cell list3)
open BRow (R R0 RR RN RC ROwn)

section
variable {H : Type} {enc : TypeId × Value → H} {w : World} {base : Nat} {held : Bool}

theorem openFieldsL {fuel : Nat} {cs : List Value} {x : DataW H × List MemPlace} (h : DataW.trod enc Tryz.prog w base (fun _ => true) held fuel 42 cs = some x) :
    ∃ (s m : ByteArray) (q : Int), cs = [.string s, .string m, .int .i64 q] ∧ s.size ≤ maxLen ∧ m.size ≤ maxLen := by
  obtain ⟨xs, n, hn, _, hl, hxl, hf⟩ := DataW.trod_struct Tryz.underlying42 h
  have hl3 : cs.length = 3 := hl.trans (by kernel_rfl)
  obtain ⟨c0, c1, c2, rfl⟩ := list3 hl3
  obtain ⟨x0, x1, x2, rfl⟩ := list3 (by simpa using hxl)
  have k1 : Tryz.prog.cellsOf 3 = 1 := by kernel_rfl
  have k2 : Tryz.prog.cellsOf 9 = 1 := by kernel_rfl
  have h0 := hf 0 _ rfl
  have h1 := hf 1 _ rfl
  have h2 := hf 2 _ rfl
  simp [k1, k2] at h0 h1 h2
  obtain ⟨s, e0, _, hs⟩ := DataW.trod_string Tryz.underlying9 h0
  obtain ⟨m, e1, _, hm⟩ := DataW.trod_string Tryz.underlying9 h1
  obtain ⟨q, e2, _, _⟩ := DataW.trod_int Tryz.underlying3 h2
  simp only [List.cons.injEq, and_true] at e0 e1 e2
  subst e0 e1 e2
  exact ⟨s, m, q, rfl, hs, hm⟩

theorem openLins {fuel : Nat} {cs : List Value} {x : DataW H × List MemPlace} (h : DataW.trod enc Tryz.prog w base (fun _ => true) held fuel 22 cs = some x) :
    ∃ v l, cs = [v] ∧ ER w v l ∧ l.length ≤ maxLen ∧ ∀ u ∈ l, u.1.size ≤ maxLen ∧ u.2.1.size ≤ maxLen := by
  rcases DataW.trod_slice Tryz.underlying22 h with ⟨rfl, _⟩ | ⟨a, len, cap, elems, rest, n, hfu, rfl, _, hb, hl, hm, hlen, hel, _, _⟩
  · exact ⟨_, [], rfl, .inl ⟨rfl, _, _, rfl⟩, by simp, by simp⟩
  have ce : Tryz.prog.cellsOf 42 = 3 := by kernel_rfl
  by_cases h0 : len = 0
  · subst h0
    exact ⟨_, [], rfl, .inl ⟨rfl, _, _, rfl⟩, by simp, by simp⟩
  have each : ∀ i, i < len → ∃ q : E, (w.cell? (a.add (i * 3)) = some (.string q.1) ∧ w.cell? (a.add (i * 3 + 1)) = some (.string q.2.1) ∧ w.cell? (a.add (i * 3 + 2)) = some (.int .i64 q.2.2)) ∧ (q.1.size ≤ maxLen ∧ q.2.1.size ≤ maxLen) := by
    intro i hi
    have h1 := hel i hi
    rw [List.getElem?_eq_getElem (by omega), ce] at h1
    obtain ⟨cs', h2, h3⟩ := Option.bind_eq_some_iff.1 h1
    obtain ⟨s, m, q, rfl, hs, hm'⟩ := openFieldsL h3
    obtain ⟨_, _, hcell⟩ := World.cells?_some h2
    have g0 := hcell 0 (by omega)
    have g1 := hcell 1 (by omega)
    have g2 := hcell 2 (by omega)
    rw [add_add] at g0 g1 g2
    exact ⟨(s, m, q), ⟨by simpa using g0, by simpa using g1, by simpa using g2⟩, hs, hm'⟩
  obtain ⟨q, hq⟩ := choose_lt each
  obtain ⟨b, off, spot⟩ := a
  have hspot : spot = none := by simpa [Addr.add] using World.cell?_spot (hq 0 (by omega)).1.1
  subst hspot
  have hlt : b < w.heap.size := lt_of_cell (v := .string (q 0).1) (by simpa [Addr.add] using (hq 0 (by omega)).1.1)
  refine ⟨_, (List.range len).map q, rfl, .inr ⟨b, off, cap, by simp, hlt, fun i hi => ?_⟩, by simp; omega, ?_⟩
  · have hi' : i < len := by simpa using hi
    have e : ((List.range len).map q).getD i E0 = q i := by simp [List.getD, hi']
    rw [e]
    obtain ⟨⟨c0, c1, c2⟩, _⟩ := hq i hi'
    rw [Addr.add_lit] at c0 c1 c2
    rw [← Nat.add_assoc] at c1 c2
    exact ⟨c0, c1, c2⟩
  · intro u hu
    obtain ⟨i, hi, rfl⟩ := List.mem_map.1 hu
    exact (hq i (by have := List.mem_range.1 hi; omega)).2

end
end Go.Proofs.YtnchgeiinkaefaaGreatDoor.Bills
end

section
/-
  DERIVED: THE SHELF's CONTRACTS AT THIS DUMP, IN PLAIN WORDS (tools/lay-plain.mjs out of 'YtnchgeiinkaefaaGreatDoorShelfS.lean', which tools/lay-shelf.mjs wrote): THE SAME DECLARATIONS UNDER THE SAME NAMES: 'import', 'namespace', 'open', 'def', 'theorem' AND NOTHING ELSE: no command of the shelf's: FOR A HAND-IN. Each laying: the table of numbers ('.._ren') and one theorem, a field a fact of the dump's own or the kernel's comparison; each contract: ONE APPLICATION.
-/
namespace Go.Proofs
open Go.Shelf
def Tryz.sortShare_ren : Go.Shelf.Ren := ⟨fun | 6 => 105 | 15 => 130 | 14 => 129 | 28 => 156 | 29 => 157 | 20 => 148 | 21 => 149 | 22 => 150 | 23 => 151 | 24 => 152 | 25 => 153 | 26 => 154 | 27 => 155 | 46 => 181 | 47 => 182 | 48 => 183 | 49 => 184 | 50 => 185 | 57 => 205 | n => n, fun | 22 => 121 | 24 => 127 | 25 => 168 | 3 => 3 | 39 => 214 | 0 => 0 | 53 => 243 | 55 => 245 | 4 => 4 | 46 => 237 | 45 => 236 | 50 => 50 | 5 => 5 | 9 => 9 | 66 => 268 | 70 => 204 | 76 => 295 | 77 => 93 | n => n, fun | n => n⟩
theorem Tryz.sortShare : Go.Proofs.SlLaysF0.n6 Tryz.prog Tryz.sortShare_ren := {
  mixed := by kernel_rfl
  f6 := ⟨Tryz.f105.name, by decide, Tryz.func105.trans (congrArg some (by kernel_rfl))⟩
  f14 := ⟨Tryz.f129.name, by decide, Tryz.func129.trans (congrArg some (by kernel_rfl))⟩
  f15 := Tryz.func130.trans (congrArg some (by kernel_rfl))
  f20 := ⟨Tryz.f148.name, by decide, Tryz.func148.trans (congrArg some (by kernel_rfl))⟩
  f21 := ⟨Tryz.f149.name, by decide, Tryz.func149.trans (congrArg some (by kernel_rfl))⟩
  f22 := ⟨Tryz.f150.name, by decide, Tryz.func150.trans (congrArg some (by kernel_rfl))⟩
  f23 := ⟨Tryz.f151.name, by decide, Tryz.func151.trans (congrArg some (by kernel_rfl))⟩
  f24 := ⟨Tryz.f152.name, by decide, Tryz.func152.trans (congrArg some (by kernel_rfl))⟩
  f25 := ⟨Tryz.f153.name, by decide, Tryz.func153.trans (congrArg some (by kernel_rfl))⟩
  f26 := ⟨Tryz.f154.name, by decide, Tryz.func154.trans (congrArg some (by kernel_rfl))⟩
  f27 := ⟨Tryz.f155.name, by decide, Tryz.func155.trans (congrArg some (by kernel_rfl))⟩
  f28 := Tryz.func156.trans (congrArg some (by kernel_rfl))
  f29 := Tryz.func157.trans (congrArg some (by kernel_rfl))
  f46 := ⟨Tryz.f181.name, by decide, Tryz.func181.trans (congrArg some (by kernel_rfl))⟩
  f47 := Tryz.func182.trans (congrArg some (by kernel_rfl))
  f48 := Tryz.func183.trans (congrArg some (by kernel_rfl))
  f49 := ⟨Tryz.f184.name, by decide, Tryz.func184.trans (congrArg some (by kernel_rfl))⟩
  f50 := ⟨Tryz.f185.name, by decide, Tryz.func185.trans (congrArg some (by kernel_rfl))⟩
  f57 := ⟨Tryz.f205.name, by decide, Tryz.func205.trans (congrArg some (by kernel_rfl))⟩
  t0 := Tryz.underlying0
  a0 := Tryz.isAgg0
  z0 := Tryz.sizeOf0
  v0 := Tryz.zeroValue0
  t3 := Tryz.underlying3
  a3 := Tryz.isAgg3
  z3 := Tryz.sizeOf3
  v3 := Tryz.zeroValue3
  t4 := Tryz.underlying4
  a4 := Tryz.isAgg4
  z4 := Tryz.sizeOf4
  v4 := Tryz.zeroValue4
  t5 := Tryz.underlying5
  a5 := Tryz.isAgg5
  z5 := Tryz.sizeOf5
  v5 := Tryz.zeroValue5
  t9 := Tryz.underlying9
  a9 := Tryz.isAgg9
  z9 := Tryz.sizeOf9
  v9 := Tryz.zeroValue9
  t22 := Tryz.underlying121
  a22 := Tryz.isAgg121
  z22 := Tryz.sizeOf121
  v22 := Tryz.zeroValue121
  t25 := Tryz.underlying168
  a25 := Tryz.isAgg168
  z25 := Tryz.sizeOf168
  v25 := Tryz.zeroValue168
  t39 := Tryz.underlying214
  a39 := Tryz.isAgg214
  z39 := Tryz.sizeOf214
  v39 := Tryz.zeroValue214
  t45 := Tryz.underlying236
  a45 := Tryz.isAgg236
  z45 := Tryz.sizeOf236
  v45 := Tryz.zeroValue236
  t46 := Tryz.underlying237
  a46 := Tryz.isAgg237
  z46 := Tryz.sizeOf237
  v46 := Tryz.zeroValue237
  t50 := Tryz.underlying50
  a50 := Tryz.isAgg50
  z50 := Tryz.sizeOf50
  v50 := Tryz.zeroValue50
  t53 := Tryz.underlying243
  a53 := Tryz.isAgg243
  z53 := Tryz.sizeOf243
  v53 := Tryz.zeroValue243
  t55 := Tryz.underlying245
  a55 := Tryz.isAgg245
  z55 := Tryz.sizeOf245
  v55 := Tryz.zeroValue245
  t66 := Tryz.underlying268
  a66 := Tryz.isAgg268
  z66 := Tryz.sizeOf268
  v66 := Tryz.zeroValue268
  t70 := Tryz.underlying204
  a70 := Tryz.isAgg204
  z70 := Tryz.sizeOf204
  v70 := Tryz.zeroValue204
  t76 := Tryz.underlying295
  a76 := Tryz.isAgg295
  z76 := Tryz.sizeOf295
  v76 := Tryz.zeroValue295
  t77 := Tryz.underlying93
  a77 := Tryz.isAgg93
  z77 := Tryz.sizeOf93
  v77 := Tryz.zeroValue93 }
end Go.Proofs
end

section
/-
  DERIVED: THE SHELF's CONTRACTS AT THIS DUMP, IN PLAIN WORDS (tools/lay-plain.mjs out of 'YtnchgeiinkaefaaGreatDoorIter.lean', which tools/lay-shelf.mjs wrote): THE SAME DECLARATIONS UNDER THE SAME NAMES: 'import', 'namespace', 'open', 'def', 'theorem' AND NOTHING ELSE: no command of the shelf's: FOR A HAND-IN. Each laying: the table of numbers ('.._ren') and one theorem, a field a fact of the dump's own or the kernel's comparison; each contract: ONE APPLICATION.
-/
namespace Go.Proofs
open Go.Shelf
def Tryz.keys101_ren : Go.Shelf.Ren := ⟨fun | 7 => 101 | 10 => 128 | n => n, fun | 23 => 116 | 26 => 9 | 3 => 3 | 28 => 161 | 0 => 0 | 27 => 160 | 33 => 98 | 4 => 4 | n => n, fun | n => n⟩
theorem Tryz.keys101 : Go.Proofs.SlLaysZ.n7 Tryz.prog Tryz.keys101_ren := {
  mixed := by kernel_rfl
  f7 := ⟨Tryz.f101.name, by decide, Tryz.func101.trans (congrArg some (by kernel_rfl))⟩
  f10 := ⟨Tryz.f128.name, by decide, Tryz.func128.trans (congrArg some (by kernel_rfl))⟩
  t0 := Tryz.underlying0
  a0 := Tryz.isAgg0
  z0 := Tryz.sizeOf0
  v0 := Tryz.zeroValue0
  t4 := Tryz.underlying4
  a4 := Tryz.isAgg4
  z4 := Tryz.sizeOf4
  v4 := Tryz.zeroValue4
  t23 := Tryz.underlying116
  a23 := Tryz.isAgg116
  z23 := Tryz.sizeOf116
  v23 := Tryz.zeroValue116
  t26 := Tryz.underlying9
  a26 := Tryz.isAgg9
  z26 := Tryz.sizeOf9
  v26 := Tryz.zeroValue9
  t27 := Tryz.underlying160
  a27 := Tryz.isAgg160
  z27 := Tryz.sizeOf160
  v27 := Tryz.zeroValue160
  t28 := Tryz.underlying161
  a28 := Tryz.isAgg161
  z28 := Tryz.sizeOf161
  v28 := Tryz.zeroValue161
  t33 := Tryz.underlying98
  a33 := Tryz.isAgg98
  z33 := Tryz.sizeOf98
  v33 := Tryz.zeroValue98 }
def Tryz.sorted100_ren : Go.Shelf.Ren := ⟨fun | 6 => 100 | 8 => 126 | 9 => 127 | 11 => 146 | 13 => 130 | 12 => 147 | 23 => 156 | 24 => 157 | 14 => 172 | 15 => 173 | 16 => 174 | 17 => 175 | 18 => 176 | 19 => 177 | 20 => 178 | 21 => 179 | 22 => 180 | 25 => 201 | 26 => 182 | 27 => 183 | 28 => 202 | 29 => 203 | 30 => 204 | 31 => 214 | n => n, fun | 26 => 9 | 28 => 161 | 24 => 158 | 0 => 0 | 3 => 3 | 37 => 214 | 48 => 243 | 50 => 245 | 4 => 4 | 40 => 237 | 39 => 236 | 45 => 50 | 5 => 5 | 9 => 9 | 51 => 268 | 55 => 204 | 57 => 295 | 58 => 93 | 33 => 98 | n => n, fun | n => n⟩
theorem Tryz.sorted100 : Go.Proofs.SlLaysZ.n6 Tryz.prog Tryz.sorted100_ren := {
  mixed := by kernel_rfl
  f6 := ⟨Tryz.f100.name, by decide, Tryz.func100.trans (congrArg some (by kernel_rfl))⟩
  f8 := ⟨Tryz.f126.name, by decide, Tryz.func126.trans (congrArg some (by kernel_rfl))⟩
  f11 := ⟨Tryz.f146.name, by decide, Tryz.func146.trans (congrArg some (by kernel_rfl))⟩
  t0 := Tryz.underlying0
  a0 := Tryz.isAgg0
  z0 := Tryz.sizeOf0
  v0 := Tryz.zeroValue0
  t24 := Tryz.underlying158
  a24 := Tryz.isAgg158
  z24 := Tryz.sizeOf158
  v24 := Tryz.zeroValue158
  t26 := Tryz.underlying9
  a26 := Tryz.isAgg9
  z26 := Tryz.sizeOf9
  v26 := Tryz.zeroValue9
  t28 := Tryz.underlying161
  a28 := Tryz.isAgg161
  z28 := Tryz.sizeOf161
  v28 := Tryz.zeroValue161
  i26 := by kernel_rfl }
def Tryz.sort127_ren : Go.Shelf.Ren := ⟨fun | 6 => 127 | 8 => 130 | 9 => 147 | 19 => 156 | 20 => 157 | 21 => 172 | 22 => 173 | 23 => 174 | 24 => 175 | 25 => 176 | 26 => 177 | 27 => 178 | 28 => 179 | 29 => 180 | 36 => 201 | 31 => 182 | 32 => 183 | 37 => 202 | 38 => 203 | 39 => 204 | 41 => 214 | n => n, fun | 27 => 158 | 29 => 9 | 3 => 3 | 32 => 214 | 26 => 158 | 0 => 0 | 44 => 243 | 46 => 245 | 4 => 4 | 36 => 237 | 35 => 236 | 41 => 50 | 5 => 5 | 9 => 9 | 53 => 268 | 57 => 204 | 63 => 295 | 64 => 93 | n => n, fun | n => n⟩
theorem Tryz.sort127 : Go.Proofs.SlLaysM.n6 Tryz.prog Tryz.sort127_ren := {
  mixed := by kernel_rfl
  f6 := ⟨Tryz.f127.name, by decide, Tryz.func127.trans (congrArg some (by kernel_rfl))⟩
  f8 := Tryz.func130.trans (congrArg some (by kernel_rfl))
  f9 := ⟨Tryz.f147.name, by decide, Tryz.func147.trans (congrArg some (by kernel_rfl))⟩
  f19 := Tryz.func156.trans (congrArg some (by kernel_rfl))
  f20 := Tryz.func157.trans (congrArg some (by kernel_rfl))
  f21 := ⟨Tryz.f172.name, by decide, Tryz.func172.trans (congrArg some (by kernel_rfl))⟩
  f22 := ⟨Tryz.f173.name, by decide, Tryz.func173.trans (congrArg some (by kernel_rfl))⟩
  f23 := ⟨Tryz.f174.name, by decide, Tryz.func174.trans (congrArg some (by kernel_rfl))⟩
  f24 := ⟨Tryz.f175.name, by decide, Tryz.func175.trans (congrArg some (by kernel_rfl))⟩
  f25 := ⟨Tryz.f176.name, by decide, Tryz.func176.trans (congrArg some (by kernel_rfl))⟩
  f26 := ⟨Tryz.f177.name, by decide, Tryz.func177.trans (congrArg some (by kernel_rfl))⟩
  f27 := ⟨Tryz.f178.name, by decide, Tryz.func178.trans (congrArg some (by kernel_rfl))⟩
  f28 := ⟨Tryz.f179.name, by decide, Tryz.func179.trans (congrArg some (by kernel_rfl))⟩
  f29 := ⟨Tryz.f180.name, by decide, Tryz.func180.trans (congrArg some (by kernel_rfl))⟩
  f31 := Tryz.func182.trans (congrArg some (by kernel_rfl))
  f32 := Tryz.func183.trans (congrArg some (by kernel_rfl))
  f36 := ⟨Tryz.f201.name, by decide, Tryz.func201.trans (congrArg some (by kernel_rfl))⟩
  f37 := ⟨Tryz.f202.name, by decide, Tryz.func202.trans (congrArg some (by kernel_rfl))⟩
  f38 := ⟨Tryz.f203.name, by decide, Tryz.func203.trans (congrArg some (by kernel_rfl))⟩
  f39 := ⟨Tryz.f204.name, by decide, Tryz.func204.trans (congrArg some (by kernel_rfl))⟩
  f41 := ⟨Tryz.f214.name, by decide, Tryz.func214.trans (congrArg some (by kernel_rfl))⟩
  t0 := Tryz.underlying0
  a0 := Tryz.isAgg0
  z0 := Tryz.sizeOf0
  v0 := Tryz.zeroValue0
  t3 := Tryz.underlying3
  a3 := Tryz.isAgg3
  z3 := Tryz.sizeOf3
  v3 := Tryz.zeroValue3
  t4 := Tryz.underlying4
  a4 := Tryz.isAgg4
  z4 := Tryz.sizeOf4
  v4 := Tryz.zeroValue4
  t5 := Tryz.underlying5
  a5 := Tryz.isAgg5
  z5 := Tryz.sizeOf5
  v5 := Tryz.zeroValue5
  t9 := Tryz.underlying9
  a9 := Tryz.isAgg9
  z9 := Tryz.sizeOf9
  v9 := Tryz.zeroValue9
  t26 := Tryz.underlying158
  a26 := Tryz.isAgg158
  z26 := Tryz.sizeOf158
  v26 := Tryz.zeroValue158
  t27 := Tryz.underlying158
  a27 := Tryz.isAgg158
  z27 := Tryz.sizeOf158
  v27 := Tryz.zeroValue158
  t29 := Tryz.underlying9
  a29 := Tryz.isAgg9
  z29 := Tryz.sizeOf9
  v29 := Tryz.zeroValue9
  t32 := Tryz.underlying214
  a32 := Tryz.isAgg214
  z32 := Tryz.sizeOf214
  v32 := Tryz.zeroValue214
  t35 := Tryz.underlying236
  a35 := Tryz.isAgg236
  z35 := Tryz.sizeOf236
  v35 := Tryz.zeroValue236
  t36 := Tryz.underlying237
  a36 := Tryz.isAgg237
  z36 := Tryz.sizeOf237
  v36 := Tryz.zeroValue237
  t41 := Tryz.underlying50
  a41 := Tryz.isAgg50
  z41 := Tryz.sizeOf50
  v41 := Tryz.zeroValue50
  t44 := Tryz.underlying243
  a44 := Tryz.isAgg243
  z44 := Tryz.sizeOf243
  v44 := Tryz.zeroValue243
  t46 := Tryz.underlying245
  a46 := Tryz.isAgg245
  z46 := Tryz.sizeOf245
  v46 := Tryz.zeroValue245
  t53 := Tryz.underlying268
  a53 := Tryz.isAgg268
  z53 := Tryz.sizeOf268
  v53 := Tryz.zeroValue268
  t57 := Tryz.underlying204
  a57 := Tryz.isAgg204
  z57 := Tryz.sizeOf204
  v57 := Tryz.zeroValue204
  t63 := Tryz.underlying295
  a63 := Tryz.isAgg295
  z63 := Tryz.sizeOf295
  v63 := Tryz.zeroValue295
  t64 := Tryz.underlying93
  a64 := Tryz.isAgg93
  z64 := Tryz.sizeOf93
  v64 := Tryz.zeroValue93 }
open Go.RowKit Go.Maps Go.Sort Go.Shelf

/-- slices.Sort's two contracts at this dump, at the fence that asks nothing. -/
theorem Tryz.sorts100 (m : Nat) : AnyZ.SortsIn Tryz.prog Tryz.sorted100_ren Fence.wide m :=
  ⟨fun blk off cap ss W hH hblk hsz => callsIn_wide.2 (AnyM.slices_Sort_string Tryz.sort127 blk off cap ss W hH hblk hsz),
   fun p cap W => callsIn_wide.2 (AnyM.slices_Sort_string_none Tryz.sort127 p cap W)⟩

/-- **maps.Keys[map[string]int,string,int], at whatever map, the nil one too:** a function value over ONE NEW BLOCK, which holds the map. -/
theorem Tryz.maps_Keys_101 (mb : Option Nat) (W : World) : CallsIn Fence.wide 5 Tryz.prog 101 #[.map mb] W fun e w' => e = .returned (.func (.func 128) #[] #[.pointer (some ⟨W.heap.size, 0, none⟩)]) ∧ w' = W.alloc (.cells #[.map mb] 116) :=
  AnyZ.keys_in Tryz.keys101 Fence.wide 5 trivial rfl mb W

set_option maxHeartbeats 1000000 in
/-- **slices.Sorted[string] AT WHAT maps.Keys[map[string]int,string,int] HANDED BACK FOR A MAP THAT IS NOT nil** ('w': the world AHEAD of maps.Keys' call): A NEW SLICE THAT HOLDS THE MAP's KEYS, SORTED; nil just where it has none; nothing that lay before has turned. -/
theorem Tryz.slices_Sorted_keys_100_101 {H : Type} (b nn : Nat) (D0 : DataW H) (R : Value → Option (DataW H × List MemPlace)) (w : World) (hown : w.ownsMap Tryz.prog 9 R b nn D0) (hmax : Maps.size D0 ≤ maxLen) (hbytes : Maps.size D0 * 16 ≤ 140737488355328) :
    CallsIn Fence.wide 5 Tryz.prog 100 #[.func (.func 128) #[] #[.pointer (some ⟨w.heap.size, 0, none⟩)]] (w.alloc (.cells #[.map (some b)] 116)) fun e w' => ∃ (v : Value) (ss : List (List UInt8)), e = .returned v ∧ ss.Perm (strKeys D0) ∧
      w'.ownsRow (w.alloc (.cells #[.map (some b)] 116)).heap.size 9 1 v ss.length ((ss.mergeSort (fun x y => decide (x ≤ y))).map encStr) ∧ (v = .slice none 0 0 ↔ ss = []) ∧ Below (w.alloc (.cells #[.map (some b)] 116)).heap.size (w.alloc (.cells #[.map (some b)] 116)) w' := by
  have hbl := hown.lt
  have hseq : SeqGives Fence.wide 2 Tryz.prog 128 #[.pointer (some ⟨w.heap.size, 0, none⟩)] encStr (fun ss => ss.Perm (strKeys D0)) (Maps.size D0) (w.alloc (.cells #[.map (some b)] 116)) :=
    AnyZ.keys_gives (ρ := Tryz.keys101_ren) { Tryz.keys101 with } Fence.wide _ trivial rfl (by omega) w.heap.size b nn D0 _ (by simp) (by simp) (by
      obtain ⟨es, clock, hb, Ft, hs, hD⟩ := hown
      exact ⟨es, clock, (Below.heap_alloc _ _ b hbl).trans hb, Ft, hs, hD⟩)
  exact AnyZ.sorted_in Tryz.sorted100 Fence.wide 5 trivial trivial trivial trivial rfl (by omega) (Tryz.sorts100 _) (enters_of Tryz.func127 (by kernel_rfl) rfl) 128 #[.pointer (some ⟨w.heap.size, 0, none⟩)] trivial (enters_of Tryz.func128 (by kernel_rfl) rfl) _ _ hmax hbytes _ hseq

set_option maxHeartbeats 1000000 in
/-- **.. AND FOR THE nil MAP: nil.** -/
theorem Tryz.slices_Sorted_keys_nil_100_101 (w : World) :
    CallsIn Fence.wide 5 Tryz.prog 100 #[.func (.func 128) #[] #[.pointer (some ⟨w.heap.size, 0, none⟩)]] (w.alloc (.cells #[.map none] 116)) fun e w' => ∃ (v : Value) (ss : List (List UInt8)), e = .returned v ∧ ss = [] ∧
      w'.ownsRow (w.alloc (.cells #[.map none] 116)).heap.size 9 1 v ss.length ((ss.mergeSort (fun x y => decide (x ≤ y))).map encStr) ∧ (v = .slice none 0 0 ↔ ss = []) ∧ Below (w.alloc (.cells #[.map none] 116)).heap.size (w.alloc (.cells #[.map none] 116)) w' := by
  have hseq : SeqGives Fence.wide 2 Tryz.prog 128 #[.pointer (some ⟨w.heap.size, 0, none⟩)] encStr (fun ss : List (List UInt8) => ss = []) 0 (w.alloc (.cells #[.map none] 116)) :=
    AnyZ.keys_gives_nil (ρ := Tryz.keys101_ren) { Tryz.keys101 with } Fence.wide _ trivial rfl w.heap.size _ (by simp) (by simp)
  exact AnyZ.sorted_in Tryz.sorted100 Fence.wide 5 trivial trivial trivial trivial rfl (by omega) (Tryz.sorts100 _) (enters_of Tryz.func127 (by kernel_rfl) rfl) 128 #[.pointer (some ⟨w.heap.size, 0, none⟩)] trivial (enters_of Tryz.func128 (by kernel_rfl) rfl) _ 0 (Nat.zero_le _) (by omega) _ hseq
end Go.Proofs
end
