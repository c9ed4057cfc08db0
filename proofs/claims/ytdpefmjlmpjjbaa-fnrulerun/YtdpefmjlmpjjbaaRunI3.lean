/-
  impl.runExpr.
-/
import Derived.Test.YtdpefmjlmpjjbaaRunI2
import Derived.Deep.LoopGhost
import Derived.Deep.RegionHeld3
namespace Go.Proofs.Ytdpefmjlmpjjbaa.Rule
set_option linter.unusedVariables false
open Go.RowKit Tiers
open Kinds hiding hide unhide below_trans ext_toList
open Coin (okB addV addB timesV fitB partV partB)
open Draw (grown_trans grown_none grown_of_below below_of)

theorem grown_da (w : World) (n : Nat) (o : Obj) (r : Option Nat) : w.grownBy ((w.drewN n).drew.alloc o) r := by
  have h := World.grownBy_alloc (w.drewN n).drew o none
  exact ⟨h.os, h.tape, h.output, h.size, fun j hj _ => h.block j hj (by simp)⟩

theorem grown_ad (w : World) (o : Obj) (r : Option Nat) : w.grownBy (w.alloc o).drew r := by
  have h := World.grownBy_alloc w o r
  exact ⟨h.os, h.tape, h.output, h.size, h.block⟩

/-- the box E holds e, and may be written -/
structure EBox (W : World) (E : Nat) (e : Ex) (ka : Option Addr) (kc : Nat) (ta : Option Addr) (tc : Nat) : Prop where
  box : Box W E e ka kc ta tc
  free : ∀ j, W.frozen? ⟨E, j, none⟩ = false
theorem EBox.kept {W W' : World} {E : Nat} {e : Ex} {ka : Option Addr} {kc : Nat} {ta : Option Addr} {tc : Nat} {r : Option Nat} (h : EBox W E e ka kc ta tc) (hg : W.grownBy W' r) (hne : some E ≠ r) : EBox W' E e ka kc ta tc := by
  have hE := lt_of_cell h.box.1
  have hb := hg.block E hE hne
  exact ⟨h.box.same hb, fun j => (World.frozen?_of_block (w := W) hb).trans (h.free j)⟩
theorem EBox.new (w : World) (e : Ex) (ka : Option Addr) (kc : Nat) (ta : Option Addr) (tc : Nat) (t : TypeId) : EBox (w.alloc (.cells #[.int .i64 e.kind, .int .i64 e.num, .string e.meter, .slice ka e.kids.length kc, .slice ta e.tiers.length tc] t)) w.heap.size e ka kc ta tc := by
  refine ⟨Box.new w e ka kc ta tc t, fun j => ?_⟩
  simp only [World.frozen?, (MapKept.heap_alloc w _).1]
  simp

/-- an expression that is right, as it came in -/
structure In (lo hi : Nat) (w : World) (e : Ex) (ka : Option Addr) (kc : Nat) (ta : Option Addr) (tc : Nat) : Prop where
  ev : ∃ d, EV lo hi w d (exV e ka kc ta tc) e
  all : allB e = true
  wt : wt e ≤ 1048576
/-- at the head of the outer loop -/
structure OutR (us : List Uses.U) (lo hi : Nat) (w : World) (rv : Int) (rc rl : Nat) (g : Nat) (s9 : Value) (wr : World) (st : List Fr) (e : Ex) (ka : Option Addr) (kc : Nat) (ta : Option Addr) (tc : Nat) : Prop where
  stk : Stk lo hi w wr (w.heap.size + 1) s9 st
  box : EBox wr w.heap.size e ka kc ta tc
  isIn : In lo hi w e ka kc ta tc
  ev : ∃ v c l', Ev us e g v c l' ∧ Cont us st v c l' rv rc rl
  below : Below w.heap.size w wr
  deep : st.length + g ≤ 1000
/-- at the head of the inner loop -/
structure InR (us : List Uses.U) (lo hi : Nat) (w : World) (rv : Int) (rc rl : Nat) (left : Nat) (s9 : Value) (wr : World) (x : Fr) (st : List Fr) : Prop where
  stk : Stk lo hi w wr (w.heap.size + 1) s9 (x :: st)
  box : ∃ e ka kc ta tc, EBox wr w.heap.size e ka kc ta tc
  ev : ∃ v c l', Rest us x.f x.vs left v c l' ∧ Cont us st v c l' rv rc rl
  below : Below w.heap.size w wr
  deep : st.length + 1 + left ≤ 1000

theorem infoF : (Try.prog.info? 64).map (fun i => (i.zero, i.size, i.bytes)) = some (some (.agg #[.nilIface, .int .i64 0, .int .i64 0, .string ByteArray.empty, .slice none 0 0, .slice none 0 0, .slice none 0 0]), 7, 120) := by kernel_rfl

theorem kindOf' {k : Int} (hk : 1 ≤ k ∧ k ≤ 10) (w : World) : Calls Try.prog 21 #[.int .i64 k] w fun e w' => e = .returned (.iface (typeK k) (recK k)) ∧ w' = w := by
  rw [← kindV_in hk]; exact kindOf k w
/-- one that begins -/
abbrev fr0 (e : Ex) (ka : Option Addr) (kc : Nat) (ta : Option Addr) (tc : Nat) : Fr := ⟨e, ka, kc, ta, tc, [], .slice none 0 0⟩
theorem oneK (k : Int) : (kindV k).oneCell' = true := by unfold kindV; split <;> rfl

section
variable {ops : Array Oper} {o : Oper} {a : Act} {K : Act → World → Prop} {Q : Exit → Act → World → Prop} {E : Prop}
theorem stepApp7 (w : World) (hgd : o.guard = none) (s x : Operand) (ho : o.op = .call { callee := .builtin .append, args := #[s, x], argTypes := #[59, 59] })
    (B N n : Nat) (v : Value) (st : List Fr) (e : Ex) (ka : Option Addr) (kc : Nat) (ta : Option Addr) (tc : Nat) (hk : 1 ≤ e.kind ∧ e.kind ≤ 10) (hn : st.length = n) (hs : a.eval s = v) (hown : w.ownsRow B 64 7 v st.length (flat7 st)) (hx : a.eval x = .slice (some ⟨N, 0, none⟩) 1 1)
    (hN : w.heap[N]? = some (.cells #[.iface (typeK e.kind) (recK e.kind), .int .i64 e.kind, .int .i64 e.num, .string e.meter, .slice ka e.kids.length kc, .slice ta e.tiers.length tc, .slice none 0 0] 64 (0, 0)))
    (hl : st.length ≤ 1000) (hB : B ≤ w.heap.size)
    (h : ∀ g c w', w'.ownsRow B 64 7 (.slice (some ⟨g, 0, none⟩) (st.length + 1) c) (st.length + 1) (flat7 st ++ (fr0 e ka kc ta tc).cells) → w.grownBy w' v.ownBlock → (v.ownBlock = some g ∨ g = w.heap.size) → g < w'.heap.size → K (a.put o.dst (.slice (some ⟨g, 0, none⟩) (n + 1) c)) w') :
    if Region.wanted o (yielded ops a.tmps) = true then Oper.wp Try.prog o a w K Q else E := by
  subst hn
  obtain ⟨i, hi, h2⟩ := Option.map_eq_some_iff.1 infoF
  simp only [Prod.mk.injEq] at h2
  rw [← kindV_in hk] at hN
  exact step_append_lies (P := Try.prog) w hgd s x 59 ho B 64 i _ 7 120 Try.underlying59 hi h2.1 h2.2.1 h2.2.2 rfl (by omega) v st.length (flat7 st) hs hown ⟨N, 0, none⟩ 1 1 (fr0 e ka kc ta tc).cells hx rfl (World.news_of_block hN) (by
    intro u hu
    simp only [Fr.cells, List.mem_cons, List.not_mem_nil, or_false] at hu
    rcases hu with rfl | rfl | rfl | rfl | rfl | rfl | rfl
    · exact oneK _
    all_goals rfl) (by omega) (by unfold maxLen; omega) (by omega) hB _ rfl h
end

theorem new7 (w : World) (a b c d e f g : Value) (t : TypeId) : (w.alloc (.cells #[a, b, c, d, e, f, g] t)).cell? ⟨w.heap.size, 0, none⟩ = some a ∧ (w.alloc (.cells #[a, b, c, d, e, f, g] t)).cell? ⟨w.heap.size, 1, none⟩ = some b ∧ (w.alloc (.cells #[a, b, c, d, e, f, g] t)).cell? ⟨w.heap.size, 2, none⟩ = some c ∧
    (w.alloc (.cells #[a, b, c, d, e, f, g] t)).cell? ⟨w.heap.size, 3, none⟩ = some d ∧ (w.alloc (.cells #[a, b, c, d, e, f, g] t)).cell? ⟨w.heap.size, 4, none⟩ = some e ∧ (w.alloc (.cells #[a, b, c, d, e, f, g] t)).cell? ⟨w.heap.size, 5, none⟩ = some f ∧ (w.alloc (.cells #[a, b, c, d, e, f, g] t)).cell? ⟨w.heap.size, 6, none⟩ = some g := by
  have e1 := (MapKept.heap_alloc w (.cells #[a, b, c, d, e, f, g] t)).1
  simp only [World.cell?]
  rw [e1]
  simp
theorem EBox.set {W : World} {E : Nat} {e : Ex} {ka : Option Addr} {kc : Nat} {ta : Option Addr} {tc : Nat} (h : EBox W E e ka kc ta tc) (f : Ex) (ka' : Option Addr) (kc' : Nat) (ta' : Option Addr) (tc' : Nat) :
    EBox (((((W.setCell ⟨E, 0, none⟩ (.int .i64 f.kind)).setCell ⟨E, 1, none⟩ (.int .i64 f.num)).setCell ⟨E, 2, none⟩ (.string f.meter)).setCell ⟨E, 3, none⟩ (.slice ka' f.kids.length kc')).setCell ⟨E, 4, none⟩ (.slice ta' f.tiers.length tc')) E f ka' kc' ta' tc' := by
  obtain ⟨⟨b0, b1, b2, b3, b4⟩, hf⟩ := h
  refine ⟨⟨?_, ?_, ?_, ?_, ?_⟩, fun j => by simpa [World.frozen?_setCell] using hf j⟩
  · rw [World.cell?_setCell_other _ _ _ _ (by simp), World.cell?_setCell_other _ _ _ _ (by simp), World.cell?_setCell_other _ _ _ _ (by simp), World.cell?_setCell_other _ _ _ _ (by simp)]
    exact World.cell?_setCell_same _ _ _ b0
  · rw [World.cell?_setCell_other _ _ _ _ (by simp), World.cell?_setCell_other _ _ _ _ (by simp), World.cell?_setCell_other _ _ _ _ (by simp)]
    exact World.cell?_setCell_same _ _ _ (by rw [World.cell?_setCell_other _ _ _ _ (by simp)]; exact b1)
  · rw [World.cell?_setCell_other _ _ _ _ (by simp), World.cell?_setCell_other _ _ _ _ (by simp)]
    exact World.cell?_setCell_same _ _ _ (by rw [World.cell?_setCell_other _ _ _ _ (by simp), World.cell?_setCell_other _ _ _ _ (by simp)]; exact b2)
  · rw [World.cell?_setCell_other _ _ _ _ (by simp)]
    exact World.cell?_setCell_same _ _ _ (by rw [World.cell?_setCell_other _ _ _ _ (by simp), World.cell?_setCell_other _ _ _ _ (by simp), World.cell?_setCell_other _ _ _ _ (by simp)]; exact b3)
  · exact World.cell?_setCell_same _ _ _ (by rw [World.cell?_setCell_other _ _ _ _ (by simp), World.cell?_setCell_other _ _ _ _ (by simp), World.cell?_setCell_other _ _ _ _ (by simp), World.cell?_setCell_other _ _ _ _ (by simp)]; exact b4)
theorem grown_set5 (W : World) (E : Nat) (a b c d e : Value) : W.grownBy (((((W.setCell ⟨E, 0, none⟩ a).setCell ⟨E, 1, none⟩ b).setCell ⟨E, 2, none⟩ c).setCell ⟨E, 3, none⟩ d).setCell ⟨E, 4, none⟩ e) (some E) :=
  grown_trans (grown_trans (grown_trans (grown_trans (grown_set _ _ _ _) (grown_set _ _ _ _)) (grown_set _ _ _ _)) (grown_set _ _ _ _)) (grown_set _ _ _ _)
theorem Stk.keptE {lo hi : Nat} {w0 W W' : World} {B E : Nat} {v : Value} {st : List Fr} (h : Stk lo hi w0 W B v st) (hg : W.grownBy W' (some E)) (hE : E < B) : Stk lo hi w0 W' B v st := by
  have hne : ∀ {e : TypeId} {size : Nat} {u : Value} {n : Nat} {xs : List Value}, W.ownsRow B e size u n xs → u.ownBlock = none ∨ u.ownBlock ≠ some E := fun hr => by
    right; intro e; have := (hr.lt E e).1; omega
  exact ⟨h.row.kept hg (hne h.row), fun x hx => (h.each x hx).kept hg (hne (h.each x hx).row), h.apart, h.off⟩
/-- a kid of one that has begun -/
theorem In.kid {lo hi : Nat} {w : World} {f : Ex} {ka : Option Addr} {kc : Nat} {ta : Option Addr} {tc : Nat} (h : In lo hi w f ka kc ta tc) {p : Nat} (hp : p < f.kids.length) :
    ∃ b o ka' kc' ta' tc', ka = some ⟨b, o, none⟩ ∧ b < hi ∧ KidC w b (o + p * 5) (f.kids.getD p E0) ka' kc' ta' tc' ∧ In lo hi w (f.kids.getD p E0) ka' kc' ta' tc' := by
  obtain ⟨d, kv, tv, heq, hz, hk, ht⟩ := h.ev
  simp only [Value.agg.injEq, Array.mk.injEq, List.cons.injEq, and_true, true_and] at heq
  obtain ⟨rfl, rfl⟩ := heq
  cases d with
  | zero => obtain ⟨h0, _⟩ := hk; rw [h0] at hp; simp at hp
  | succ d =>
    rcases hk with ⟨h0, _⟩ | ⟨b, o, cap, hs, hl, h1, h2, hc⟩
    · rw [h0] at hp; simp at hp
    · simp only [Value.slice.injEq, true_and] at hs
      obtain ⟨ka', kc', ta', tc', hc1, hE⟩ := kidEV hc p hp
      exact ⟨b, o, ka', kc', ta', tc', hs.1, h2, hc1, ⟨d, hE⟩, all_kid h.all hp, wt_kid hp h.wt⟩

section
variable {ops : Array Oper} {o : Oper} {a : Act} {Q : Exit → Act → World → Prop}
theorem infoI : (Try.prog.info? 3).map (fun i => (i.zero, i.size, i.bytes)) = some (some (.int .i64 0), 1, 8) := by kernel_rfl
theorem listApp1 (w : World) {rest : List Oper} (hgd : o.guard = none) (s x : Operand) (ho : o.op = .call { callee := .builtin .append, args := #[s, x], argTypes := #[41, 41] })
    (B N : Nat) (v : Value) (vs : List Int) (q : Int) (hs : a.eval s = v) (hown : w.ownsRow B 3 1 v vs.length (vs.map (Value.int .i64))) (hx : a.eval x = .slice (some ⟨N, 0, none⟩) 1 1) (hN : w.heap[N]? = some (.cells #[.int .i64 q] 3 (0, 0)))
    (hl : vs.length ≤ 3) (hB : B ≤ w.heap.size)
    (h : ∀ g c w', w'.ownsRow B 3 1 (.slice (some ⟨g, 0, none⟩) (vs.length + 1) c) (vs.length + 1) (vs.map (Value.int .i64) ++ [.int .i64 q]) → w.grownBy w' v.ownBlock → (v.ownBlock = some g ∨ g = w.heap.size) → g < w'.heap.size → wpList Try.prog ops Q rest (a.put o.dst (.slice (some ⟨g, 0, none⟩) (vs.length + 1) c)) w') :
    wpList Try.prog ops Q (o :: rest) a w := by
  obtain ⟨i, hi, h2⟩ := Option.map_eq_some_iff.1 infoI
  simp only [Prod.mk.injEq] at h2
  exact wpList_append_lies (P := Try.prog) w hgd s x 41 ho B 3 i (.int .i64 0) 1 8 Try.underlying41 hi h2.1 h2.2.1 h2.2.2 rfl (by omega) v vs.length _ hs hown ⟨N, 0, none⟩ 1 1 [.int .i64 q] hx rfl (World.news_of_block hN) (by simp [Value.oneCell']) (by omega) (by unfold maxLen; omega) (by omega) hB _ rfl h
end

set_option maxHeartbeats 3200000 in
set_option maxRecDepth 100000 in
theorem runI_expr (us : List Uses.U) (hul : us.length ≤ 1048576) (lo hi : Nat) (uv : Value) (e : Ex) (ka : Option Addr) (kc : Nat) (ta : Option Addr) (tc : Nat) (F : Nat) (hF : F ≤ 1000) (w : World) (hI : In lo hi w e ka kc ta tc) (hhi : hi ≤ w.heap.size) (hU : Uses.UR w uv us) (n' : Int) (c' l' : Nat) (hev : Ev us e F n' c' l') :
    Calls Try.prog 13 #[exV e ka kc ta tc, uv, .int .i64 (F : Int)] w fun x w' => x = .returned (.tuple #[.int .i64 (if c' = 0 then n' else 0), .int .i64 (c' : Int), .int .i64 ((F : Int) - l')]) ∧ Below w.heap.size w w' := by
  have HU := hide hU
  have H0 : Hid (OutR us lo hi w (if c' = 0 then n' else 0) c' l' F (.slice none 0 0) (w.alloc (.cells #[.int .i64 e.kind, .int .i64 e.num, .string e.meter, .slice ka e.kids.length kc, .slice ta e.tiers.length tc] 26)) [] e ka kc ta tc) :=
    hide ⟨Stk.nil _ _ _ _ _, EBox.new _ _ _ _ _ _ _, hI, ⟨n', c', l', hev, rfl, rfl, rfl⟩, below_alloc _ _, by simpa using hF⟩
  clear hU hI hev
  generalize (if c' = 0 then n' else 0) = rv at *
  go_enter Try.func13, Try.ntmps13
  go_wp2
  go_step3
  go_wp2
  go_step3
  go_wp2
  go_loopg [9, 10, 11] F (fun g s9 s10 s11 wr => ∃ (st : List Fr) (e : Ex) (ka : Option Addr) (kc : Nat) (ta : Option Addr) (tc : Nat), g ≤ F ∧ s10 = .int .i64 ((F : Int) - g) ∧ s11 = .int .i64 0 ∧ Hid (OutR us lo hi w rv c' l' g s9 wr st e ka kc ta tc))
  case atStart => exact ⟨[], e, ka, kc, ta, tc, Nat.le_refl _, by go_num, rfl, H0⟩
  case round =>
    obtain ⟨st, e, ka, kc, ta, tc, hg, rfl, rfl, hO⟩ := hrel
    clear H0
    cases gk with
    | zero =>
      obtain ⟨v, c, l, hv, hC⟩ := (unhide hO).ev
      obtain ⟨rfl, rfl⟩ := hv.nought
      obtain ⟨rfl, rfl, rfl⟩ := hC.bad (by omega)
      have HB := hide (unhide hO).below
      have t1 : ((F : Int) - (0 : Nat) == (F : Int)) = true := by simp
      clear hO hC hv
      go_wp2_with (fail)
      rw [Exit.noGoto_ret]
      go_ret3
      exact ⟨rfl, unhide HB⟩
    | succ g =>
      have t1 : ((F : Int) - ((g + 1 : Nat) : Int) == (F : Int)) = false := beq_eq_false_iff_ne.2 (by omega)
      have t2 : (F : Int) - ((g + 1 : Nat) : Int) + 1 = (F : Int) - g := by omega
      have t3 : -1 ≤ (F : Int) - ((g + 1 : Nat) : Int) := by omega
      have t4 : (F : Int) - ((g + 1 : Nat) : Int) ≤ 1000 := by omega
      have hk : 1 ≤ e.kind ∧ e.kind ≤ 10 := by
        have := node_parts (all_node (unhide hO).isIn.all); exact ⟨this.1, this.2.1⟩
      obtain ⟨b0, b1, b2, b3, b4⟩ := (unhide hO).box.box
      have hE : w.heap.size < wr.heap.size := lt_of_cell b0
      have hEne : some w.heap.size ≠ u9.ownBlock := fun e => by have := ((unhide hO).stk.row.lt w.heap.size e.symm).1; omega
      generalize (F : Int) - ((g + 1 : Nat) : Int) = tk at *
      go_wp2_with (fail)
      go_region_held_law (fun ww => ww.cell? ⟨w.heap.size, 0, none⟩ = some (.int .i64 e.kind) ∧ ww.cell? ⟨w.heap.size, 1, none⟩ = some (.int .i64 e.num) ∧ ww.cell? ⟨w.heap.size, 2, none⟩ = some (.string e.meter) ∧ ww.cell? ⟨w.heap.size, 3, none⟩ = some (.slice ka e.kids.length kc) ∧ ww.cell? ⟨w.heap.size, 4, none⟩ = some (.slice ta e.tiers.length tc)) (go_keep)
        (first | (go_at_call 21; refine (kindOf' hk _).mono ?_; rintro x wq ⟨rfl, rfl⟩) | (refine stepApp7 _ rfl _ _ rfl (w.heap.size + 1) wr.heap.size st.length u9 st e ka kc ta tc hk rfl rfl (World.ownsRow.kept (unhide hO).stk.row (grown_ad wr _ none) (ne_none _)) rfl (show (wr.alloc _).heap[wr.heap.size]? = _ from (MapKept.heap_alloc wr _).1) (by have := (unhide hO).deep; omega) (by simp; omega) ?_; intro gb cb w6 ho hgr hat hlt6; have hg6 : wr.grownBy w6 u9.ownBlock := grown_trans (grown_ad _ _ _) hgr; have EB6 := hide ((unhide hO).box.kept hg6 hEne); obtain ⟨p0, p1, p2, p3, p4⟩ := (unhide EB6).box))
      obtain ⟨W5, hW5⟩ : ∃ W5, (wr.alloc (.cells #[.iface (typeK e.kind) (recK e.kind), .int .i64 e.kind, .int .i64 e.num, .string e.meter, .slice ka e.kids.length kc, .slice ta e.tiers.length tc, .slice none 0 0] 64)).drew = W5 := ⟨_, rfl⟩
      have hb5 : Below wr.heap.size wr W5 := by
        rw [← hW5]; have := below_alloc wr (.cells #[.iface (typeK e.kind) (recK e.kind), .int .i64 e.kind, .int .i64 e.num, .string e.meter, .slice ka e.kids.length kc, .slice ta e.tiers.length tc, .slice none 0 0] 64); exact ⟨this.os, this.tape, this.output, this.size, this.block⟩
      rw [hW5] at hgr hat
      have HI : Hid (InR us lo hi w rv c' l' g (.slice (some ⟨gb, 0, none⟩) (st.length + 1) cb) w6 (fr0 e ka kc ta tc) st) := hide (by
        have h := unhide hO
        obtain ⟨v, c, l, hv, hC⟩ := h.ev
        refine ⟨(h.stk.kept hb5).push h.isIn.ev h.isIn.all h.isIn.wt rfl rfl ho hgr hat, ⟨e, ka, kc, ta, tc, unhide EB6⟩, ⟨v, c, l, hv.more, hC⟩, h.below.grown hg6 h.below.size (fun k hk => ?_), by have := h.deep; omega⟩
        have := (h.stk.row.lt k hk).1; omega)
      clear hgr hat ho hlt6 hg6 EB6 p0 p1 p2 p3 p4 hO b0 b1 b2 b3 b4 hE hEne hW5 hb5
      generalize fr0 e ka kc ta tc = x0 at *
      simp only [go_sem, List.getElem_toArray, List.getElem_cons_succ, List.getElem_cons_zero, List.setIfInBounds_toArray, List.set_cons_succ, List.set_cons_zero]
      go_wp2_with (fail)
      go_loopg [9, 11] st.length (fun g2 s9 s11 wy => ∃ (x : Fr) (st : List Fr), st.length = g2 ∧ s11 = .int .i64 0 ∧ Hid (InR us lo hi w rv c' l' g s9 wy x st))
      case atStart => exact ⟨x0, st, rfl, rfl, HI⟩
      case round =>
        clear HI
        obtain ⟨x, st2, hst, rfl, hJ⟩ := hrel
        obtain ⟨G, cap, hs9⟩ : ∃ G cap, u9 = .slice (some ⟨G, 0, none⟩) (st2.length + 1) cap := by
          rcases (unhide hJ).stk.row.2 with ⟨_, h⟩ | ⟨G, cap, cur, h, _⟩
          · simp at h
          · exact ⟨G, cap, h⟩
        subst hs9 hst
        obtain ⟨f, fka, fkc, fta, ftc, vs, vv⟩ := x
        have hx := (unhide hJ).stk.each _ (List.mem_cons_self ..)
        obtain ⟨va, vc, hvv⟩ := hx.vr.form
        simp only at hvv
        subst hvv
        obtain ⟨_, y0, y1, y2, y3, y4, y5, y6, yf⟩ := (unhide hJ).stk.top
        simp only at y0 y1 y2 y3 y4 y5 y6
        obtain ⟨k1, k2, k3, k4⟩ := node_parts (all_node hx.all)
        simp only at k1 k2 k3 k4
        have hkf : 1 ≤ f.kind ∧ f.kind ≤ 10 := ⟨k1, k2⟩
        rw [kindV_in hkf] at y0
        have hvl : vs.length ≤ 3 := hx.len
        obtain ⟨W7, hW7⟩ : ∃ W7, wr.alloc (.cells #[.iface (typeK f.kind) (recK f.kind), .int .i64 f.kind, .int .i64 f.num, .string f.meter, .slice fka f.kids.length fkc, .slice fta f.tiers.length ftc, .slice va vs.length vc] 64) = W7 := ⟨_, rfl⟩
        have HW7 := hide hW7
        have n7 := new7 wr (.iface (typeK f.kind) (recK f.kind)) (.int .i64 f.kind) (.int .i64 f.num) (.string f.meter) (.slice fka f.kids.length fkc) (.slice fta f.tiers.length ftc) (.slice va vs.length vc) 64
        rw [hW7] at n7
        have N7 := hide n7
        have hb7 : Below wr.heap.size wr W7 := by rw [← hW7]; exact below_alloc _ _
        have hs7 : wr.heap.size < W7.heap.size := by rw [← hW7]; simp
        have HB7 := hide hb7
        have HVR := hide (hx.vr.kept hb7)
        have HX := hide hx
        have mm2 := mNext hkf
        have mm3 := eNext hkf
        have j0 : (0 : Int) ≤ (st2.length : Int) := by omega
        have j1 : ((st2.length + 1 : Nat) : Int) - 1 = (st2.length : Int) := by omega
        have j2 : st2.length ≤ 1000 := by have := (unhide hJ).deep; omega
        have j3 : ((st2.length : Int) + 1) - 1 = (st2.length : Int) := by omega
        clear hW7 n7 hb7 hx
        go_wp2_with (fail)
        rw [unhide HW7]
        refine (nextI hkf _ vs W7 (unhide HVR) hvl).mono ?_
        rintro x8 w8 ⟨p, bb, rfl, hy, hn, hb8⟩
        have HB8 : Hid (Below wr.heap.size wr w8) := hide (below_trans (unhide HB7) hb8)
        have HY := hide hy
        have HN := hide hn
        obtain ⟨m0, m1, m2, m3, m4, m5, m6⟩ := unhide N7
        have q0 := (hb8.cell (p := ⟨wr.heap.size, 0, none⟩) hs7).trans m0
        have q1 := (hb8.cell (p := ⟨wr.heap.size, 1, none⟩) hs7).trans m1
        have q2 := (hb8.cell (p := ⟨wr.heap.size, 2, none⟩) hs7).trans m2
        have q3 := (hb8.cell (p := ⟨wr.heap.size, 3, none⟩) hs7).trans m3
        have q4 := (hb8.cell (p := ⟨wr.heap.size, 4, none⟩) hs7).trans m4
        have q5 := (hb8.cell (p := ⟨wr.heap.size, 5, none⟩) hs7).trans m5
        have q6 := (hb8.cell (p := ⟨wr.heap.size, 6, none⟩) hs7).trans m6
        have hs8 : wr.heap.size < w8.heap.size := Nat.lt_of_lt_of_le hs7 hb8.size
        have HV8 := hide ((unhide HVR).kept hb8)
        clear m0 m1 m2 m3 m4 m5 m6 hb8 hy hn N7 HVR HB7 HW7 y0 y1 y2 y3 y4 y5 y6 yf mm2 mm3
        have HS8 := hide ((unhide hJ).stk.kept (unhide HB8))
        have HBW := hide (below_trans (unhide hJ).below (unhide HB8))
        obtain ⟨e2, ka2, kc2, ta2, tc2, hEB⟩ := (unhide hJ).box
        have hEl : w.heap.size < wr.heap.size := lt_of_cell hEB.box.1
        have HEB := hide (hEB.kept (grown_of_below (unhide HB8) none) (by simp))
        clear hEB
        cases bb
        rotate_left
        · have hnx := unhide HY rfl
          obtain ⟨hv2, hp⟩ := next_len hkf hnx
          have hp' : p < f.kids.length := by omega
          have hIf : In lo hi w f fka fkc fta ftc := ⟨(unhide HX).ev, (unhide HX).all, (unhide HX).wt⟩
          obtain ⟨b, o, ka', kc', ta', tc', hfka, hbhi, hKC, hIn⟩ := hIf.kid hp'
          subst hfka
          obtain ⟨z0, z1, z2, z3, z4⟩ := hKC.same ((unhide HBW).block b (by omega))
          obtain ⟨⟨eb0, eb1, eb2, eb3, eb4⟩, hfree⟩ := unhide HEB
          have f0 := hfree 0
          have f1 := hfree 1
          have f2 := hfree 2
          have f3 := hfree 3
          have f4 := hfree 4
          have p0 : (0 : Int) ≤ (p : Int) := by omega
          have p1 : (p : Int) < (f.kids.length : Int) := by omega
          have hne1 : ¬ b = w.heap.size := by omega
          have hne2 : ¬ wr.heap.size = w.heap.size := by omega
          have HOUT : Hid (OutR us lo hi w rv c' l' g (.slice (some ⟨G, 0, none⟩) (st2.length + 1) cap) (((((w8.setCell ⟨w.heap.size, 0, none⟩ (.int .i64 (f.kids.getD p E0).kind)).setCell ⟨w.heap.size, 1, none⟩ (.int .i64 (f.kids.getD p E0).num)).setCell ⟨w.heap.size, 2, none⟩ (.string (f.kids.getD p E0).meter)).setCell ⟨w.heap.size, 3, none⟩ (.slice ka' (f.kids.getD p E0).kids.length kc')).setCell ⟨w.heap.size, 4, none⟩ (.slice ta' (f.kids.getD p E0).tiers.length tc')) (⟨f, some ⟨b, o, none⟩, fkc, fta, ftc, vs, .slice va vs.length vc⟩ :: st2) (f.kids.getD p E0) ka' kc' ta' tc') := hide (by
            obtain ⟨v, c, l, hr, hC⟩ := (unhide hJ).ev
            exact ⟨(unhide HS8).keptE (grown_set5 _ _ _ _ _ _ _) (by omega), (unhide HEB).set _ _ _ _ _, hIn, Cont.kid hr hC hnx hv2, (unhide HBW).grown (grown_set5 _ _ _ _ _ _ _) (unhide HBW).size (fun k hk => by cases hk; exact Nat.le_refl _), by have := (unhide hJ).deep; simp only [List.length_cons]; omega⟩)
          clear hfree hKC hIf HX HEB HS8 HBW hJ HY HN HV8 hnx hp
          generalize f.kids.getD p E0 = kd at *
          go_wp2_with (fail)
          go_roundg g
          case measure => omega
          case rel => exact ⟨_, kd, ka', kc', ta', tc', by omega, rfl, rfl, HOUT⟩
        · have hnx := unhide HN rfl
          have mm2 := mVal hkf
          have mm3 := eVal hkf
          have HT8 : Hid (TR w8 (.slice fta f.tiers.length ftc) f.tiers) := hide (by
            obtain ⟨d, kv, tv, heq, _, _, ht⟩ := (unhide HX).ev
            simp only [Value.agg.injEq, Array.mk.injEq, List.cons.injEq, and_true, true_and] at heq
            obtain ⟨rfl, rfl⟩ := heq
            exact ht.toTR.kept (unhide HBW))
          have htl : f.tiers.length ≤ 1048576 := by have := (unhide HX).wt; have := wt_eq f; simp only at *; omega
          have HU8 := hide ((unhide HU).kept (unhide HBW))
          have HOK : Hid (∀ v ∈ vs, okB v = true) := hide (unhide HX).ok
          have HNX := hide hnx
          clear hnx
          go_wp2_with (fail)
          refine (valI us hul f fka fkc fta ftc uv _ vs w8 hkf (unhide HNX) (unhide HV8) hvl (unhide HOK) (unhide HU8) (unhide HT8) htl).mono ?_
          rintro x9 w9 ⟨rfl, hb9⟩
          have HS9 := hide ((unhide HS8).kept hb9)
          have HB9 := hide (below_trans (unhide HBW) hb9)
          have HE9 := hide ((unhide HEB).kept (grown_of_below hb9 none) (by simp))
          clear hb9 HS8 HBW HEB q0 q1 q2 q3 q4 q5 q6 mm2 mm3 HT8 HU8 HV8 HB8
          obtain ⟨rr, rcc, rll, hr, hC⟩ := (unhide hJ).ev
          have hdeep := (unhide hJ).deep
          have HR := hide hr
          have HC := hide hC
          clear hr hC hJ
          cases hvb : valB us f vs
          · obtain ⟨rfl, rfl⟩ := (unhide HR).no (unhide HNX) hvb
            obtain ⟨rfl, rfl, rfl⟩ := (unhide HC).bad (by omega)
            clear hvb HR HC
            go_wp2_with (fail)
            rw [Exit.noGoto_ret]
            go_ret3
            exact ⟨rfl, unhide HB9⟩
          · obtain ⟨rfl, rfl, rfl⟩ := (unhide HR).yes (unhide HNX) hvb
            clear hvb HR
            generalize valV us f vs = vl at *
            cases st2 with
            | nil =>
              obtain ⟨rfl, rfl, hrv⟩ := unhide HC
              rw [if_pos rfl] at hrv
              subst hrv
              clear HC
              go_wp2_with (fail)
              rw [Exit.noGoto_ret]
              go_ret3
              exact ⟨rfl, unhide HB9⟩
            | cons x1 st3 =>
              obtain ⟨f1, a1, b1, d1, g1, vs1, vv1⟩ := x1
              have hx1 := (unhide HS9).each ⟨f1, a1, b1, d1, g1, vs1, vv1⟩ (by simp)
              obtain ⟨va1, vc1, hvv⟩ := hx1.vr.form
              simp only at hvv
              subst hvv
              have hcap : st3.length + 1 + 1 ≤ cap := by
                rcases (unhide HS9).row.2 with ⟨h', _⟩ | ⟨_, _, _, h', _, _, hn, _⟩
                · cases h'
                · simp only [Value.slice.injEq] at h'
                  have := h'.2.2
                  simp only [List.length_cons] at hn
                  omega
              have HS10 := hide (unhide HS9).pop
              obtain ⟨_, y0, y1, y2, y3, y4, y5, y6, yf⟩ := (unhide HS10).top
              simp only at y6
              have hGl : G < w9.heap.size := lt_of_cell y6
              have hGB : w.heap.size + 1 ≤ G := ((unhide HS10).row.lt G rfl).1
              have hE9 : w.heap.size < w9.heap.size := lt_of_cell (unhide HE9).box.1
              obtain ⟨hl2, hC2⟩ := unhide HC
              rw [if_pos rfl] at hC2
              obtain ⟨hvo, r2, c2, l2, hR2, hC3⟩ := hC2
              simp only at hl2 hR2
              have HR2 := hide hR2
              have HC3 := hide hC3
              have HVO := hide hvo
              simp only [List.length_cons] at j0 j1 j2 j3 hdeep HS9 HS10
              have i1 : ((st3.length + 1 : Nat) : Int) == 0 ↔ False := by simp; omega
              have i2 : (((st3.length : Int) + 1) == 0) = false := beq_eq_false_iff_ne.2 (by omega)
              have i3 : (st3.length : Int) + 1 + 1 - 1 = (st3.length : Int) + 1 := by omega
              have i4 : (st3.length : Int) + 1 - 1 = (st3.length : Int) := by omega
              have i5 : (st3.length : Int) + 1 ≤ (cap : Int) := by omega
              have i6 : (0 : Int) ≤ (st3.length : Int) := by omega
              have HX1 := hide hx1
              clear HC hR2 hC3 hvo y0 y1 y2 y3 y4 y5 i1 hx1 HS9
              go_wp2_with (first
                         | (at_builtin
                            refine listApp1 _ rfl _ _ rfl (w.heap.size + 1) w9.heap.size (.slice va1 vs1.length vc1) vs1 vl rfl ((unhide HX1).row.kept (World.grownBy_alloc _ _ none) (ne_none _)) rfl (MapKept.heap_alloc _ _).1 (by omega) (by simp; omega) ?_
                            intro gb2 cb2 w10 ho2 hgr2 hat2 hlt2
                            have hS11 := (unhide HS10).kept (below_alloc w9 (.cells #[.int .i64 vl] 3))
                            have hoff : (Value.slice va1 vs1.length vc1).ownBlock = none ∨ (Value.slice va1 vs1.length vc1).ownBlock ≠ some G := hS11.off _ (List.mem_cons_self ..)
                            have hgG : some G ≠ (Value.slice va1 vs1.length vc1).ownBlock := (by rcases hoff with e | e; (rw [e]; simp); exact fun e' => e e'.symm)
                            have hEo : some w.heap.size ≠ (Value.slice va1 vs1.length vc1).ownBlock := fun e => (by have := ((unhide HX1).row.lt w.heap.size e.symm).1; omega)
                            have hg10 : w9.grownBy w10 (Value.slice va1 vs1.length vc1).ownBlock := grown_trans (World.grownBy_alloc _ _ _) hgr2
                            have z6 := hg10.cell y6 hgG
                            have zf : w10.frozen? ⟨G, st3.length * 7 + 6, none⟩ = false := (World.frozen?_of_block (w := w9) (hg10.block G hGl hgG)).trans yf
                            have HSV := hide (hS11.value (m := vl) hl2 (unhide HVO) ho2 hgr2 hat2)
                            have HE10 := hide ((unhide HE9).kept hg10 hEo)
                            have HB10 := hide ((unhide HB9).grown hg10 (unhide HB9).size (fun k hk => by have := ((unhide HX1).row.lt k hk).1; omega))
                            clear ho2 hgr2 hat2 hS11 hg10 hoff y6 yf))
              have HIN := hide (InR.mk (unhide HSV) ⟨_, _, _, _, _, (unhide HE10).kept (grown_set _ _ _ _) (by intro e; cases e; omega)⟩ ⟨r2, c2, l2, unhide HR2, unhide HC3⟩ ((unhide HB10).grown (grown_set _ _ _ _) (unhide HB10).size (fun k hk => by cases hk; omega)) (by omega))
              clear HSV HE10 HB10
              go_wp2_with (fail)
              go_roundg st3.length
              case measure => simp
              case rel => exact ⟨_, st3, rfl, rfl, HIN⟩
end Go.Proofs.Ytdpefmjlmpjjbaa.Rule
