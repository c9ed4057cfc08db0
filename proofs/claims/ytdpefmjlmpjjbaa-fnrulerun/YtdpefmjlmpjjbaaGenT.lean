/-
  A step more: 'append(e.Tiers, ..)' on a row of the call's own.
-/
import Derived.Test.YtdpefmjlmpjjbaaGenK
import Derived.Deep.RegionHeldLaw
namespace Go.Proofs.Ytdpefmjlmpjjbaa.Draw
set_option linter.unusedVariables false
open Go.RowKit
open Rule (Ex EV ES TL Same wt wtL oth noE noL)

/-- the row of steps -/
def TRow (W : World) (B : Nat) (tv : Value) (ts : List (Int × Int)) : Prop := W.ownsRow B 56 2 tv ts.length (App2.flat fT gT ts)
theorem TF.row {W : World} {B lo : Nat} {tv : Value} {ts : List (Int × Int)} (h : TF W B lo tv ts) : TRow W B tv ts ∧ ∀ g, tv.ownBlock = some g → g < lo := by
  rcases h with ⟨rfl, rfl⟩ | ⟨g, c, rfl, ho, hl⟩
  · exact ⟨⟨rfl, .inl ⟨rfl, rfl⟩⟩, fun g hg => by simp [Value.ownBlock] at hg⟩
  · exact ⟨ho, fun g' hg => by simp [Value.ownBlock] at hg; omega⟩
theorem TRow.kept {W W' : World} {B : Nat} {tv : Value} {ts : List (Int × Int)} {r : Option Nat} (h : TRow W B tv ts) (hg : W.grownBy W' r) (hne : ∀ k, r = some k → k < B) : TRow W' B tv ts := by
  refine World.ownsRow.kept h hg ?_
  cases ho : tv.ownBlock with
  | none => exact .inl rfl
  | some g =>
    right
    intro e
    have := (World.ownsRow.lt h g ho).1
    have := hne g e.symm
    omega

section
variable {ops : Array Oper} {o : Oper} {a : Act} {K : Act → World → Prop} {Q : Exit → Act → World → Prop} {P0 : Prop}
theorem stepAppT (w : World) (hgd : o.guard = none) (s x : Operand) (ho : o.op = .call { callee := .builtin .append, args := #[s, x], argTypes := #[24, 24] })
    (B N : Nat) (z : Int) (tv : Value) (ts : List (Int × Int)) (hs : a.eval s = tv) (hxv : a.eval x = .slice (some ⟨N, 0, none⟩) 1 1) (hrow : TRow w B tv ts) (hc0 : w.cell? ⟨N, 0, none⟩ = some (.int .i64 z)) (hc1 : w.cell? ⟨N, 1, none⟩ = some (.int .i64 0)) (hl : ts.length ≤ 2000) (hB : B ≤ w.heap.size)
    (h : ∀ g' c' w', OwnT w' B g' c' (ts ++ [(z, 0)]) → w.grownBy w' tv.ownBlock → (tv.ownBlock = some g' ∨ g' = w.heap.size) → g' < w'.heap.size → K (a.put o.dst (.slice (some ⟨g', 0, none⟩) (ts.length + 1) c')) w') :
    if Region.wanted o (yielded ops a.tmps) = true then Oper.wp Try.prog o a w K Q else P0 := by
  have hw : Region.wanted o (yielded ops a.tmps) = true := by simp [Region.wanted, hgd]
  rw [if_pos hw]
  obtain ⟨i, hi, h2⟩ := Option.map_eq_some_iff.1 Tiers.infoT
  simp only [Prod.mk.injEq] at h2
  obtain ⟨hz, hsz, hb⟩ := h2
  have hnews : ∀ j u, ([.int .i64 z, .int .i64 0] : List Value)[j]? = some u → w.cell? ((⟨N, 0, none⟩ : Addr).add j) = some u := fun j u hj => by
    rw [Addr.add_lit, Nat.zero_add]
    match j, hj with
    | 0, hj => simp at hj; rw [hc0, hj]
    | 1, hj => simp at hj; rw [hc1, hj]
    | j + 2, hj => simp at hj
  obtain ⟨g', cap', w', hr, ho', hg, hat, hlt⟩ := run_append_lies (P := Try.prog) w 24 o.type B 56 i _ 2 16 Try.underlying24 hi hz hsz hb rfl (by omega) tv ts.length _ hrow ⟨N, 0, none⟩ 1 1 [.int .i64 z, .int .i64 0] rfl hnews (by simp [Value.oneCell']) (by omega) (by unfold maxLen; omega) (by omega) hB _ rfl
  have hO : OwnT w' B g' cap' (ts ++ [(z, 0)]) := by
    show w'.ownsRow B _ 2 _ _ _
    have e1 : App2.flat fT gT (ts ++ [(z, 0)]) = App2.flat fT gT ts ++ [.int .i64 z, .int .i64 0] := by simp [App2.flat]
    rw [e1, List.length_append]
    exact ho'
  unfold Oper.wp execOp
  simp [ho, resolve, invoke, builtin, hs, hxv, hr, Result.andThen]
  exact h g' cap' w' hO hg hat hlt
end

theorem Gs.row {w W W' : World} {b q : Nat} {r : Option Nat} (x : Gs w W b q) (hg : W.grownBy W' r) (hr : ∀ k, r = some k → w.heap.size < k) : Gs w W' b q := by
  have hb := x.bw
  have hw' := x.gr
  have hne : ∀ j, j ≤ w.heap.size → some j ≠ r := fun j hj e => by have := hr j e.symm; omega
  refine ⟨x.rd.kept hg (fun j hj => by have := hr j hj; omega), ?_, hb, x.box.grown hg (hne _ (Nat.le_refl _))⟩
  exact ⟨hg.os.trans hw'.os, hg.tape.trans hw'.tape, hg.output.trans hw'.output, Nat.le_trans hw'.size hg.size, fun j hj hn => (hg.block j (Nat.lt_of_lt_of_le hj hw'.size) (hne j (by omega))).trans (hw'.block j hj hn)⟩
/-- the row of steps has turned, nothing else -/
theorem Rs.row {w W2 W W' : World} {b q h d lo : Nat} {k n : Int} {m : ByteArray} {kv tv : Value} {ks : List Ex} {ts : List (Int × Int)} {r : Option Nat} (x : Rs w W b q h d k n m kv tv ks ts) (hg : W.grownBy W' r) (hr : ∀ j, r = some j → w.heap.size < j ∧ j < lo ∧ j < W2.heap.size) (hlo : w.heap.size + 1 ≤ lo)
    (hk : ES lo W2.heap.size W2 d kv ks) (hh : h = W2.heap.size) (ha : Ag w W2 W h) {g' c' : Nat} {ts' : List (Int × Int)} {B : Nat} (hB : w.heap.size + 1 ≤ B) (ho : OwnT W' B g' c' ts') (hgh : g' ≠ h) (hts : ts'.length ≤ 5) :
    Rs w (W'.setCell ⟨h, 4, none⟩ (.slice (some ⟨g', 0, none⟩) ts'.length c')) b q h d k n m kv (.slice (some ⟨g', 0, none⟩) ts'.length c') ks ts' ∧ ((W'.cell? ⟨h, 0, none⟩ = some (.int .i64 k) ∧ W'.cell? ⟨h, 1, none⟩ = some (.int .i64 n) ∧ W'.cell? ⟨h, 2, none⟩ = some (.string m) ∧ W'.cell? ⟨h, 3, none⟩ = some kv ∧ W'.cell? ⟨h, 4, none⟩ = some tv) ∧ (∀ j, W'.frozen? ⟨h, j, none⟩ = false) ∧ Bx W' w.heap.size) := by
  subst hh
  have hne : some W2.heap.size ≠ r := fun e => by have := hr _ e.symm; omega
  have hblk : W'.heap[W2.heap.size]? = W.heap[W2.heap.size]? := hg.block _ x.hh.2 hne
  have key : ∀ o : Nat, W'.cell? ⟨W2.heap.size, o, none⟩ = W.cell? ⟨W2.heap.size, o, none⟩ := fun o => World.cell?_of_block hblk
  have kf : ∀ j : Nat, W'.frozen? ⟨W2.heap.size, j, none⟩ = W.frozen? ⟨W2.heap.size, j, none⟩ := fun j => World.frozen?_of_block hblk
  have hpe : PE w W' W2.heap.size d kv ks := fun W'' hW => by
    refine (hk.kept (fun j h1 h2 => ?_)).mono hlo (Nat.le_trans ha.1 (Nat.le_trans hg.size hW.1))
    have hjW : j < W.heap.size := Nat.lt_of_lt_of_le h2 ha.1
    rw [hW.2 j (by omega) (by omega) (Nat.lt_of_lt_of_le hjW hg.size), hg.block j hjW (fun e => by have := hr _ e.symm; omega), ha.2 j (by omega) (by omega) h2]
  have hpt : PT w W' W2.heap.size (.slice (some ⟨g', 0, none⟩) ts'.length c') ts' := fun W'' hW => by
    have hlt := ho.lt
    have hb' : W''.heap[g']? = W'.heap[g']? := hW.2 g' (by omega) hgh hlt.2
    refine .inr ⟨g', 0, c', rfl, by omega, Nat.lt_of_lt_of_le hlt.2 hW.1, fun i hi => ?_⟩
    have := ho.cells i (ts'.getD i Tiers.T0) (by simp [List.getD, hi])
    rw [Nat.zero_add]
    exact ⟨(World.cell?_of_block (w := W') hb').trans this.1, (World.cell?_of_block (w := W') hb').trans this.2⟩
  refine ⟨⟨(x.gs.row hg (fun j hj => (hr j hj).1)).set x.hh.1 _ _, cell_o (by omega) ((key _).trans x.c0), cell_o (by omega) ((key _).trans x.c1), cell_o (by omega) ((key _).trans x.c2), cell_o (by omega) ((key _).trans x.c3), World.cell?_setCell_same _ _ _ ((key _).trans x.c4), fun j => by simpa [World.frozen?_setCell] using (kf j).trans (x.fz j), ⟨x.hh.1, by simpa using Nat.lt_of_lt_of_le x.hh.2 hg.size⟩, hpe.next (Ag.box (gset _ _ _ _)), hpt.next (Ag.box (gset _ _ _ _)), ⟨x.bd.1, hts, x.bd.2.2⟩⟩, ⟨(key _).trans x.c0, (key _).trans x.c1, (key _).trans x.c2, (key _).trans x.c3, (key _).trans x.c4⟩, fun j => (kf j).trans (x.fz j), (x.gs.row hg (fun j hj => (hr j hj).1)).box⟩
theorem Rs.box4 {w W w6 : World} {b q h d : Nat} {k n : Int} {m : ByteArray} {kv tv : Value} {ks : List Ex} {ts : List (Int × Int)} {r : Option Nat} {o : Obj} (x : Rs w W b q h d k n m kv tv ks ts) (hg : (W.alloc o).grownBy w6 r) (hne : some h ≠ r) : w6.cell? ⟨h, 4, none⟩ = some tv ∧ w6.frozen? ⟨h, 4, none⟩ = false := by
  have hb := hg.block h (by have := x.hh.2; simp; omega) hne
  have ha : (W.alloc o).heap[h]? = W.heap[h]? := Below.heap_alloc W o _ x.hh.2
  exact ⟨(World.cell?_of_block (w := W) (hb.trans ha)).trans x.c4, (World.frozen?_of_block (w := W) (hb.trans ha)).trans (x.fz 4)⟩
end Go.Proofs.Ytdpefmjlmpjjbaa.Draw
