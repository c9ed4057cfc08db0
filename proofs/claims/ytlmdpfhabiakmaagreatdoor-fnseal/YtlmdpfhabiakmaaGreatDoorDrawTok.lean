/-
  Drawn tokens (l6Token, DrawSealMake, DrawSealCheck).
-/
import Derived.Test.YtlmdpfhabiakmaaGreatDoorRd2
import Derived.Test.YtlmdpfhabiakmaaGreatDoorTokS
import Derived.Shelf.RegionOpen
import Derived.Deep.RegionLaw
namespace Go.Proofs.YtlmdpfhabiakmaaGreatDoor.Tok
set_option linter.unusedVariables false
open Go.RowKit
open Num (bytesOf)
open Mac (hide unhide below_trans macL macL_bd)
open Strs hiding hide unhide below_trans
open Boxes (At box1 box2)
open Draw (Rd pick num new_nums openR Bytes grown_trans below_of grown_of_below)

/-- a number that a drawn token may have -/
def isT (n : Int) : Prop := -3000000000 ≤ n ∧ n ≤ 3000000000
def isE (n : Int) : Prop := -1000000 ≤ n ∧ n ≤ 1000000007
def Tk (r u e m : Int) : Prop := isT r ∧ isT u ∧ isT e ∧ isT m
theorem isT.i {n : Int} (h : isT n) : i64 n := by unfold isT at h; unfold i64; omega
theorem isE.t {n : Int} (h : isE n) : isT n := by unfold isE at h; unfold isT; omega
theorem at_grown {W W' : World} {g : Nat} {cs : List Value} {r : Option Nat} (h : At W g cs) (hg : W.grownBy W' r) (hl : g < W.heap.size) (hr : some g ≠ r) : At W' g cs := h.kept (hg.block g hl hr)
theorem grown_alloc (w : World) (o : Obj) (r : Option Nat) : w.grownBy (w.alloc o) r := World.grownBy_alloc w o r
theorem make_bd (k t r u e : Int) (hu : isE u) (he : isE e) : isE (makeT k t r u e).2.1 ∧ isE (makeT k t r u e).2.2.1 ∧ (-3000000000 ≤ (makeT k t r u e).2.2.2 ∧ (makeT k t r u e).2.2.2 ≤ 2000000000) := by
  have hm := macL_bd k (ptL t r u e)
  unfold makeT
  split
  · exact ⟨hu, he, by simp only; omega⟩
  · exact ⟨by unfold isE; simp, by unfold isE; simp, by simp⟩
theorem make_tk (k t r u e : Int) (hr : isT r) (hu : isT u) (he : isT e) : Tk (makeT k t r u e).1 (makeT k t r u e).2.1 (makeT k t r u e).2.2.1 (makeT k t r u e).2.2.2 := by
  have hm := macL_bd k (ptL t r u e)
  unfold makeT
  split
  · exact ⟨hr, hu, he, by unfold isT; simp only; omega⟩
  · exact ⟨by unfold isT; simp, by unfold isT; simp, by unfold isT; simp, by unfold isT; simp⟩

theorem grown_set {w W : World} {r : Option Nat} (h : w.grownBy W r) {g k : Nat} (hg : w.heap.size ≤ g) (v : Value) : w.grownBy (W.setCell ⟨g, k, none⟩ v) r :=
  ⟨h.os, h.tape, h.output, by simpa using h.size, fun j hj hne => (Below.heap_setCell W ⟨g, k, none⟩ v j (by simp; omega)).trans (h.block j hj hne)⟩
theorem grown_cell (W : World) (g k : Nat) (v : Value) : W.grownBy (W.setCell ⟨g, k, none⟩ v) (some g) :=
  ⟨rfl, rfl, rfl, by simp, fun j hj hne => Below.heap_setCell W ⟨g, k, none⟩ v j (by simp; intro e; exact hne (by rw [e]))⟩
theorem grown_drew {w W : World} {r : Option Nat} (h : w.grownBy W r) : w.grownBy W.drew r := ⟨h.os, h.tape, h.output, h.size, h.block⟩
/-- the reader behind stores into the call's own blocks -/
def Fin (w W : World) (b q : Nat) : Prop := Rd W b q ∧ w.grownBy W (some b)
theorem Fin.set {w W : World} {b q : Nat} (h : Fin w W b q) (hb : b < w.heap.size) {g k : Nat} (hg : w.heap.size ≤ g) (v : Value) : Fin w (W.setCell ⟨g, k, none⟩ v) b q :=
  ⟨h.1.kept (grown_cell W g k v) (fun k e => by injection e with e; omega), grown_set h.2 hg v⟩
theorem Fin.set4 {w W : World} {b q : Nat} (h : Fin w W b q) (hb : b < w.heap.size) {g : Nat} (hg : w.heap.size ≤ g) (v0 v1 v2 v3 : Value) : Fin w ((((W.setCell ⟨g, 0, none⟩ v0).setCell ⟨g, 1, none⟩ v1).setCell ⟨g, 2, none⟩ v2).setCell ⟨g, 3, none⟩ v3) b q :=
  (((h.set hb hg v0).set hb hg v1).set hb hg v2).set hb hg v3
theorem Fin.out {w W : World} {b p q : Nat} (h : Fin w W b q) (hq : q ≤ p + 4) {r u e m : Int} (hT : Tk r u e m) : ∃ r' u' e' m', Ending.returned (tokV r u e m) = .returned (tokV r' u' e' m') ∧ Tk r' u' e' m' ∧ (∃ q, q ≤ p + 4 ∧ Rd W b q) ∧ w.grownBy W (some b) :=
  ⟨r, u, e, m, rfl, hT, ⟨q, hq, h.1⟩, h.2⟩

set_option maxHeartbeats 1000000 in
set_option maxRecDepth 20000 in
theorem drawToken (b p : Nat) (k t ep : Int) (w : World) (hR : Rd w b p) (hp : p ≤ 1000) (ht : i64 t) (he : isE ep) :
    Calls Tryz.prog 22 #[.pointer (some ⟨b, 0, none⟩), .int .i64 k, .int .i64 t, .int .i64 ep] w fun x w' => ∃ r u e m, x = .returned (tokV r u e m) ∧ Tk r u e m ∧ (∃ q, q ≤ p + 4 ∧ Rd w' b q) ∧ w.grownBy w' (some b) := by
  have hbl := hR.lt
  have HR0 := hide (hR.kept (grown_alloc w (.cells #[.int .i64 0, .int .i64 0, .int .i64 0, .int .i64 0] 26) none) (by simp))
  have HA0 := hide (At.new w #[.int .i64 0, .int .i64 0, .int .i64 0, .int .i64 0] 26)
  have HG0 := hide (grown_alloc w (.cells #[.int .i64 0, .int .i64 0, .int .i64 0, .int .i64 0] 26) (some b))
  have hz0 : (w.alloc (.cells #[.int .i64 0, .int .i64 0, .int .i64 0, .int .i64 0] 26)).heap.size = w.heap.size + 1 := by simp
  clear hR
  go_enter Tryz.func22, Tryz.ntmps22
  go_wp2_with fail
  generalize w.alloc (.cells #[.int .i64 0, .int .i64 0, .int .i64 0, .int .i64 0] 26) = W0 at *
  refine (pick 3 b p W0 (unhide HR0) (by omega)).mono ?_
  rintro x w1 ⟨r0, rfl, h0, h1, hR1, hg1⟩
  have hA1 := at_grown (unhide HA0) hg1 (by omega) (by simp; omega)
  have HG1 := hide (grown_trans (unhide HG0) hg1)
  have hz1 := hg1.size
  have hr3 : r0 ≤ 2 := by omega
  have HA1 := hide hA1
  have HR1 := hide hR1
  clear HA0 HR0 HG0 hA1 hR1 hg1 h1
  go_wp2_with fail
  refine (num isE b (p + 1) w1.heap.size 0 7 7 _ ((unhide HR1).kept (grown_alloc w1 _ none) (by simp)) (by omega) (by omega) (by omega) (by have := (unhide HR1).lt; omega) (new_nums isE w1 [0, 3, 9, 50, 50, 1000, 1000000] _ (by unfold isE; simp))).mono ?_
  rintro x w2 ⟨u, rfl, hu, hR2, hg2⟩
  have hg2' := grown_trans (grown_alloc w1 _ _) hg2
  have HA2 := hide (at_grown (unhide HA1) hg2' (by omega) (by simp; omega))
  have HG2 := hide (grown_trans (unhide HG1) hg2')
  have hz2 := hg2'.size
  have HR2 := hide hR2
  have HU := hide hu
  clear HA1 HG1 HR1 hg2 hg2' hR2 hu
  go_wp2_with fail
  refine (makeS k t (1 + r0) u ep _ ht (by unfold i64; omega) (unhide HU).t.i he.t.i).mono ?_
  rintro x w3 ⟨rfl, hb3⟩
  have HTk := hide (make_tk k t (1 + r0) u ep (by unfold isT; omega) (unhide HU).t he.t)
  obtain ⟨bd1, bd2, bd3⟩ := make_bd k t (1 + r0) u ep (unhide HU) he
  have HUB := hide bd1
  have HEB := hide bd2
  have HMB := hide bd3
  clear bd1 bd2 bd3
  generalize makeT k t (1 + r0) u ep = P at *
  obtain ⟨r, u', e, m⟩ := P
  simp only at HTk HUB HEB HMB
  have HA3 := hide ((unhide HA2).below hb3 (by omega))
  have HG3 := hide (grown_trans (unhide HG2) (grown_of_below hb3 (some b)))
  have HR3 := hide ((unhide HR2).kept (grown_of_below hb3 none) (by simp))
  have hz3 := hb3.size
  clear HA2 HG2 HR2 hb3 HU
  have HA4 := hide ((unhide HA3).below (below_alloc w3 (.cells #[.int .i64 r, .int .i64 u', .int .i64 e, .int .i64 m] 26)) (by omega))
  have HT4 := hide (At.new w3 #[.int .i64 r, .int .i64 u', .int .i64 e, .int .i64 m] 26)
  have HG4 := hide (grown_trans (unhide HG3) (grown_alloc w3 (.cells #[.int .i64 r, .int .i64 u', .int .i64 e, .int .i64 m] 26) (some b)))
  have HR4 := hide ((unhide HR3).kept (grown_alloc w3 (.cells #[.int .i64 r, .int .i64 u', .int .i64 e, .int .i64 m] 26) none) (by simp))
  have hz4 : (w3.alloc (.cells #[.int .i64 r, .int .i64 u', .int .i64 e, .int .i64 m] 26)).heap.size = w3.heap.size + 1 := by simp
  clear HA3 HG3 HR3
  go_wp2_with fail
  generalize w3.alloc (.cells #[.int .i64 r, .int .i64 u', .int .i64 e, .int .i64 m] 26) = W4 at *
  refine (pick 20 b (p + 1 + 1) W4 (unhide HR4) (by omega)).mono ?_
  rintro x w5 ⟨z, rfl, k0, k1, hR5, hg5⟩
  have HA5 := hide (at_grown (unhide HA4) hg5 (by omega) (by simp; omega))
  have hT5 := at_grown (unhide HT4) hg5 (by omega) (by simp; omega)
  have HG5 := hide (grown_trans (unhide HG4) hg5)
  have hz5 := hg5.size
  have HR5 := hide hR5
  obtain ⟨⟨c0, c1, c2, c3⟩, f0, f1, f2, f3⟩ := at4 hT5
  have HT5 := hide hT5
  clear HA4 HT4 HG4 HR4 hg5 hR5 hT5 k1
  have HF5 : Hid (Fin w w5 b (p + 1 + 1 + 1)) := hide ⟨unhide HR5, unhide HG5⟩
  by_cases h0 : z = 0
  · subst h0
    have HA6 := hide ((unhide HA5).other (g := w3.heap.size) (k := 3) (.int .i64 (m + 1)) (by omega))
    have HT6 := hide ((unhide HT5).set 3 (.int .i64 (m + 1)))
    have HF6 := hide ((unhide HF5).set hbl (g := w3.heap.size) (k := 3) (by omega) (.int .i64 (m + 1)))
    obtain ⟨⟨z0, z1, z2, z3⟩, y0, y1, y2, y3⟩ := at4 (unhide HA6)
    obtain ⟨⟨x0, x1, x2, x3⟩, _⟩ := at4 (unhide HT6)
    have bm : -3000000000 ≤ m ∧ m ≤ 2000000000 := unhide HMB
    obtain ⟨bm1, bm2⟩ := bm
    go_wp2_with fail
    exact bodyPost_ret (v := tokV r u' e (m + 1)) (by simp [results, Tryz.results22, go_sem, z0, z1, z2, z3]) rfl (Fin.out ((unhide HF6).set4 hbl (Nat.le_refl _) _ _ _ _) (by omega) ⟨(unhide HTk).1, (unhide HTk).2.1, (unhide HTk).2.2.1, by unfold isT; omega⟩)
  have h0' : (z == 0) = false := by simpa using h0
  by_cases h1 : z = 1
  · subst h1
    clear h0 h0' c0 c1 c2 c3 f0 f1 f2 f3
    go_wp2_with fail
    refine (num isE b (p + 1 + 1 + 1) w5.heap.size 0 3 3 _ ((unhide HR5).kept (grown_alloc w5 _ none) (by simp)) (by omega) (by omega) (by omega) (by have := (unhide HR5).lt; omega) (new_nums isE w5 [0, 1, 4] _ (by unfold isE; simp))).mono ?_
    rintro x w6 ⟨n, rfl, hn, hR6, hg6⟩
    have hg6' := grown_trans (grown_alloc w5 _ (some b)) hg6
    have HA6 := hide ((at_grown (unhide HA5) hg6' (by omega) (by simp; omega)).other (g := w3.heap.size) (k := 0) (.int .i64 n) (by omega))
    have hT6 := at_grown (unhide HT5) hg6' (by omega) (by simp; omega)
    obtain ⟨_, f0, _, _, _⟩ := at4 hT6
    obtain ⟨⟨c0, _⟩, _⟩ := at4 hT6
    have HT6 := hide (hT6.set 0 (.int .i64 n))
    have HF6 := hide (Fin.set (w := w) ⟨hR6, grown_trans (unhide HG5) hg6'⟩ hbl (g := w3.heap.size) (k := 0) (by omega) (.int .i64 n))
    obtain ⟨⟨z0, z1, z2, z3⟩, y0, y1, y2, y3⟩ := at4 (unhide HA6)
    obtain ⟨⟨x0, x1, x2, x3⟩, _⟩ := at4 (unhide HT6)
    clear hT6 hg6 hg6' hR6
    go_wp2_with fail
    exact bodyPost_ret (v := tokV n u' e m) (by simp [results, Tryz.results22, go_sem, z0, z1, z2, z3]) rfl (Fin.out ((unhide HF6).set4 hbl (Nat.le_refl _) _ _ _ _) (by omega) ⟨hn.t, (unhide HTk).2.1, (unhide HTk).2.2.1, (unhide HTk).2.2.2⟩)
  have h1' : (z == 1) = false := by simpa using h1
  by_cases h2 : z = 2
  · subst h2
    clear h0 h0' h1 h1' f0 f1 f2 f3
    have bu : -1000000 ≤ u' ∧ u' ≤ 1000000007 := unhide HUB
    obtain ⟨bu1, bu2⟩ := bu
    have hgd := grown_drew (grown_alloc w5 (.cells #[.int .i64 1, .int .i64 (-1), .int .i64 1000000] 3) none)
    have HGD := hide (grown_drew (grown_alloc w5 (.cells #[.int .i64 1, .int .i64 (-1), .int .i64 1000000] 3) (some b)))
    have HN := hide (num isE b (p + 1 + 1 + 1) w5.heap.size 0 3 3 (w5.alloc (.cells #[.int .i64 1, .int .i64 (-1), .int .i64 1000000] 3)).drew ((unhide HR5).kept hgd (by simp)) (by omega) (by omega) (by omega) (by have := (unhide HR5).lt; omega) (new_nums isE w5 [1, -1, 1000000] _ (by unfold isE; simp)))
    have hTa := (unhide HT5).below (below_alloc w5 (.cells #[.int .i64 1, .int .i64 (-1), .int .i64 1000000] 3)) (by omega)
    obtain ⟨⟨_, ca1, _, _⟩, _⟩ := at4 hTa
    clear hgd hTa
    go_wp2_with fail
    go_region_law ((go_simp; go_at_call 14; refine (unhide HN).mono ?_; rintro x w6 ⟨n, rfl, hn, hR6, hg6⟩; have hg6' := grown_trans (unhide HGD) hg6; have hT6 := at_grown (unhide HT5) hg6' (by omega) (by simp; omega); obtain ⟨⟨_, x1, _, _⟩, _, g1, _, _⟩ := at4 hT6; have HNB := hide hn; have bn : -1000000 ≤ n ∧ n ≤ 1000000007 := hn; obtain ⟨bn1, bn2⟩ := bn; clear hn))
    all_goals
      have hw : IntKind.i64.wrap (u' + n) = u' + n := by simp [IntKind.wrap, IntKind.bits, IntKind.signed]; omega
      rw [hw]
      clear hw
      have HA6 := hide ((at_grown (unhide HA5) hg6' (by omega) (by simp; omega)).other (g := w3.heap.size) (k := 1) (.int .i64 (u' + n)) (by omega))
      have HT6 := hide (hT6.set 1 (.int .i64 (u' + n)))
      have HF6 := hide (Fin.set (w := w) ⟨hR6, grown_trans (unhide HG5) hg6'⟩ hbl (g := w3.heap.size) (k := 1) (by omega) (.int .i64 (u' + n)))
      clear x1 g1 hT6 hg6 hg6' hR6 c0 c1 c2 c3 ca1
      obtain ⟨⟨z0, z1, z2, z3⟩, y0, y1, y2, y3⟩ := at4 (unhide HA6)
      obtain ⟨⟨x0, x1, x2, x3⟩, _⟩ := at4 (unhide HT6)
      go_wp2_with fail
      exact bodyPost_ret (v := tokV r (u' + n) e m) (by simp [results, Tryz.results22, go_sem, z0, z1, z2, z3]) rfl (Fin.out ((unhide HF6).set4 hbl (Nat.le_refl _) _ _ _ _) (by omega) ⟨(unhide HTk).1, by unfold isT; omega, (unhide HTk).2.2.1, (unhide HTk).2.2.2⟩)
  have h2' : (z == 2) = false := by simpa using h2
  by_cases h3 : z = 3
  · subst h3
    have HA6 := hide ((unhide HA5).other (g := w3.heap.size) (k := 2) (.int .i64 (e + 1)) (by omega))
    have HT6 := hide ((unhide HT5).set 2 (.int .i64 (e + 1)))
    have HF6 := hide ((unhide HF5).set hbl (g := w3.heap.size) (k := 2) (by omega) (.int .i64 (e + 1)))
    obtain ⟨⟨z0, z1, z2, z3⟩, y0, y1, y2, y3⟩ := at4 (unhide HA6)
    obtain ⟨⟨x0, x1, x2, x3⟩, _⟩ := at4 (unhide HT6)
    have be : -1000000 ≤ e ∧ e ≤ 1000000007 := unhide HEB
    obtain ⟨be1, be2⟩ := be
    go_wp2_with fail
    exact bodyPost_ret (v := tokV r u' (e + 1) m) (by simp [results, Tryz.results22, go_sem, z0, z1, z2, z3]) rfl (Fin.out ((unhide HF6).set4 hbl (Nat.le_refl _) _ _ _ _) (by omega) ⟨(unhide HTk).1, (unhide HTk).2.1, by unfold isT; omega, (unhide HTk).2.2.2⟩)
  have h3' : (z == 3) = false := by simpa using h3
  by_cases h4 : z = 4
  · subst h4
    clear h0 h0' h1 h1' h2 h2' h3 h3' c0 c1 c2 c3 f0 f1 f2 f3
    go_wp2_with fail
    refine (num isE b (p + 1 + 1 + 1) w5.heap.size 0 3 3 _ ((unhide HR5).kept (grown_alloc w5 _ none) (by simp)) (by omega) (by omega) (by omega) (by have := (unhide HR5).lt; omega) (new_nums isE w5 [-1, 0, 1000000007] _ (by unfold isE; simp))).mono ?_
    rintro x w6 ⟨n, rfl, hn, hR6, hg6⟩
    have hg6' := grown_trans (grown_alloc w5 _ (some b)) hg6
    have HA6 := hide ((at_grown (unhide HA5) hg6' (by omega) (by simp; omega)).other (g := w3.heap.size) (k := 3) (.int .i64 n) (by omega))
    have hT6 := at_grown (unhide HT5) hg6' (by omega) (by simp; omega)
    obtain ⟨_, _, _, _, f3⟩ := at4 hT6
    obtain ⟨⟨_, _, _, c3⟩, _⟩ := at4 hT6
    have HT6 := hide (hT6.set 3 (.int .i64 n))
    have HF6 := hide (Fin.set (w := w) ⟨hR6, grown_trans (unhide HG5) hg6'⟩ hbl (g := w3.heap.size) (k := 3) (by omega) (.int .i64 n))
    obtain ⟨⟨z0, z1, z2, z3⟩, y0, y1, y2, y3⟩ := at4 (unhide HA6)
    obtain ⟨⟨x0, x1, x2, x3⟩, _⟩ := at4 (unhide HT6)
    clear hT6 hg6 hg6' hR6
    go_wp2_with fail
    exact bodyPost_ret (v := tokV r u' e n) (by simp [results, Tryz.results22, go_sem, z0, z1, z2, z3]) rfl (Fin.out ((unhide HF6).set4 hbl (Nat.le_refl _) _ _ _ _) (by omega) ⟨(unhide HTk).1, (unhide HTk).2.1, (unhide HTk).2.2.1, hn.t⟩)
  have h4' : (z == 4) = false := by simpa using h4
  clear h0 h1 h2 h3 h4
  obtain ⟨⟨z0, z1, z2, z3⟩, y0, y1, y2, y3⟩ := at4 (unhide HA5)
  go_wp2_with fail
  exact bodyPost_ret (v := tokV r u' e m) (by simp [results, Tryz.results22, go_sem, z0, z1, z2, z3]) rfl (Fin.out ((unhide HF5).set4 hbl (Nat.le_refl _) _ _ _ _) (by omega) (unhide HTk))
end Go.Proofs.YtlmdpfhabiakmaaGreatDoor.Tok
