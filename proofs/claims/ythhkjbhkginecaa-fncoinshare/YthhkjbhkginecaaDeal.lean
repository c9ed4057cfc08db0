/-
  dealLeft: the sort, and the parts by place.
-/
import Derived.Test.YthhkjbhkginecaaShMath
import Derived.Test.YthhkjbhkginecaaShelfS
namespace Go.Proofs.Ythhkjbhkginecaa.Share
set_option linter.unusedVariables false
open Go.RowKit Ints Go.Sort Go.Shelf

def ShSorted (l : List Sh) : Prop := ∀ (i j : Nat) (x y : Sh), i < j → l[i]? = some x → l[j]? = some y → ahead y x = false

theorem sort_grown (w : World) (blk n : Nat) (d' : Array Sh) (os : Array Obj) : w.grownBy (sortWorldK encSh 3 w blk 0 n d' os) (some blk) := by
  refine ⟨rfl, rfl, rfl, size_sortWorldK_c encSh 3 w blk 0 n d' os, ?_⟩
  intro j hj hne
  unfold sortWorldK putRowK putRow mapBlock grow Sort.ahead
  have hne' : ¬ blk = j := fun e => hne (by rw [e])
  show (Array.modify w.heap blk _ ++ os)[j]? = w.heap[j]?
  rw [Array.getElem?_append_left (by simpa using hj), Array.getElem?_modify, if_neg hne']

theorem getBang {l : List Sh} {i : Nat} {x : Sh} (h : l[i]? = some x) : l.toArray[i]! = x := by
  have : l.toArray[i]? = some x := by simpa using h
  rw [getElem!_def, this]

theorem sortD (blk cap n : Nat) (l0 : List Sh) (w : World) (hn : l0.length = n) (hH : HoldsK encSh 3 w blk 0 l0.toArray) (hb : blk < w.heap.size) (hs : n ≤ 16) :
    Calls Try.prog 50 #[.slice (some ⟨blk, 0, none⟩) n cap, .func (.func 51) #[] #[]] w fun e w' => e = .returned (.tuple #[]) ∧ ∃ l : List Sh, l.Perm l0 ∧ ShSorted l ∧ HoldsK encSh 3 w' blk 0 l.toArray ∧ w.grownBy w' (some blk) := by
  subst hn
  have h := AnyQ.slices_SortFunc Try.sortShare 3 Try.isAgg61 Try.sizeOf61 encSh (fun x => rfl) (fun x v hv => by simp [encSh] at hv; rcases hv with rfl | rfl | rfl <;> rfl) cmpSh swo 51 #[] blk 0 cap l0.toArray w (enters_of Try.func51 (by kernel_rfl) rfl) (cmpLays blk 0 _ w) hH hb (by simp; omega)
  have e : l0.toArray.size = l0.length := by simp
  rw [e] at h
  refine Calls.mono h ?_
  rintro e w' ⟨rfl, d', n, os, ⟨h1, _, h2⟩, h3, rfl⟩
  have hsz : d'.size = l0.length := by simpa using h1
  refine ⟨rfl, d'.toList, ?_, ?_, ?_, sort_grown w blk n d' os⟩
  · have e1 : d'.extract 0 l0.length = d' := by rw [← hsz]; simp
    have e2 : l0.toArray.extract 0 l0.length = l0.toArray := by simp
    rw [e1, e2] at h2
    exact h2
  · intro i j x y hij hx hy
    have hjl : j < l0.length := by
      rcases Nat.lt_or_ge j d'.toList.length with h | h
      · rw [Array.length_toList, hsz] at h; exact h
      · rw [List.getElem?_eq_none h] at hy; cases hy
    have := h3 i j (Nat.zero_le _) hij hjl
    rw [ltSh] at this
    have ex := getBang hx
    have ey := getBang hy
    rw [Array.toArray_toList] at ex ey
    rwa [ex, ey] at this
  · rw [Array.toArray_toList]
    exact holdsK_sortWorldK encSh 3 w blk 0 n l0.toArray d' os hb hH h1

/-- the cells of the share in place i -/
theorem shCells {w : World} {blk : Nat} {l : List Sh} (h : HoldsK encSh 3 w blk 0 l.toArray) {i : Nat} {x : Sh} (hx : l[i]? = some x) :
    w.cell? ⟨blk, i * 3, none⟩ = some (.int .i64 x.1) ∧ w.cell? ⟨blk, i * 3 + 1, none⟩ = some (.int .i64 x.2.1) ∧ w.cell? ⟨blk, i * 3 + 2, none⟩ = some (.int .i64 x.2.2) := by
  have hl : i < l.toArray.size := by
    rcases Nat.lt_or_ge i l.length with h | h
    · simpa using h
    · rw [List.getElem?_eq_none h] at hx; cases hx
  have h0 := (h.cell hl (c := 0) (by omega)).1
  have h1 := (h.cell hl (c := 1) (by omega)).1
  have h2 := (h.cell hl (c := 2) (by omega)).1
  rw [getBang hx] at h0 h1 h2
  rw [Nat.zero_add] at h0 h1 h2
  exact ⟨h0, h1, h2⟩

theorem kept_holds {w w' : World} {blk : Nat} {l : List Sh} {r : Option Nat} (h : HoldsK encSh 3 w blk 0 l.toArray) (hb : blk < w.heap.size) (hg : w.grownBy w' r) (hne : some blk ≠ r) : HoldsK encSh 3 w' blk 0 l.toArray := fun j hj => by
  have := h j hj
  rw [hg.cell_far _ hb hne, hg.frozen_far _ hb hne]
  exact this

theorem grown_but {a b : World} (h : a.grownBy b none) (r : Option Nat) : a.grownBy b r := ⟨h.os, h.tape, h.output, h.size, fun j hj _ => h.block j hj (by simp)⟩
theorem grown_new {a b c : World} {g : Nat} (h : a.grownBy b none) (k : b.grownBy c (some g)) (hg : a.heap.size ≤ g) : a.grownBy c none :=
  ⟨k.os.trans h.os, k.tape.trans h.tape, k.output.trans h.output, Nat.le_trans h.size k.size, fun j hj hne => (k.block j (Nat.lt_of_lt_of_le hj h.size) (by simp; omega)).trans (h.block j hj hne)⟩
theorem grown_sa (W : World) (g p : Nat) (u : Value) (o : Obj) : W.grownBy ((W.setCell ⟨g, p, none⟩ u).alloc o) (some g) := grown_trans (set_grown W g p u) (World.grownBy_alloc _ _ (some g))
theorem grown_ssa (W : World) (g p : Nat) (u v : Value) (o : Obj) : W.grownBy (((W.setCell ⟨g, p, none⟩ u).setCell ⟨g, p, none⟩ v).alloc o) (some g) := grown_trans (set_grown W g p u) (grown_sa _ g p v o)
theorem Cells.set0 {W : World} {b : Nat} {l : List Int} (h : Cells W b 0 l) {k : Nat} (hk : k < l.length) (x : Int) : Cells (W.setCell ⟨b, k, none⟩ (.int .i64 x)) b 0 (l.set k x) := by
  have := h.set hk x
  rwa [Nat.zero_add] at this

/-- the parts of the shares, one by one -/
theorem shAt (P R : List Int) (n k : Nat) (hk : k < n) : (shL P R n)[k]? = some ((k : Int), P.getD k 0, R.getD k 0) := by
  simp [shL, hk]

set_option maxHeartbeats 1600000 in
theorem deal (blk cap n : Nat) (P R : List Int) (T L : Int) (w : World) (hH : HoldsK encSh 3 w blk 0 (shL P R n).toArray) (hb : blk < w.heap.size) (hs : n ≤ 16) (h0 : 0 < n) (hT : 0 ≤ T) (hT' : T ≤ 1000000000000000) (hPl : P.length = n) (hTL : T - P.sum = L) (hL : -16000000000000000 ≤ L ∧ L ≤ 1000000000000000)
    (hP : ∀ j, j < n → 0 ≤ P.getD j 0 ∧ P.getD j 0 ≤ 1000000000000000) (F : Nat → Int) (hF : ∀ i, F i = P.getD i 0 + if (cnt R i n : Int) < L then 1 else 0) :
    Calls Try.prog 32 #[.slice (some ⟨blk, 0, none⟩) n cap, .int .i64 T] w fun e w' => ∃ g, e = .returned (.slice (some ⟨g, 0, none⟩) n n) ∧ Cells w' g 0 ((List.range n).map F) ∧ w.heap.size ≤ g ∧ w.grownBy w' (some blk) := by
  have HSO : Hid (∀ W : World, HoldsK encSh 3 W blk 0 (shL P R n).toArray → blk < W.heap.size → _) := hide (fun W h1 h2 => sortD blk cap n (shL P R n) W (by simp [shL]) h1 h2 hs)
  have hmk := run_make_row' (P := Try.prog) 23 3 (.int .i64 0) 8 Try.underlying23 info rfl .i64 .i64 n (by omega) (by omega)
  have HP := hide hP
  have HF := hide hF
  have HH0 := hide hH
  have HTL := hide hTL
  have HPL := hide hPl
  clear hP hF hH hTL hPl
  go_enter Try.func32, Try.ntmps32
  go_wp2
  go_loopw [5, 14] (fun l i wr => ∃ k : Nat, k ≤ n ∧ i = .int .i64 k ∧ l = .int .i64 (T - (P.take k).sum) ∧ Hid (HoldsK encSh 3 wr blk 0 (shL P R n).toArray) ∧ w.grownBy wr none) (fun _ i _ => n - (intOf i).toNat)
  case atStart => exact ⟨0, Nat.zero_le _, rfl, by simp, HH0, World.grownBy.refl _ _⟩
  case round =>
    obtain ⟨k, hk, rfl, rfl, D, hgr0⟩ := hrel
    have hsb := sum_bd' P 1000000000000000 k (fun j hj => unhide HP j (by omega)) (by have := unhide HPL; omega)
    have hgs0 := hgr0.size
    by_cases hlt : k < n
    · obtain ⟨c0, c1, c2⟩ := shCells (unhide D) (shAt P R n k hlt)
      have hPb := unhide HP k hlt
      have HS1 := hide (sum_take P k (by have := unhide HPL; omega))
      generalize P.getD k 0 = p at *
      generalize R.getD k 0 = r at *
      generalize (P.take k).sum = y at *
      go_wp2
      exact ⟨⟨k + 1, by omega, by go_num, by rw [unhide HS1]; go_num, kept_holds (unhide D) (by omega) (World.grownBy_alloc _ _ none) (by simp), grown_trans hgr0 (World.grownBy_alloc _ _ none)⟩, by simp [intOf]; omega⟩
    · have eP : P.take k = P := List.take_of_length_le (by have := unhide HPL; omega)
      rw [eP, unhide HTL]
      have hbr : blk < wr.heap.size := Nat.lt_of_lt_of_le hb hgs0
      have hso := unhide HSO wr (unhide D) hbr
      clear HSO HTL eP hsb D HH0
      go_wp2_with (first | (go_at_call 50; refine hso.mono ?_; rintro e w1 ⟨rfl, l, hp, hsd, hH1, hg1⟩; clear hso))
      have LA := hide (lay_all P R n l L F (unhide HF) hp hsd)
      have RK : Hid (∀ (i : Nat) (x : Sh), l[i]? = some x → ∃ p : Nat, p < n ∧ x = ((p : Int), P.getD p 0, R.getD p 0) ∧ cnt R p n = i) := fun i x hx => rank P R n l hp hsd i x hx
      have hlen : l.length = n := by rw [hp.length_eq]; simp [shL]
      have hb1 : blk < w1.heap.size := Nat.lt_of_lt_of_le hbr hg1.size
      have hsz := hg1.size
      have HH := hide hH1
      have HLn := hide hlen
      clear hp hsd hH1 hlen HF hmk
      go_loopw [30] (fun i wr => ∃ k : Nat, k ≤ n ∧ i = .int .i64 k ∧ Hid (Cells wr w1.heap.size 0 (layV l L n k)) ∧ Hid (HoldsK encSh 3 wr blk 0 l.toArray) ∧ w1.grownBy wr none) (fun i _ => n - (intOf i).toNat)
      case atStart => exact ⟨0, Nat.zero_le _, rfl, Cells.made w1 n _, kept_holds (unhide HH) hb1 (World.grownBy_alloc _ _ none) (by simp), World.grownBy_alloc _ _ none⟩
      case round =>
        obtain ⟨k, hk, rfl, D1, D2, hgr⟩ := hrel
        by_cases hlt : k < n
        · obtain ⟨x, hx⟩ : ∃ x, l[k]? = some x := ⟨l[k]'(by have := unhide HLn; omega), List.getElem?_eq_getElem (by have := unhide HLn; omega)⟩
          obtain ⟨p, hpn, rfl, _⟩ := unhide RK k x hx
          obtain ⟨c0, c1, c2⟩ := shCells (unhide D2) hx
          have LS := lay_step l L n k _ hx
          have hPb := unhide HP p hpn
          have hpl : p < (layV l L n k).length := by rw [lay_len]; exact hpn
          have hu := (unhide D1).2 p hpl
          rw [Nat.zero_add] at hu
          obtain ⟨u1, u2⟩ := hu
          have hgs := hgr.size
          simp only [Int.toNat_natCast] at LS
          have hwl := (unhide D1).1
          by_cases hkl : (k : Int) < L
          · rw [if_pos hkl] at LS
            have HLS := hide LS
            clear LS hx
            generalize P.getD p 0 = a at *
            generalize R.getD p 0 = r at *
            generalize (layV l L n k).getD p 0 = y at *
            go_wp2
            refine ⟨⟨k + 1, by omega, by go_num, ?_, kept_holds (unhide D2) (by omega) (grown_ssa _ _ _ _ _ _) (by simp; omega), grown_new hgr (grown_ssa _ _ _ _ _ _) (Nat.le_refl _)⟩, by simp [intOf]; omega⟩
            have h9 := Cells.set0 (Cells.set0 (unhide D1) hpl a) (by rw [List.length_set]; exact hpl) (a + 1)
            rw [List.set_set, ← unhide HLS] at h9
            exact h9.kept (World.grownBy_alloc _ _ none) (by simp)
          · rw [if_neg hkl] at LS
            have HLS := hide LS
            clear LS hx
            generalize P.getD p 0 = a at *
            generalize R.getD p 0 = r at *
            generalize (layV l L n k).getD p 0 = y at *
            go_wp2
            refine ⟨⟨k + 1, by omega, by go_num, ?_, kept_holds (unhide D2) (by omega) (grown_sa _ _ _ _ _) (by simp; omega), grown_new hgr (grown_sa _ _ _ _ _) (Nat.le_refl _)⟩, by simp [intOf]; omega⟩
            have h9 := Cells.set0 (unhide D1) hpl a
            rw [Int.add_zero] at HLS
            rw [← unhide HLS] at h9
            exact h9.kept (World.grownBy_alloc _ _ none) (by simp)
        · obtain rfl : k = n := by omega
          have D3 := unhide D1
          rw [unhide LA] at D3
          go_wp2
          go_ret
          exact ⟨_, rfl, D3, Nat.le_trans hgs0 hsz, grown_trans (grown_but hgr0 (some blk)) (grown_trans hg1 (grown_but hgr (some blk)))⟩
end Go.Proofs.Ythhkjbhkginecaa.Share
