/-
  Texts of this proof laid together, in build order; each says of itself what it holds.
-/
import Derived.Test.YtnchgeiinkaefaaGreatDoorZax
import Derived.Test.YtnchgeiinkaefaaGreatDoorZam
import Derived.Test.YtnchgeiinkaefaaGreatDoorZau
import Derived.Test.YtnchgeiinkaefaaGreatDoorZaf
import Derived.Test.YtnchgeiinkaefaaGreatDoorZar
section
/-
  dealLeft: the sort, and the parts by place.
-/
namespace Go.Proofs.YtnchgeiinkaefaaGreatDoor.Share
set_option linter.unusedVariables false
open Go.RowKit Ints Go.Sort Go.Shelf

def ShSorted (l : List Sh) : Prop := ∀ (i j : Nat) (x y : Sh), i < j → l[i]? = some x → l[j]? = some y → ahead y x = false

theorem sort_grown (w : World) (blk n : Nat) (d' : Array Sh) (os : Array Obj) : w.grownBy (sortWorldK encSh 3 w blk 0 n d' os) (some blk) := by
  refine ⟨rfl, rfl, rfl, size_sortWorldK_c encSh 3 w blk 0 n d' os, ?_⟩
  intro j hj hne
  unfold sortWorldK putRowK putRow mapBlock grow Sort.ahead
  have hne' : ¬ blk = j := fun e => hne (by rw [e])
  show (Array.modify w.heap blk _ ++ os)[j]? = w.heap[j]?
  rw [Array.getElem?_append_left (by simpa using hj), Array.getElem?_modify, if_neg hne']

theorem getBang {l : List Sh} {i : Nat} {x : Sh} (h : l[i]? = some x) : l.toArray[i]! = x := by
  have : l.toArray[i]? = some x := by simpa using h
  rw [getElem!_def, this]

theorem sortD (blk cap n : Nat) (l0 : List Sh) (w : World) (hn : l0.length = n) (hH : HoldsK encSh 3 w blk 0 l0.toArray) (hb : blk < w.heap.size) (hs : n ≤ 16) :
    Calls Tryz.prog 105 #[.slice (some ⟨blk, 0, none⟩) n cap, .func (.func 106) #[] #[]] w fun e w' => e = .returned (.tuple #[]) ∧ ∃ l : List Sh, l.Perm l0 ∧ ShSorted l ∧ HoldsK encSh 3 w' blk 0 l.toArray ∧ w.grownBy w' (some blk) := by
  subst hn
  have h := AnyQ.slices_SortFunc Tryz.sortShare 3 Tryz.isAgg127 Tryz.sizeOf127 encSh (fun x => rfl) (fun x v hv => by simp [encSh] at hv; rcases hv with rfl | rfl | rfl <;> rfl) cmpSh swo 106 #[] blk 0 cap l0.toArray w (enters_of Tryz.func106 (by kernel_rfl) rfl) (cmpLays blk 0 _ w) hH hb (by simp; omega)
  have e : l0.toArray.size = l0.length := by simp
  rw [e] at h
  refine Calls.mono h ?_
  rintro e w' ⟨rfl, d', n, os, ⟨h1, _, h2⟩, h3, rfl⟩
  have hsz : d'.size = l0.length := by simpa using h1
  refine ⟨rfl, d'.toList, ?_, ?_, ?_, sort_grown w blk n d' os⟩
  · have e1 : d'.extract 0 l0.length = d' := by rw [← hsz]; simp
    have e2 : l0.toArray.extract 0 l0.length = l0.toArray := by simp
    rw [e1, e2] at h2
    exact h2
  · intro i j x y hij hx hy
    have hjl : j < l0.length := by
      rcases Nat.lt_or_ge j d'.toList.length with h | h
      · rw [Array.length_toList, hsz] at h; exact h
      · rw [List.getElem?_eq_none h] at hy; cases hy
    have := h3 i j (Nat.zero_le _) hij hjl
    rw [ltSh] at this
    have ex := getBang hx
    have ey := getBang hy
    rw [Array.toArray_toList] at ex ey
    rwa [ex, ey] at this
  · rw [Array.toArray_toList]
    exact holdsK_sortWorldK encSh 3 w blk 0 n l0.toArray d' os hb hH h1

/-- the cells of the share in place i -/
theorem shCells {w : World} {blk : Nat} {l : List Sh} (h : HoldsK encSh 3 w blk 0 l.toArray) {i : Nat} {x : Sh} (hx : l[i]? = some x) :
    w.cell? ⟨blk, i * 3, none⟩ = some (.int .i64 x.1) ∧ w.cell? ⟨blk, i * 3 + 1, none⟩ = some (.int .i64 x.2.1) ∧ w.cell? ⟨blk, i * 3 + 2, none⟩ = some (.int .i64 x.2.2) := by
  have hl : i < l.toArray.size := by
    rcases Nat.lt_or_ge i l.length with h | h
    · simpa using h
    · rw [List.getElem?_eq_none h] at hx; cases hx
  have h0 := (h.cell hl (c := 0) (by omega)).1
  have h1 := (h.cell hl (c := 1) (by omega)).1
  have h2 := (h.cell hl (c := 2) (by omega)).1
  rw [getBang hx] at h0 h1 h2
  rw [Nat.zero_add] at h0 h1 h2
  exact ⟨h0, h1, h2⟩

theorem kept_holds {w w' : World} {blk : Nat} {l : List Sh} {r : Option Nat} (h : HoldsK encSh 3 w blk 0 l.toArray) (hb : blk < w.heap.size) (hg : w.grownBy w' r) (hne : some blk ≠ r) : HoldsK encSh 3 w' blk 0 l.toArray := fun j hj => by
  have := h j hj
  rw [hg.cell_far _ hb hne, hg.frozen_far _ hb hne]
  exact this

theorem grown_but {a b : World} (h : a.grownBy b none) (r : Option Nat) : a.grownBy b r := ⟨h.os, h.tape, h.output, h.size, fun j hj _ => h.block j hj (by simp)⟩
theorem grown_new {a b c : World} {g : Nat} (h : a.grownBy b none) (k : b.grownBy c (some g)) (hg : a.heap.size ≤ g) : a.grownBy c none :=
  ⟨k.os.trans h.os, k.tape.trans h.tape, k.output.trans h.output, Nat.le_trans h.size k.size, fun j hj hne => (k.block j (Nat.lt_of_lt_of_le hj h.size) (by simp; omega)).trans (h.block j hj hne)⟩
theorem grown_sa (W : World) (g p : Nat) (u : Value) (o : Obj) : W.grownBy ((W.setCell ⟨g, p, none⟩ u).alloc o) (some g) := grown_trans (set_grown W g p u) (World.grownBy_alloc _ _ (some g))
theorem grown_ssa (W : World) (g p : Nat) (u v : Value) (o : Obj) : W.grownBy (((W.setCell ⟨g, p, none⟩ u).setCell ⟨g, p, none⟩ v).alloc o) (some g) := grown_trans (set_grown W g p u) (grown_sa _ g p v o)
theorem Cells.set0 {W : World} {b : Nat} {l : List Int} (h : Cells W b 0 l) {k : Nat} (hk : k < l.length) (x : Int) : Cells (W.setCell ⟨b, k, none⟩ (.int .i64 x)) b 0 (l.set k x) := by
  have := h.set hk x
  rwa [Nat.zero_add] at this

/-- the parts of the shares, one by one -/
theorem shAt (P R : List Int) (n k : Nat) (hk : k < n) : (shL P R n)[k]? = some ((k : Int), P.getD k 0, R.getD k 0) := by
  simp [shL, hk]

set_option maxHeartbeats 1600000 in
theorem deal (blk cap n : Nat) (P R : List Int) (T L : Int) (w : World) (hH : HoldsK encSh 3 w blk 0 (shL P R n).toArray) (hb : blk < w.heap.size) (hs : n ≤ 16) (h0 : 0 < n) (hT : 0 ≤ T) (hT' : T ≤ 1000000000000000) (hPl : P.length = n) (hTL : T - P.sum = L) (hL : -16000000000000000 ≤ L ∧ L ≤ 1000000000000000)
    (hP : ∀ j, j < n → 0 ≤ P.getD j 0 ∧ P.getD j 0 ≤ 1000000000000000) (F : Nat → Int) (hF : ∀ i, F i = P.getD i 0 + if (cnt R i n : Int) < L then 1 else 0) :
    Calls Tryz.prog 71 #[.slice (some ⟨blk, 0, none⟩) n cap, .int .i64 T] w fun e w' => ∃ g, e = .returned (.slice (some ⟨g, 0, none⟩) n n) ∧ Cells w' g 0 ((List.range n).map F) ∧ w.heap.size ≤ g ∧ w.grownBy w' (some blk) := by
  have HSO : Hid (∀ W : World, HoldsK encSh 3 W blk 0 (shL P R n).toArray → blk < W.heap.size → _) := hide (fun W h1 h2 => sortD blk cap n (shL P R n) W (by simp [shL]) h1 h2 hs)
  have hmk := run_make_row' (P := Tryz.prog) 91 3 (.int .i64 0) 8 Tryz.underlying91 info rfl .i64 .i64 n (by omega) (by omega)
  have HP := hide hP
  have HF := hide hF
  have HH0 := hide hH
  have HTL := hide hTL
  have HPL := hide hPl
  clear hP hF hH hTL hPl
  go_enter Tryz.func71, Tryz.ntmps71
  go_wp2
  go_loopw [5, 14] (fun l i wr => ∃ k : Nat, k ≤ n ∧ i = .int .i64 k ∧ l = .int .i64 (T - (P.take k).sum) ∧ Hid (HoldsK encSh 3 wr blk 0 (shL P R n).toArray) ∧ w.grownBy wr none) (fun _ i _ => n - (intOf i).toNat)
  case atStart => exact ⟨0, Nat.zero_le _, rfl, by simp, HH0, World.grownBy.refl _ _⟩
  case round =>
    obtain ⟨k, hk, rfl, rfl, D, hgr0⟩ := hrel
    have hsb := sum_bd' P 1000000000000000 k (fun j hj => unhide HP j (by omega)) (by have := unhide HPL; omega)
    have hgs0 := hgr0.size
    by_cases hlt : k < n
    · obtain ⟨c0, c1, c2⟩ := shCells (unhide D) (shAt P R n k hlt)
      have hPb := unhide HP k hlt
      have HS1 := hide (sum_take P k (by have := unhide HPL; omega))
      generalize P.getD k 0 = p at *
      generalize R.getD k 0 = r at *
      generalize (P.take k).sum = y at *
      go_wp2
      exact ⟨⟨k + 1, by omega, by go_num, by rw [unhide HS1]; go_num, kept_holds (unhide D) (by omega) (World.grownBy_alloc _ _ none) (by simp), grown_trans hgr0 (World.grownBy_alloc _ _ none)⟩, by simp [intOf]; omega⟩
    · have eP : P.take k = P := List.take_of_length_le (by have := unhide HPL; omega)
      rw [eP, unhide HTL]
      have hbr : blk < wr.heap.size := Nat.lt_of_lt_of_le hb hgs0
      have hso := unhide HSO wr (unhide D) hbr
      clear HSO HTL eP hsb D HH0
      go_wp2_with (first | (go_at_call 105; refine hso.mono ?_; rintro e w1 ⟨rfl, l, hp, hsd, hH1, hg1⟩; clear hso))
      have LA := hide (lay_all P R n l L F (unhide HF) hp hsd)
      have RK : Hid (∀ (i : Nat) (x : Sh), l[i]? = some x → ∃ p : Nat, p < n ∧ x = ((p : Int), P.getD p 0, R.getD p 0) ∧ cnt R p n = i) := fun i x hx => rank P R n l hp hsd i x hx
      have hlen : l.length = n := by rw [hp.length_eq]; simp [shL]
      have hb1 : blk < w1.heap.size := Nat.lt_of_lt_of_le hbr hg1.size
      have hsz := hg1.size
      have HH := hide hH1
      have HLn := hide hlen
      clear hp hsd hH1 hlen HF hmk
      go_loopw [30] (fun i wr => ∃ k : Nat, k ≤ n ∧ i = .int .i64 k ∧ Hid (Cells wr w1.heap.size 0 (layV l L n k)) ∧ Hid (HoldsK encSh 3 wr blk 0 l.toArray) ∧ w1.grownBy wr none) (fun i _ => n - (intOf i).toNat)
      case atStart => exact ⟨0, Nat.zero_le _, rfl, Cells.made w1 n _, kept_holds (unhide HH) hb1 (World.grownBy_alloc _ _ none) (by simp), World.grownBy_alloc _ _ none⟩
      case round =>
        obtain ⟨k, hk, rfl, D1, D2, hgr⟩ := hrel
        by_cases hlt : k < n
        · obtain ⟨x, hx⟩ : ∃ x, l[k]? = some x := ⟨l[k]'(by have := unhide HLn; omega), List.getElem?_eq_getElem (by have := unhide HLn; omega)⟩
          obtain ⟨p, hpn, rfl, _⟩ := unhide RK k x hx
          obtain ⟨c0, c1, c2⟩ := shCells (unhide D2) hx
          have LS := lay_step l L n k _ hx
          have hPb := unhide HP p hpn
          have hpl : p < (layV l L n k).length := by rw [lay_len]; exact hpn
          have hu := (unhide D1).2 p hpl
          rw [Nat.zero_add] at hu
          obtain ⟨u1, u2⟩ := hu
          have hgs := hgr.size
          simp only [Int.toNat_natCast] at LS
          have hwl := (unhide D1).1
          by_cases hkl : (k : Int) < L
          · rw [if_pos hkl] at LS
            have HLS := hide LS
            clear LS hx
            generalize P.getD p 0 = a at *
            generalize R.getD p 0 = r at *
            generalize (layV l L n k).getD p 0 = y at *
            go_wp2
            refine ⟨⟨k + 1, by omega, by go_num, ?_, kept_holds (unhide D2) (by omega) (grown_ssa _ _ _ _ _ _) (by simp; omega), grown_new hgr (grown_ssa _ _ _ _ _ _) (Nat.le_refl _)⟩, by simp [intOf]; omega⟩
            have h9 := Cells.set0 (Cells.set0 (unhide D1) hpl a) (by rw [List.length_set]; exact hpl) (a + 1)
            rw [List.set_set, ← unhide HLS] at h9
            exact h9.kept (World.grownBy_alloc _ _ none) (by simp)
          · rw [if_neg hkl] at LS
            have HLS := hide LS
            clear LS hx
            generalize P.getD p 0 = a at *
            generalize R.getD p 0 = r at *
            generalize (layV l L n k).getD p 0 = y at *
            go_wp2
            refine ⟨⟨k + 1, by omega, by go_num, ?_, kept_holds (unhide D2) (by omega) (grown_sa _ _ _ _ _) (by simp; omega), grown_new hgr (grown_sa _ _ _ _ _) (Nat.le_refl _)⟩, by simp [intOf]; omega⟩
            have h9 := Cells.set0 (unhide D1) hpl a
            rw [Int.add_zero] at HLS
            rw [← unhide HLS] at h9
            exact h9.kept (World.grownBy_alloc _ _ none) (by simp)
        · obtain rfl : k = n := by omega
          have D3 := unhide D1
          rw [unhide LA] at D3
          go_wp2
          go_ret
          exact ⟨_, rfl, D3, Nat.le_trans hgs0 hsz, grown_trans (grown_but hgr0 (some blk)) (grown_trans hg1 (grown_but hgr (some blk)))⟩
end Go.Proofs.YtnchgeiinkaefaaGreatDoor.Share
end

section
/-
  CoinShare, the program's.
-/
namespace Go.Proofs.YtnchgeiinkaefaaGreatDoor.Share
set_option linter.unusedVariables false
open Go.RowKit Ints Go.Sort Go.Shelf Coin

theorem fitD {a b : Int} (ha : 0 ≤ a) (ha' : a ≤ 1000000000000000) (hb : 0 ≤ b) (hb' : b ≤ 1000000) (h : a * b ≤ 1000000000000000) : fitB a b = true := by
  have h1 : okB a = true := okB_true (by omega)
  have h2 : okB b = true := okB_true (by omega)
  have h3 : sz a = a := by unfold sz; omega
  have h4 : sz b = b := by unfold sz; omega
  unfold fitB; rw [h1, h2, h3, h4]
  simpa using h

theorem divD (T x S : Int) (w : World) (h0 : 0 ≤ T) (h1 : T ≤ 1000000000000000) (hx : 0 ≤ x) (hx' : x ≤ 1000000) (hxs : x ≤ S) (hs : 1 ≤ S) (hs' : S ≤ 16000000) :
    Calls Tryz.prog 68 #[.int .i64 T, .int .i64 x, .int .i64 S, .func (.func 69) #[] #[]] w fun e w' => e = .returned (.tuple #[.int .i64 (ptV T S x), .int .i64 (rsV T S x), .bool true]) ∧ ∃ k, w' = w.drewN k := by
  obtain ⟨b1, b2, b3, b4, b5, b6, b7, b8, b9, b10, b11, b12⟩ := ptBd h0 h1 hx hx' hxs hs hs'
  have hf := fitD b1 b2 hx hx' (by omega)
  have hp : okB (T / S * x + T % S * x / S) = true := okB_true (by omega)
  have s0 : ¬ S = 0 := by omega
  unfold ptV rsV
  clear hxs
  go_enter Tryz.func68, Tryz.ntmps68
  go_wp2_with (first | (go_at_call 102; refine (timesM_yes _ _ _ hf).mono ?_; rintro e w' ⟨rfl, rfl⟩))
  go_quiet ((go_at_call 69; exact Calls.quiet_of_same (rndDM _ _ _ _)))
  go_wp2_with (first | (go_at_call 72; refine (okM _ _).mono ?_; rintro e w' ⟨rfl, rfl⟩))
  go_quiet (fail)
  go_wp2
  go_ret3
  exact ⟨rfl, _, World.drewN_drewN _ _ _⟩

theorem infoSh : (Tryz.prog.info? 127).map (fun i => (i.zero, i.size, i.bytes)) = some (some (.agg #[.int .i64 0, .int .i64 0, .int .i64 0]), 3, 24) := by kernel_rfl

end Go.Proofs.YtnchgeiinkaefaaGreatDoor.Share
end

section
/-
  CoinShare, the program's: what it answers.
-/
namespace Go.Proofs.YtnchgeiinkaefaaGreatDoor.Share
set_option linter.unusedVariables false
open Go.RowKit Ints Go.Sort Go.Shelf

theorem makeSh (n : Nat) (hn : n ≤ 16) (w : World) : (Instr.makeSlice 121 (.int .i64 (n : Int)) (.int .i64 (n : Int))).run Tryz.prog w = .ok (.slice (some ⟨w.heap.size, 0, none⟩) n n) (w.alloc (.cells (madeCells #[.int .i64 0, .int .i64 0, .int .i64 0] (n * 3)) 127)) := by
  obtain ⟨i, hi, h2⟩ := Option.map_eq_some_iff.1 infoSh
  simp only [Prod.mk.injEq] at h2
  obtain ⟨hz, hs, hb⟩ := h2
  have := run_make (P := Tryz.prog) w 121 127 i _ Tryz.underlying121 hi hz .i64 .i64 n n (by omega) (by omega) (by rw [hb]; omega) (by omega)
  have e : (Value.agg #[.int .i64 0, .int .i64 0, .int .i64 0]).cells = #[.int .i64 0, .int .i64 0, .int .i64 0] := rfl
  rw [hs, e] at this
  simpa using this

/-- the row of shares in block b: f tells each -/
def SC (W : World) (b n : Nat) (f : Nat → Sh) : Prop := b < W.heap.size ∧ ∀ i, i < n → (W.cell? ⟨b, i * 3, none⟩ = some (.int .i64 (f i).1) ∧ W.cell? ⟨b, i * 3 + 1, none⟩ = some (.int .i64 (f i).2.1) ∧ W.cell? ⟨b, i * 3 + 2, none⟩ = some (.int .i64 (f i).2.2)) ∧ W.frozen? ⟨b, i * 3, none⟩ = false ∧ W.frozen? ⟨b, i * 3 + 1, none⟩ = false ∧ W.frozen? ⟨b, i * 3 + 2, none⟩ = false

theorem SC.kept {W W' : World} {b n : Nat} {f : Nat → Sh} {r : Option Nat} (h : SC W b n f) (hg : W.grownBy W' r) (hne : some b ≠ r) : SC W' b n f := by
  refine ⟨Nat.lt_of_lt_of_le h.1 hg.size, fun i hi => ?_⟩
  have := h.2 i hi
  rw [hg.cell_far _ h.1 hne, hg.cell_far _ h.1 hne, hg.cell_far _ h.1 hne, hg.frozen_far _ h.1 hne, hg.frozen_far _ h.1 hne, hg.frozen_far _ h.1 hne]
  exact this

theorem SC.holds {W : World} {b n : Nat} {f : Nat → Sh} (h : SC W b n f) : HoldsK encSh 3 W b 0 ((List.range n).map f).toArray := by
  intro j hj
  have hj' : j < n * 3 := by simpa using hj
  obtain ⟨⟨c0, c1, c2⟩, f0, f1, f2⟩ := h.2 (j / 3) (by omega)
  rw [get_flatK _ _ _ _ (by simpa using hj'), getBang (x := f (j / 3)) (by rw [List.getElem?_map, List.getElem?_range (by omega)]; rfl), Nat.zero_add]
  rcases (by omega : j % 3 = 0 ∨ j % 3 = 1 ∨ j % 3 = 2) with e | e | e
  · have e2 : j / 3 * 3 = j := by omega
    rw [e2] at c0 f0
    rw [e]
    exact ⟨c0, f0⟩
  · have e2 : j / 3 * 3 + 1 = j := by omega
    rw [e2] at c1 f1
    rw [e]
    exact ⟨c1, f1⟩
  · have e2 : j / 3 * 3 + 2 = j := by omega
    rw [e2] at c2 f2
    rw [e]
    exact ⟨c2, f2⟩

theorem SC.set {W : World} {b n : Nat} {f : Nat → Sh} (h : SC W b n f) {k : Nat} (hk : k < n) (x : Sh) :
    SC (((W.setCell ⟨b, k * 3, none⟩ (.int .i64 x.1)).setCell ⟨b, k * 3 + 1, none⟩ (.int .i64 x.2.1)).setCell ⟨b, k * 3 + 2, none⟩ (.int .i64 x.2.2)) b n (fun i => if i = k then x else f i) := by
  refine ⟨by simpa using h.1, fun i hi => ?_⟩
  obtain ⟨⟨c0, c1, c2⟩, f0, f1, f2⟩ := h.2 i hi
  simp only [World.frozen?_setCell]
  refine ⟨?_, f0, f1, f2⟩
  by_cases e : i = k
  · subst e
    simp only [if_true]
    refine ⟨?_, ?_, ?_⟩
    · rw [World.cell?_setCell_other _ _ _ _ (by simp), World.cell?_setCell_other _ _ _ _ (by simp)]
      exact World.cell?_setCell_same _ _ _ c0
    · rw [World.cell?_setCell_other _ _ _ _ (by simp)]
      exact World.cell?_setCell_same _ _ _ (by rw [World.cell?_setCell_other _ _ _ _ (by simp)]; exact c1)
    · exact World.cell?_setCell_same _ _ _ (by rw [World.cell?_setCell_other _ _ _ _ (by simp), World.cell?_setCell_other _ _ _ _ (by simp)]; exact c2)
  · simp only [if_neg e]
    refine ⟨?_, ?_, ?_⟩
    · rw [World.cell?_setCell_other _ _ _ _ (by simp <;> omega), World.cell?_setCell_other _ _ _ _ (by simp <;> omega), World.cell?_setCell_other _ _ _ _ (by simp <;> omega)]; exact c0
    · rw [World.cell?_setCell_other _ _ _ _ (by simp <;> omega), World.cell?_setCell_other _ _ _ _ (by simp <;> omega), World.cell?_setCell_other _ _ _ _ (by simp <;> omega)]; exact c1
    · rw [World.cell?_setCell_other _ _ _ _ (by simp <;> omega), World.cell?_setCell_other _ _ _ _ (by simp <;> omega), World.cell?_setCell_other _ _ _ _ (by simp <;> omega)]; exact c2

theorem SC.made (w : World) (n : Nat) (t : TypeId) : SC (w.alloc (.cells (madeCells #[.int .i64 0, .int .i64 0, .int .i64 0] (n * 3)) t)) w.heap.size n (fun _ => (0, 0, 0)) := by
  have e1 := (MapKept.heap_alloc w (.cells (madeCells #[.int .i64 0, .int .i64 0, .int .i64 0] (n * 3)) t)).1
  refine ⟨by simp, fun i hi => ?_⟩
  have m0 : i * 3 % 3 = 0 := by omega
  have m1 : (i * 3 + 1) % 3 = 1 := by omega
  have m2 : (i * 3 + 2) % 3 = 2 := by omega
  have l0 : i * 3 < n * 3 := by omega
  have l1 : i * 3 + 1 < n * 3 := by omega
  have l2 : i * 3 + 2 < n * 3 := by omega
  simp only [World.cell?, World.frozen?]
  rw [e1]
  simp [madeCells, m0, m1, m2, l0, l1, l2]

theorem sc_step {W : World} {b n k : Nat} {P R : List Int} (h : SC W b n (fun i => if i = k then ((k : Int), P.getD k 0, R.getD k 0) else if i < k then ((i : Int), P.getD i 0, R.getD i 0) else (0, 0, 0))) : SC W b n (fun i => if i < k + 1 then ((i : Int), P.getD i 0, R.getD i 0) else (0, 0, 0)) := by
  have e : (fun (i : Nat) => if i = k then ((k : Int), P.getD k 0, R.getD k 0) else if i < k then ((i : Int), P.getD i 0, R.getD i 0) else (0, 0, 0)) = (fun (i : Nat) => if i < k + 1 then ((i : Int), P.getD i 0, R.getD i 0) else (0, 0, 0)) := by
    funext i
    by_cases e1 : i = k
    · subst e1; rw [if_pos rfl, if_pos (by omega)]
    · by_cases e2 : i < k
      · rw [if_neg e1, if_pos e2, if_pos (by omega)]
      · rw [if_neg e1, if_neg e2, if_neg (by omega)]
  rw [e] at h
  exact h
theorem sc_all {W : World} {b n : Nat} {P R : List Int} (h : SC W b n (fun i => if i < n then ((i : Int), P.getD i 0, R.getD i 0) else (0, 0, 0))) : HoldsK encSh 3 W b 0 (shL P R n).toArray := by
  have h1 := h.holds
  have e : (List.range n).map (fun (i : Nat) => if i < n then ((i : Int), P.getD i 0, R.getD i 0) else (0, 0, 0)) = shL P R n := by
    unfold shL
    apply List.map_congr_left
    intro i hi
    rw [if_pos (List.mem_range.1 hi)]
  rw [e] at h1
  exact h1

end Go.Proofs.YtnchgeiinkaefaaGreatDoor.Share
end

section
/-
  impl.shareTax: the rows at these places, all of one rate, get the tax of their sum.
-/
namespace Go.Proofs.YtnchgeiinkaefaaGreatDoor.Tax
set_option linter.unusedVariables false
open Go.RowKit
open Evs (E E0 ER EC hide unhide below_trans below_drewN' growB growT)
open BRow (R R0 RC ROwn)
open Ints (Cells)
open Coin (partV partB okB partI)
open Share (SC makeSh sc_step sc_all shL deal divD ptV rsV)

theorem cells_grown {W W' : World} {b : Nat} {l : List Int} {r : Option Nat} (h : Cells W b 0 l) (hg : W.grownBy W' r) (hb : some b ≠ r) : Cells W' b 0 l := h.kept hg hb
/-- the taxes behind the first k places -/
def taxP (rate old new : Nat → Int) (q : Int) (n k j : Nat) : Int := if ((plc rate q n).take k).contains j then new j else old j
theorem taxP_step {rate old new : Nat → Int} {q : Int} {n k : Nat} (hk : k < (plc rate q n).length) (j : Nat) : taxP rate old new q n (k + 1) j = if j = (plc rate q n).getD k 0 then new j else taxP rate old new q n k j := by
  unfold taxP
  have e : (plc rate q n).take (k + 1) = (plc rate q n).take k ++ [(plc rate q n).getD k 0] := by
    rw [List.take_add_one, List.getElem?_eq_getElem hk]; simp [List.getD, hk]
  rw [e]
  by_cases h : j = (plc rate q n).getD k 0
  · subst h; simp
  · have h2 : ((plc rate q n).take k ++ [(plc rate q n).getD k 0]).contains j = ((plc rate q n).take k).contains j := by
      rw [Bool.eq_iff_iff]; simp only [List.contains_iff_mem, List.mem_append, List.mem_singleton]
      constructor
      · rintro (h1 | h1)
        · exact h1
        · exact absurd h1 h
      · exact .inl
    rw [h2, if_neg h]
theorem taxP_all {net rate old : Nat → Int} {q S tax : Int} {n j : Nat} (hj : j < n) : taxP rate old (spreadF net rate old n q S tax) q n (plc rate q n).length j = spreadF net rate old n q S tax j := by
  unfold taxP
  rw [List.take_length]
  by_cases h : rate j = q
  · have : (plc rate q n).contains j = true := by simp [plc_mem, hj, h]
    rw [this]; rfl
  · have : (plc rate q n).contains j = false := by
      cases hc : (plc rate q n).contains j
      · rfl
      · simp [plc_mem, h] at hc
    rw [this]
    unfold spreadF grp
    rw [decide_eq_false h]; rfl

/-- the shares of a row in memory -/
abbrev HoldsK' (W : World) (b : Nat) (l : List Share.Sh) : Prop := Go.Sort.HoldsK Share.encSh 3 W b 0 l.toArray

set_option maxRecDepth 20000 in
set_option maxHeartbeats 2000000 in
theorem shareTax (b c g cp n : Nat) (l : List R) (rate : Nat → Int) (q : Int) (w : World) (hR : ROwn w b l) (hg : Cells w g 0 ((plc rate q n).map fun (j : Nat) => (j : Int))) (hbg : g ≠ b)
    (hn : l.length = n) (h6 : n ≤ 6) (hN : ∀ j, j < n → 0 ≤ netF l j ∧ netF l j ≤ 1000000000000000) (q0 : 0 ≤ q) (q1 : q ≤ 5000) (hO : ∀ j, j < n → rate j = q → oldF l j = 0) (hp : 0 < (plc rate q n).length) :
    Calls Tryz.prog 45 #[.slice (some ⟨b, 0, none⟩) n c, .slice (some ⟨g, 0, none⟩) (plc rate q n).length cp, .int .i64 q] w fun e w' => w.grownBy w' (some b) ∧
      ((partB (sumQ (netF l) rate n q) q 10000 = true ∧ e = .returned .nilIface ∧ ROwn w' b (rowsF l (spreadF (netF l) rate (oldF l) n q (sumQ (netF l) rate n q) (partV (sumQ (netF l) rate n q) q 10000)))) ∨ (partB (sumQ (netF l) rate n q) q 10000 = false ∧ e = .returned (.iface 84 (.int .i64 6)))) := by
  subst hn
  have hmk := makeSh (plc rate q l.length).length (by have := plc_len rate q l.length; omega)
  have HDL := hide (fun i hi => deal_plc (net := netF l) (rate := rate) (q := q) (n := l.length) (i := i) (fun j hj => (hN j hj).1) q0 hi (oldF l) hO)
  have HPT := hide (fun i (hi : i < (plc rate q l.length).length) => plc_lt hi)
  have HLEN := hide (plc_len rate q l.length)
  have HN := hide hN
  have HR := hide hR
  have HG := hide hg
  have hbw := hR.1.1
  have hgw := hg.1
  have hlen := plc_len rate q l.length
  clear hR hg hN hO
  obtain ⟨m, hm⟩ : ∃ m, (plc rate q l.length).length = m := ⟨_, rfl⟩
  rw [hm] at hmk hp hlen ⊢
  have HM := hide hm
  clear hm
  go_enter Tryz.func45, Tryz.ntmps45
  go_wp2
  have hS0 := SC.made w m 127
  have b0 : Below w.heap.size w (w.alloc (.cells (madeCells #[.int .i64 0, .int .i64 0, .int .i64 0] (m * 3)) 127)) := (Below.refl _ _).alloc (Nat.le_refl _) _
  have HS0 := hide hS0
  have HB0 := hide b0
  clear hS0 b0 hmk
  have HPJ : Hid (∀ k, k < m → ((plc rate q l.length).map (partJ (netF l) q)).getD k 0 = partJ (netF l) q ((plc rate q l.length).getD k 0) ∧ ((plc rate q l.length).map (restJ (netF l) q)).getD k 0 = restJ (netF l) q ((plc rate q l.length).getD k 0) ∧ ((plc rate q l.length).map (netF l)).getD k 0 = netF l ((plc rate q l.length).getD k 0) ∧ ((plc rate q l.length).map fun (j : Nat) => (j : Int)).getD k 0 = (((plc rate q l.length).getD k 0 : Nat) : Int)) := hide (fun k hk => by
    have hk' : k < (plc rate q l.length).length := by have := unhide HM; omega
    exact ⟨getD_map' _ _ 0 0 hk', getD_map' _ _ 0 0 hk', getD_map' _ _ 0 0 hk', getD_map' _ _ 0 0 hk'⟩)
  have HNB : Hid (∀ j, j < m → 0 ≤ ((plc rate q l.length).map (netF l)).getD j 0 ∧ ((plc rate q l.length).map (netF l)).getD j 0 ≤ 1000000000000000) := hide (fun j hj => by
    rw [(unhide HPJ j hj).2.2.1]
    exact unhide HN _ (unhide HPT j (by have := unhide HM; omega)).1)
  go_loopw [7, 23] (fun sv iv wr => ∃ k : Nat, k ≤ m ∧ iv = .int .i64 k ∧ sv = .int .i64 (((plc rate q l.length).map (netF l)).take k).sum ∧ Hid (SC wr w.heap.size m (fun i => if i < k then ((i : Int), ((plc rate q l.length).map (partJ (netF l) q)).getD i 0, ((plc rate q l.length).map (restJ (netF l) q)).getD i 0) else (0, 0, 0))) ∧ Hid (Below w.heap.size w wr)) (fun _ iv _ => m - (intOf iv).toNat)
  case atStart => exact ⟨0, Nat.zero_le _, rfl, by simp, HS0, HB0⟩
  case round =>
    obtain ⟨k, hk, rfl, rfl, D1, D3⟩ := hrel
    clear HS0 HB0
    have hsb := Share.sum_bd' ((plc rate q l.length).map (netF l)) 1000000000000000 k (fun j hj => unhide HNB j (by omega)) (by have := unhide HM; simp; omega)
    have hRr := (unhide HR).kept (unhide D3)
    have hGr := cells_below (unhide HG) (unhide D3)
    by_cases hlt : k < m
    · obtain ⟨e1, e2, e3, e4⟩ := unhide HPJ k hlt
      obtain ⟨hjn, hjq⟩ := unhide HPT k (by have := unhide HM; omega)
      have g1 := (hGr.2 k (by have := unhide HM; simp; omega)).1
      rw [Nat.zero_add, e4] at g1
      obtain ⟨n0, n1⟩ := unhide HN _ hjn
      obtain ⟨_, r1, _⟩ := hRr.1.2 _ hjn
      rw [Nat.zero_add] at r1
      have r1' : wr.cell? ⟨b, (plc rate q l.length).getD k 0 * 3 + 1, none⟩ = some (.int .i64 (netF l ((plc rate q l.length).getD k 0))) := r1
      clear r1
      have k1 : (0 : Int) ≤ (k : Int) := by omega
      have k2 : (k : Int) < (m : Int) := by omega
      have HSS := hide (Share.sum_take ((plc rate q l.length).map (netF l)) k (by have := unhide HM; simp; omega))
      rw [e3] at HSS
      obtain ⟨⟨s0, s1, s2⟩, f0, f1, f2⟩ := (unhide D1).2 k hlt
      have HST : Hid (∀ W : World, SC W w.heap.size m (fun i => if i < k then ((i : Int), ((plc rate q l.length).map (partJ (netF l) q)).getD i 0, ((plc rate q l.length).map (restJ (netF l) q)).getD i 0) else (0, 0, 0)) → SC (((W.setCell ⟨w.heap.size, k * 3, none⟩ (.int .i64 k)).setCell ⟨w.heap.size, k * 3 + 1, none⟩ (.int .i64 (partJ (netF l) q ((plc rate q l.length).getD k 0)))).setCell ⟨w.heap.size, k * 3 + 2, none⟩ (.int .i64 (restJ (netF l) q ((plc rate q l.length).getD k 0)))) w.heap.size m (fun i => if i < k + 1 then ((i : Int), ((plc rate q l.length).map (partJ (netF l) q)).getD i 0, ((plc rate q l.length).map (restJ (netF l) q)).getD i 0) else (0, 0, 0))) := hide (fun W hW => by
        have := hW.set hlt ((k : Int), partJ (netF l) q ((plc rate q l.length).getD k 0), restJ (netF l) q ((plc rate q l.length).getD k 0))
        rw [← e1, ← e2] at this ⊢
        exact sc_step this)
      have HPV : Hid (ptV (netF l ((plc rate q l.length).getD k 0)) 10000 q = partJ (netF l) q ((plc rate q l.length).getD k 0)) := hide rfl
      have HRV : Hid (rsV (netF l ((plc rate q l.length).getD k 0)) 10000 q = restJ (netF l) q ((plc rate q l.length).getD k 0)) := hide rfl
      have HD : Hid (∀ W, Calls Tryz.prog 68 #[.int .i64 (netF l ((plc rate q l.length).getD k 0)), .int .i64 q, .int .i64 10000, .func (.func 69) #[] #[]] W fun e w' => e = .returned (.tuple #[.int .i64 (partJ (netF l) q ((plc rate q l.length).getD k 0)), .int .i64 (restJ (netF l) q ((plc rate q l.length).getD k 0)), .bool true]) ∧ ∃ k, w' = W.drewN k) := hide (fun W => divD _ q 10000 W n0 n1 q0 (by omega) (by omega) (by omega) (by omega))
      have hpb := partJ_bd n0 n1 q0 q1
      have hjl : (((plc rate q l.length).getD k 0 : Nat) : Int) < (l.length : Int) := by omega
      have hj0 : (0 : Int) ≤ (((plc rate q l.length).getD k 0 : Nat) : Int) := by omega
      clear e1 e2 e3 e4 hGr hRr hpb HPV HRV
      generalize (plc rate q l.length).getD k 0 = j at *
      generalize partJ (netF l) q j = pj at *
      generalize restJ (netF l) q j = rj at *
      generalize netF l j = x at *
      generalize ((((plc rate q l.length).map (netF l))).take k).sum = sg at *
      simp only at s0 s1 s2
      go_wp2_with (fail)
      refine (unhide HD _).mono ?_
      rintro e w4 ⟨rfl, nk, rfl⟩
      go_wp2
      have hd := (unhide D1).kept (growB (below_drewN' (Below.refl _ _) nk) none) (by simp)
      exact ⟨⟨k + 1, by omega, by go_num, by rw [unhide HSS], hide (unhide HST _ hd), hide ((((below_drewN' (unhide D3) nk).setCell (p := ⟨w.heap.size, k * 3, none⟩) (Nat.le_refl _) _).setCell (p := ⟨w.heap.size, k * 3 + 1, none⟩) (Nat.le_refl _) _).setCell (p := ⟨w.heap.size, k * 3 + 2, none⟩) (Nat.le_refl _) _)⟩, by simp [intOf]; omega⟩
    · obtain rfl : k = m := by omega
      have HPLl : Hid (((plc rate q l.length).map (netF l)).length = k) := hide (by simpa using unhide HM)
      have HSQ : Hid ((((plc rate q l.length).map (netF l)).take k).sum = sumQ (netF l) rate l.length q) := hide (by
        rw [← unhide HPLl, List.take_length, sum_plc]; rfl)
      rw [unhide HSQ] at hsb ⊢
      have HD1 : Hid (HoldsK' wr w.heap.size (shL ((plc rate q l.length).map (partJ (netF l) q)) ((plc rate q l.length).map (restJ (netF l) q)) k)) := hide (sc_all (unhide D1))
      have hpv := partV_nonneg (a := sumQ (netF l) rate l.length q) hsb.1 q0
      have hpv2 := (Coin.part_bd (sumQ (netF l) rate l.length q) q 10000).2
      have hzr := (unhide D3).size
      have hDw := (unhide D1).1
      clear D1 hRr hGr HPLl HSQ hlt
      have HSAME : Hid (sumQ (netF l) rate l.length q = sumQ (netF l) rate l.length q) := hide rfl
      go_wp2_with (fail)
      refine (partI (sumQ (netF l) rate l.length q) q 10000 _).mono ?_
      rintro e w4 ⟨rfl, nk, hw4⟩
      have H4 := hide (hw4 ▸ below_drewN' (unhide D3) nk)
      have HH4 : Hid (HoldsK' w4 w.heap.size (shL ((plc rate q l.length).map (partJ (netF l) q)) ((plc rate q l.length).map (restJ (netF l) q)) k)) := hide (by
        rw [hw4]
        exact Share.kept_holds (unhide HD1) hDw (growB (below_drewN' (Below.refl _ _) nk) none) (by simp))
      have hD4 : w.heap.size < w4.heap.size := by rw [hw4]; simpa using hDw
      clear hw4 HD1 D3 hzr hDw
      have HMK := unhide HM
      have HPB : Hid (∀ j, j < k → 0 ≤ ((plc rate q l.length).map (partJ (netF l) q)).getD j 0 ∧ ((plc rate q l.length).map (partJ (netF l) q)).getD j 0 ≤ 1000000000000000) := hide (fun j hj => by
        rw [(unhide HPJ j hj).1]
        obtain ⟨n0, n1⟩ := unhide HN _ (unhide HPT j (by omega)).1
        have := (partJ_bd n0 n1 q0 q1).2.2.2.2.2.1
        omega)
      have hps := Share.sum_bd' ((plc rate q l.length).map (partJ (netF l) q)) 1000000000000000 k (unhide HPB) (by simp; omega)
      have hpl : ((plc rate q l.length).map (partJ (netF l) q)).length = k := by simpa using HMK
      rw [← hpl, List.take_length, hpl] at hps
      cases htb : partB (sumQ (netF l) rate l.length q) q 10000 with
      | false =>
        have HG4 := hide (growB (unhide H4) (some b))
        have HTB := hide htb
        clear htb
        go_wp2_with (fail)
        go_ret
        exact ⟨unhide HG4, .inr ⟨unhide HTB, rfl⟩⟩
      | true =>
        have HTB := hide htb
        clear htb
        have HDLk : Hid (∀ i, i < k → (fun (i : Nat) => ((plc rate q l.length).map (partJ (netF l) q)).getD i 0 + if (Share.cnt ((plc rate q l.length).map (restJ (netF l) q)) i k : Int) < partV (sumQ (netF l) rate l.length q) q 10000 - ((plc rate q l.length).map (partJ (netF l) q)).sum then 1 else 0) i = spreadF (netF l) rate (oldF l) l.length q (sumQ (netF l) rate l.length q) (partV (sumQ (netF l) rate l.length q) q 10000) ((plc rate q l.length).getD i 0)) := hide (fun i hi => by
          have := unhide HDL i (by omega)
          rwa [HMK] at this)
        obtain ⟨F, hF⟩ : ∃ F : Nat → Int, F = fun (i : Nat) => ((plc rate q l.length).map (partJ (netF l) q)).getD i 0 + if (Share.cnt ((plc rate q l.length).map (restJ (netF l) q)) i k : Int) < partV (sumQ (netF l) rate l.length q) q 10000 - ((plc rate q l.length).map (partJ (netF l) q)).sum then 1 else 0 := ⟨_, rfl⟩
        rw [← hF] at HDLk
        have HFF := hide hF
        clear hF HDL
        go_wp2_with (fail)
        refine (deal w.heap.size k k ((plc rate q l.length).map (partJ (netF l) q)) ((plc rate q l.length).map (restJ (netF l) q)) (partV (sumQ (netF l) rate l.length q) q 10000) (partV (sumQ (netF l) rate l.length q) q 10000 - ((plc rate q l.length).map (partJ (netF l) q)).sum) w4 (unhide HH4) hD4 (by omega) hp hpv hpv2 hpl rfl (by omega) (unhide HPB) F (fun i => by rw [unhide HFF])).mono ?_
        rintro e w6 ⟨g2, rfl, hC6, hg26, hgr6⟩
        have H6 : Hid (Below w.heap.size w w6) := hide ((unhide H4).grown hgr6 (unhide H4).size (fun j hj => by cases hj; exact Nat.le_refl _))
        have HC6 := hide hC6
        have hz4 := (unhide H4).size
        have hgb2 : g2 ≠ b := by omega
        have hg6w := hC6.1
        have HR6 := hide ((unhide HR).kept (unhide H6))
        have HG6 := hide (cells_below (unhide HG) (unhide H6))
        clear hC6 hgr6 HH4 H4
        go_wp2_with (fail)
        go_loopw [67] (fun iv wr => ∃ i : Nat, i ≤ k ∧ iv = .int .i64 i ∧ Hid (ROwn wr b (rowsF l (taxP rate (oldF l) (spreadF (netF l) rate (oldF l) l.length q (sumQ (netF l) rate l.length q) (partV (sumQ (netF l) rate l.length q) q 10000)) q l.length i))) ∧ Hid (w6.grownBy wr (some b))) (fun iv _ => k - (intOf iv).toNat)
        case atStart =>
          refine ⟨0, Nat.zero_le _, rfl, ?_, hide (World.grownBy.refl _ _)⟩
          have e : rowsF l (taxP rate (oldF l) (spreadF (netF l) rate (oldF l) l.length q (sumQ (netF l) rate l.length q) (partV (sumQ (netF l) rate l.length q) q 10000)) q l.length 0) = l := by
            rw [show taxP rate (oldF l) (spreadF (netF l) rate (oldF l) l.length q (sumQ (netF l) rate l.length q) (partV (sumQ (netF l) rate l.length q) q 10000)) q l.length 0 = oldF l from funext fun j => by simp [taxP]]
            exact rowsF_old l
          rw [e]; exact HR6
        case round =>
          obtain ⟨i, hi, rfl, D1, D2⟩ := hrel
          by_cases hil : i < k
          · have hc6 := ((cells_grown (unhide HC6) (unhide D2) (by simpa using hgb2)).2 i (by simpa using hil)).1
            have hg6 := ((cells_grown (unhide HG6) (unhide D2) (by simpa using hbg)).2 i (by simp; omega)).1
            rw [Nat.zero_add, (unhide HPJ i hil).2.2.2] at hg6
            rw [Nat.zero_add, show ((List.range k).map F).getD i 0 = F i by simp [List.getD, hil]] at hc6
            rw [unhide HDLk i hil] at hc6
            obtain ⟨hjn, _⟩ := unhide HPT i (by omega)
            have hjl : (plc rate q l.length).getD i 0 < (rowsF l (taxP rate (oldF l) (spreadF (netF l) rate (oldF l) l.length q (sumQ (netF l) rate l.length q) (partV (sumQ (netF l) rate l.length q) q 10000)) q l.length i)).length := by rw [rowsF_len]; exact hjn
            obtain ⟨_, _, r2⟩ := (unhide D1).1.2 _ hjl
            have f2 := (unhide D1).2 ((plc rate q l.length).getD i 0 * 3 + 2)
            rw [rowsF_get _ _ hjn, Nat.zero_add] at r2
            simp only at r2
            have E1 : Hid (∀ W, ROwn W b (rowsF l (taxP rate (oldF l) (spreadF (netF l) rate (oldF l) l.length q (sumQ (netF l) rate l.length q) (partV (sumQ (netF l) rate l.length q) q 10000)) q l.length i)) → ROwn (W.setCell ⟨b, (plc rate q l.length).getD i 0 * 3 + 2, none⟩ (.int .i64 (spreadF (netF l) rate (oldF l) l.length q (sumQ (netF l) rate l.length q) (partV (sumQ (netF l) rate l.length q) q 10000) ((plc rate q l.length).getD i 0)))) b (rowsF l (taxP rate (oldF l) (spreadF (netF l) rate (oldF l) l.length q (sumQ (netF l) rate l.length q) (partV (sumQ (netF l) rate l.length q) q 10000)) q l.length (i + 1)))) := hide (fun W hW => by
              have := rown_tax hW hjl (spreadF (netF l) rate (oldF l) l.length q (sumQ (netF l) rate l.length q) (partV (sumQ (netF l) rate l.length q) q 10000) ((plc rate q l.length).getD i 0))
              rw [rowsF_set l _ hjn] at this
              have e : (fun j => if j = (plc rate q l.length).getD i 0 then spreadF (netF l) rate (oldF l) l.length q (sumQ (netF l) rate l.length q) (partV (sumQ (netF l) rate l.length q) q 10000) ((plc rate q l.length).getD i 0) else taxP rate (oldF l) (spreadF (netF l) rate (oldF l) l.length q (sumQ (netF l) rate l.length q) (partV (sumQ (netF l) rate l.length q) q 10000)) q l.length i j) = taxP rate (oldF l) (spreadF (netF l) rate (oldF l) l.length q (sumQ (netF l) rate l.length q) (partV (sumQ (netF l) rate l.length q) q 10000)) q l.length (i + 1) := funext fun j => by
                rw [taxP_step (by omega)]
                by_cases h : j = (plc rate q l.length).getD i 0
                · rw [if_pos h, if_pos h, h]
                · rw [if_neg h, if_neg h]
              rwa [e] at this)
            have i1 : (0 : Int) ≤ (i : Int) := by omega
            have i2 : (i : Int) < (k : Int) := by omega
            have j1 : (0 : Int) ≤ (((plc rate q l.length).getD i 0 : Nat) : Int) := by omega
            have j2 : (((plc rate q l.length).getD i 0 : Nat) : Int) < (l.length : Int) := by omega
            generalize spreadF (netF l) rate (oldF l) l.length q (sumQ (netF l) rate l.length q) (partV (sumQ (netF l) rate l.length q) q 10000) ((plc rate q l.length).getD i 0) = sv at *
            generalize taxP rate (oldF l) (spreadF (netF l) rate (oldF l) l.length q (sumQ (netF l) rate l.length q) (partV (sumQ (netF l) rate l.length q) q 10000)) q l.length i ((plc rate q l.length).getD i 0) = ov at *
            generalize (plc rate q l.length).getD i 0 = j at *
            clear hjl HDLk HFF
            go_wp2
            exact ⟨⟨i + 1, by omega, by go_num, hide (unhide E1 _ (unhide D1)), hide (growT (unhide D2) (Evs.growS wr b _ _))⟩, by simp [intOf]; omega⟩
          · obtain rfl : i = k := by omega
            have HFIN : Hid (ROwn wr b (rowsF l (spreadF (netF l) rate (oldF l) l.length q (sumQ (netF l) rate l.length q) (partV (sumQ (netF l) rate l.length q) q 10000)))) := hide (by
              have := unhide D1
              rw [← HMK] at this
              rwa [rowsF_congr l (fun j hj => taxP_all (net := netF l) (S := sumQ (netF l) rate l.length q) hj)] at this)
            have HGG := hide (growT (growB (unhide H6) (some b)) (unhide D2))
            clear D1 D2
            go_wp2
            go_ret
            exact ⟨unhide HGG, .inl ⟨unhide HTB, rfl, unhide HFIN⟩⟩
end Go.Proofs.YtnchgeiinkaefaaGreatDoor.Tax
end

section
/-
  impl.rateRows: what its second loop keeps, and one rate.
-/
namespace Go.Proofs.YtnchgeiinkaefaaGreatDoor.Bill
set_option linter.unusedVariables false
open Go.RowKit Evs Go.Shelf
open Tax
open BRow (R R0 RC RR ROwn RN)
open Coin (partV partB)
open Ints (Cells)
open Uses (U)

/-- the rows, the taxes of the first i lines' rates told -/
noncomputable def rowsT (us : List U) (t : List E) (i : Nat) : List R := rowsF (rowsN us t t.length) (taxI (netJ us t) (rateF t) t.length i)
theorem rowsT_len (us : List U) (t : List E) (i : Nat) : (rowsT us t i).length = t.length := by unfold rowsT; rw [rowsF_len, rowsN_len]
theorem rowsT_same {us : List U} {t : List E} {i j : Nat} (h : (fsU (rateF t) i).length = (fsU (rateF t) j).length) : rowsT us t i = rowsT us t j := rowsF_congr _ fun m _ => taxI_len h m
theorem rowsT_zero (us : List U) (t : List E) : rowsT us t 0 = rowsN us t t.length := by
  unfold rowsT
  refine (rowsF_congr _ fun j hj => ?_).trans (rowsF_old _)
  rw [oldF_rowsN us t (by rw [rowsN_len] at hj; exact hj)]
  rfl
theorem rowsT_end (us : List U) (t : List E) : rowsT us t t.length = rated us t := by
  unfold rowsT rated
  exact rowsF_congr _ fun j hj => taxI_end _ _ (by rw [rowsN_len] at hj; exact hj)

/-- between two rounds of the second loop -/
def LJ (w : World) (S D Z : Nat) (us : List U) (t : List E) (k : Nat) (W : World) : Prop :=
  ((W.cell? ⟨w.heap.size, 0, none⟩ = some (.slice none 0 0) ∧ W.frozen? ⟨w.heap.size, 0, none⟩ = false) ∧ (W.cell? ⟨w.heap.size + 1, 0, none⟩ = some .nilIface ∧ W.frozen? ⟨w.heap.size + 1, 0, none⟩ = false) ∧
    W.cell? ⟨S + 1, 0, none⟩ = some (.slice (some ⟨S, 0, none⟩) t.length t.length) ∧ (0 < t.length → ∀ i, i ≤ t.length → (fsU (rateF t) i).length = k → ROwn W S (rowsT us t i)) ∧ Z ≤ W.heap.size ∧ W.heap[D]? = some (.deferred (some [])) ∧ (∀ m ∈ (fsU (rateF t) t.length).take k, toldB (netJ us t) (rateF t) t.length m = true)) ∧ Below w.heap.size w W
/-- when it stopped -/
def LY (w : World) (D : Nat) (us : List U) (t : List E) (k : Nat) (W : World) : Prop :=
  ((∃ m, m < t.length ∧ toldB (netJ us t) (rateF t) t.length m = false) ∧ W.cell? ⟨w.heap.size, 0, none⟩ = some (.slice none 0 0) ∧ W.cell? ⟨w.heap.size + 1, 0, none⟩ = some (.iface 84 (.int .i64 6)) ∧ W.heap[D]? = some (.deferred (some []))) ∧ Below w.heap.size w W

theorem heap_kept {W W' : World} {D B : Nat} {o : Obj} {row : Option Nat} (h : W.heap[D]? = some o) (hg : W.grownBy W' row) (hr : ∀ r, row = some r → B ≤ r) (hD : D < B) : W'.heap[D]? = some o := by
  have hs : D < W.heap.size := by
    refine Nat.lt_of_not_le fun hle => ?_
    rw [Array.getElem?_eq_none hle] at h; simp at h
  rw [hg.block D hs (fun e => by have := hr D e.symm; omega)]
  exact h
theorem LJ_own (w : World) (S D Z B : Nat) (us : List U) (t : List E) (hB : w.heap.size ≤ B) (hD : D < B) : OwnFrom B (LJ w S D Z us t) :=
  OwnFrom.and (fun k A C row hs hg hr => ⟨⟨cell_kept hs.1.1 hg (fun r e => (hr r e).2), (frozen_kept hs.1.1 hg (fun r e => (hr r e).2)).trans hs.1.2⟩, ⟨cell_kept hs.2.1.1 hg (fun r e => (hr r e).2), (frozen_kept hs.2.1.1 hg (fun r e => (hr r e).2)).trans hs.2.1.2⟩, cell_kept hs.2.2.1 hg (fun r e => (hr r e).2), fun h0 i hi he => rown_keptR (hs.2.2.2.1 h0 i hi he) (by rw [rowsT_len]; exact h0) hg (fun r e => (hr r e).2), Nat.le_trans hs.2.2.2.2.1 hg.size, heap_kept hs.2.2.2.2.2.1 hg (fun r e => (hr r e).1) hD, hs.2.2.2.2.2.2⟩) (ownFrom_below (Nat.le_refl _) hB)
theorem LY_own (w : World) (D B : Nat) (us : List U) (t : List E) (hB : w.heap.size ≤ B) (hD : D < B) : OwnFrom B (LY w D us t) :=
  OwnFrom.and (fun k A C row hs hg hr => ⟨hs.1, cell_kept hs.2.1 hg (fun r e => (hr r e).2), cell_kept hs.2.2.1 hg (fun r e => (hr r e).2), heap_kept hs.2.2.2 hg (fun r e => (hr r e).1) hD⟩) (ownFrom_below (Nat.le_refl _) hB)
theorem PrP_own (rate : Nat → Int) (n B2 B : Nat) (args : Array Value) : OwnFrom B (fun k W => PrP rate n B2 k args W) := by
  rintro k A C row ⟨i, g, cap, hi, hF, hk, ha, hc, hb⟩ hg hr
  refine ⟨i, g, cap, hi, hF, hk, ha, ?_, hb⟩
  have hp : 0 < (plc rate (rate i) n).length := List.length_pos_of_mem (plc_mem.2 ⟨hi, rfl⟩)
  refine hc.kept hg ?_
  intro e
  obtain ⟨_, o, ho, hoc⟩ := hr g e.symm
  obtain ⟨o2, ho2, hoc2⟩ := cells_of_cell (hc.2 0 (by simpa using hp)).1
  rw [ho] at ho2
  simp only [Option.some.injEq] at ho2
  subst ho2
  rw [hoc] at hoc2
  simp at hoc2

/-- one rate: what impl.shareTax does to the rows -/
theorem share_LJ {w W : World} {S D Z : Nat} {us : List U} {t : List E} {k i g cap : Nat} (h6 : t.length ≤ 6) (hq : ∀ j, j < t.length → 0 ≤ rateF t j ∧ rateF t j ≤ 5000) (h : LJ w S D Z us t k W) (hi : i < t.length) (hF : isF (rateF t) i = true) (hk : k = (fsU (rateF t) i).length) (hc : Cells W g 0 ((plc (rateF t) (rateF t i) t.length).map fun (j : Nat) => (j : Int))) (hg : S + 2 ≤ g) :
    Calls Tryz.prog 45 #[.slice (some ⟨S, 0, none⟩) t.length t.length, .slice (some ⟨g, 0, none⟩) (plc (rateF t) (rateF t i) t.length).length cap, .int .i64 (rateF t i)] W fun e W' => W.grownBy W' (some S) ∧
      ((toldB (netJ us t) (rateF t) t.length i = true ∧ e = .returned .nilIface ∧ ROwn W' S (rowsT us t (i + 1))) ∨ (toldB (netJ us t) (rateF t) t.length i = false ∧ e = .returned (.iface 84 (.int .i64 6)))) := by
  have hR := h.1.2.2.2.1 (by omega) i (by omega) hk.symm
  have eN : netF (rowsT us t i) = netJ us t := by unfold rowsT; rw [netF_rows, netF_rowsN]
  have hst := taxed_step (l := rowsN us t t.length) (rate := rateF t) (n := t.length) (i := i) (rowsN_len us t _) hF
  rw [netF_rowsN] at hst
  have := shareTax S t.length g cap t.length (rowsT us t i) (rateF t) (rateF t i) W hR hc (by omega) (rowsT_len us t i) h6 (fun j _ => by rw [eN]; exact netJ_bd us t j) (hq i hi).1 (hq i hi).2
    (fun j hj he => by
      unfold rowsT
      rw [oldF_rows _ _ (by rw [rowsN_len]; exact hj)]
      unfold taxI
      rw [if_neg]
      intro hs
      obtain ⟨m, hm, h2⟩ := seen_iff.1 hs
      exact isF_yes hF m hm (h2.trans he)) (List.length_pos_of_mem (plc_mem.2 ⟨hi, rfl⟩))
  refine this.mono ?_
  rintro e W' ⟨hgr, h1⟩
  refine ⟨hgr, ?_⟩
  rcases h1 with ⟨h1, h2, h3⟩ | ⟨h1, h2⟩
  · refine .inl ⟨?_, h2, ?_⟩
    · rw [eN] at h1; exact h1
    · have e2 : rowsT us t (i + 1) = _ := hst.symm
      rw [e2]
      exact h3
  · refine .inr ⟨?_, h2⟩
    rw [eN] at h1; exact h1

/-- a rate more -/
theorem LJ_step {w W W' : World} {S D Z : Nat} {us : List U} {t : List E} {k i : Nat} (hS : w.heap.size + 2 ≤ S) (hD : S + 2 ≤ D) (h : LJ w S D Z us t k W) (hi : i < t.length) (hF : isF (rateF t) i = true) (hk : k = (fsU (rateF t) i).length) (hg : W.grownBy W' (some S)) (hR : ROwn W' S (rowsT us t (i + 1))) (ht : toldB (netJ us t) (rateF t) t.length i = true) : LJ w S D Z us t (k + 1) W' := by
  obtain ⟨⟨⟨h4, f4⟩, ⟨h5, f5⟩, h6, h7, h8, h9, h10⟩, hB⟩ := h
  have hlt : ∀ (j : Nat) (v : Value), W.cell? ⟨j, 0, none⟩ = some v → j < W.heap.size := fun j v hc => by
    obtain ⟨o, ho, _⟩ := cells_of_cell hc
    refine Nat.lt_of_not_le fun hle => ?_
    rw [Array.getElem?_eq_none hle] at ho; simp at ho
  have hnx : (fsU (rateF t) (i + 1)).length = k + 1 := by rw [fsU_next hF, hk]
  refine ⟨⟨⟨hg.cell h4 (by simp; omega), ?_⟩, ⟨hg.cell h5 (by simp; omega), ?_⟩, hg.cell h6 (by simp), fun _ j hj he => ?_, Nat.le_trans h8 hg.size, ?_, ?_⟩, ?_⟩
  · rw [World.frozen?_of_block (hg.block _ (hlt _ _ h4) (by simp; omega))]; exact f4
  · rw [World.frozen?_of_block (hg.block _ (hlt _ _ h5) (by simp; omega))]; exact f5
  · rw [rowsT_same (he.trans hnx.symm)]; exact hR
  · have hs : D < W.heap.size := by
      refine Nat.lt_of_not_le fun hle => ?_
      rw [Array.getElem?_eq_none hle] at h9; simp at h9
    rw [hg.block D hs (by simp; omega)]; exact h9
  · intro m hm
    have hat := fsU_at hi hF
    rw [← hk] at hat
    rw [List.take_add_one, hat] at hm
    rcases List.mem_append.1 hm with hm | hm
    · exact h10 m hm
    · have : m = i := by simpa using hm
      rw [this]; exact ht
  · exact hB.grown hg hB.size (fun j e => by simp only [Option.some.injEq] at e; omega)

/-- all rates are told -/
theorem LJ_told {us : List U} {t : List E} (h : ∀ m ∈ fsU (rateF t) t.length, toldB (netJ us t) (rateF t) t.length m = true) : allTold (netJ us t) (rateF t) t.length = true :=
  allTold_yes fun j hj => by
    obtain ⟨m, hm, he⟩ := fsU_mem (rate := rateF t) hj
    have := h m hm
    unfold toldB at this ⊢
    rw [← he]; exact this
end Go.Proofs.YtnchgeiinkaefaaGreatDoor.Bill
end

section
/-
  Tariffs that are right: impl.rightInOrder at lines, impl.tariffRight.
-/
namespace Go.Proofs.YtnchgeiinkaefaaGreatDoor.Bill
set_option linter.unusedVariables false
open Go.RowKit RegIn Evs
open Rule (EnvR)

theorem calledL (s m : ByteArray) (q : Int) (W : World) : Calls Tryz.prog 59 #[.agg #[.string s, .string m, .int .i64 q]] W fun x w' => x = .returned (.string s) ∧ Below W.heap.size W w' := by
  go_enter Tryz.func59, Tryz.ntmps59
  go_wp2
  go_ret
  exact ⟨rfl, (Below.refl _ _).alloc (Nat.le_refl _) _⟩

set_option maxHeartbeats 2000000 in
/-- impl.rightInOrder at lines -/
theorem ordL (v : Value) (l : List E) (w : World) (h : ER w v l) (hl : l.length ≤ 1048576) (hs : ∀ u ∈ l, u.1.size ≤ maxLen ∧ u.2.1.size ≤ maxLen) (he : EnvR w) :
    Calls Tryz.prog 57 #[v, .int .i64 6, .func (.func 58) #[] #[], .func (.func 59) #[] #[]] w fun e w' => e = .returned (.bool (okL l)) ∧ Below w.heap.size w w' := by
  by_cases h6 : 6 < l.length
  · rw [okL_long h6]
    obtain ⟨a, c, rfl⟩ := h.slice
    have y : (6 : Int) < l.length := by omega
    clear h
    go_enter Tryz.func57, Tryz.ntmps57
    go_wp2
    go_ret
    exact ⟨rfl, Below.refl _ _⟩
  have y : (l.length : Int) ≤ 6 := by omega
  rcases h with ⟨rfl, a, c, rfl⟩ | ⟨b, o, cap, rfl, hc⟩
  · go_enter Tryz.func57, Tryz.ntmps57
    go_wp2
    refine wp_loop_rounds 1 ?_
    rw [rounds_succ]
    go_wp2
    go_ret
    exact ⟨rfl, Below.refl _ _⟩
  · have HC := hide hc
    have hbs := hc.1
    clear hc
    generalize hr : okL l = r
    have HR := hide hr; clear hr
    go_enter Tryz.func57, Tryz.ntmps57
    go_wp2
    go_loopw [17] (fun i wr => ∃ k : Nat, k ≤ l.length ∧ i = .int .i64 k ∧ Hid (∀ j, j < k → badL l j = false) ∧ Hid (Below w.heap.size w wr)) (fun i _ => l.length - (intOf i).toNat)
    case atStart => exact ⟨0, Nat.zero_le _, rfl, hide (fun j hj => by omega), hide (Below.refl _ _)⟩
    case round =>
      obtain ⟨k, hk, rfl, hd, hb⟩ := hrel
      by_cases hlt : k < l.length
      · obtain ⟨c0, c1, c2⟩ := ((unhide HC).kept (unhide hb)).2 k hlt
        obtain ⟨hsz, hmz⟩ : (l.getD k E0).1.size ≤ maxLen ∧ (l.getD k E0).2.1.size ≤ maxLen := hs _ (by simp [List.getD, hlt])
        have i1 : (0 : Int) ≤ (k : Int) := by omega
        have i2 : (k : Int) < (l.length : Int) := by omega
        have z1 : b < wr.heap.size := Nat.lt_of_lt_of_le hbs (unhide hb).size
        have HBA : Hid (badL l k = (!lineB (l.getD k E0) || (decide (0 < k) && !ltS (l.getD (k - 1) E0).1 (l.getD k E0).1))) := hide rfl
        have k1 : k - 1 < l.length := by omega
        obtain ⟨p0, p1, p2⟩ := ((unhide HC).kept (unhide hb)).2 (k - 1) k1
        generalize hx : l.getD k E0 = x at *
        generalize hp : l.getD (k - 1) E0 = y' at *
        clear hx hp
        obtain ⟨s, m, q⟩ := x
        obtain ⟨t, m', q'⟩ := y'
        simp only at c0 c1 c2 p0 p1 p2 hsz hmz HBA
        have HCA : Hid (∀ W : World, Below w.heap.size w W → Calls Tryz.prog 58 #[.agg #[.string s, .string m, .int .i64 q]] W fun x w' => x = .returned (.bool (lineB (s, m, q))) ∧ Below W.heap.size W w') := hide (fun W hW => lineI s m q W hsz hmz (he.kept hW))
        generalize hR : lineB (s, m, q) = rt at *
        clear hR
        generalize hS : SW w wr.heap.size b (o + (k - 1) * 3) s m q t m' q' = S
        have HSI : Hid (∀ w2 : World, SW w wr.heap.size b (o + (k - 1) * 3) s m q t m' q' w2 → S w2) := hide (fun w2 h => by rw [← hS]; exact h)
        have HSE : Hid (∀ w2 : World, S w2 → SW w wr.heap.size b (o + (k - 1) * 3) s m q t m' q' w2) := hide (fun w2 h => by rw [← hS] at h; exact h)
        clear hS
        have g0 : ∀ g : In S, g.x.cell? ⟨wr.heap.size, 0, none⟩ = some (.string s) := fun g => (unhide HSE _ g.h).1
        have g1 : ∀ g : In S, g.x.cell? ⟨wr.heap.size, 1, none⟩ = some (.string m) := fun g => (unhide HSE _ g.h).2.1
        have g2 : ∀ g : In S, g.x.cell? ⟨wr.heap.size, 2, none⟩ = some (.int .i64 q) := fun g => (unhide HSE _ g.h).2.2.1
        have g3 : ∀ g : In S, g.x.cell? ⟨b, o + (k - 1) * 3, none⟩ = some (.string t) := fun g => (unhide HSE _ g.h).2.2.2.1
        have g4 : ∀ g : In S, g.x.cell? ⟨b, o + (k - 1) * 3 + 1, none⟩ = some (.string m') := fun g => (unhide HSE _ g.h).2.2.2.2.1
        have g5 : ∀ g : In S, g.x.cell? ⟨b, o + (k - 1) * 3 + 2, none⟩ = some (.int .i64 q') := fun g => (unhide HSE _ g.h).2.2.2.2.2.1
        have HCB : Hid (∀ g : In S, Calls Tryz.prog 58 #[.agg #[.string s, .string m, .int .i64 q]] g.x fun x w' => x = .returned (.bool rt) ∧ S w') := hide (fun g => (unhide HCA g.x (unhide HSE _ g.h).2.2.2.2.2.2.2.2).mono (fun x w' ⟨hx, hb⟩ => ⟨hx, unhide HSI _ ((unhide HSE _ g.h).kept hb)⟩))
        have HCC : Hid (∀ (s m : ByteArray) (q : Int) (g : In S), Calls Tryz.prog 59 #[.agg #[.string s, .string m, .int .i64 q]] g.x fun x w' => x = .returned (.string s) ∧ S w') := hide (fun s m q g => (calledL s m q g.x).mono (fun x w' ⟨hx, hb⟩ => ⟨hx, unhide HSI _ ((unhide HSE _ g.h).kept hb)⟩))
        clear HCA
        cases rt with
        | false =>
          have hr : r = false := (unhide HR).symm.trans (okL_bad hlt ((unhide HBA).trans (by simp)))
          subst hr
          go_wp2
          refine wp_region_in S (by kernel_rfl) (by kernel_rfl) (unhide HSI _ ⟨?_, ?_, ?_, ?_, ?_, ?_, ?_, ?_, ?_⟩) ?_
          · go_keep
          · go_keep
          · go_keep
          · go_keep
          · go_keep
          · go_keep
          · simp
          · simp; omega
          · exact below_drewN' ((unhide hb).alloc (unhide hb).size _) 1
          intro hne
          repeat (go_big_quiet_step (first | exact call_in _ (unhide HCB _) | exact call_in _ (unhide HCC _ _ _ _)))
          refine wpQuiet_nil ?_
          rintro _ ⟨g, rfl⟩
          have HG := hide (unhide HSE _ g.h).2.2.2.2.2.2.2.2
          go_wp2
          go_ret
          exact ⟨rfl, unhide HG⟩
        | true =>
          by_cases k0 : k = 0
          · have hd' : Hid (∀ j, j < k + 1 → badL l j = false) := hide (badL_next (unhide hd) ((unhide HBA).trans (by simp [k0])))
            have kn : decide (0 < k) = false := by simp [k0]
            clear k0
            go_wp2
            refine wp_region_in S (by kernel_rfl) (by kernel_rfl) (unhide HSI _ ⟨?_, ?_, ?_, ?_, ?_, ?_, ?_, ?_, ?_⟩) ?_
            · go_keep
            · go_keep
            · go_keep
            · go_keep
            · go_keep
            · go_keep
            · simp
            · simp; omega
            · exact below_drewN' ((unhide hb).alloc (unhide hb).size _) 1
            intro hne
            repeat (go_big_quiet_step (first | exact call_in _ (unhide HCB _) | exact call_in _ (unhide HCC _ _ _ _)))
            refine wpQuiet_nil ?_
            rintro _ ⟨g, rfl⟩
            have HG := hide (unhide HSE _ g.h).2.2.2.2.2.2.2.2
            go_wp2
            exact ⟨⟨k + 1, by omega, by go_num, hd', HG⟩, by simp [intOf]; omega⟩
          · have kn : 0 < k := by omega
            have kk : (0 : Int) < (k : Int) := by omega
            have j1 : (0 : Int) ≤ (k : Int) - 1 := by omega
            have j2 : (k : Int) - 1 < (l.length : Int) := by omega
            have hwr : IntKind.i64.wrap ((k : Int) - 1) = (k : Int) - 1 := IntWalk.i64_in _ ⟨by omega, by omega⟩
            have htn : ((k : Int) - 1).toNat = k - 1 := by omega
            cases hlx : ltS t s with
            | false =>
              have hr : r = false := (unhide HR).symm.trans (okL_bad hlt ((unhide HBA).trans (by simp [kn, hlx])))
              subst hr
              go_wp2
              refine wp_region_in S (by kernel_rfl) (by kernel_rfl) (unhide HSI _ ⟨?_, ?_, ?_, ?_, ?_, ?_, ?_, ?_, ?_⟩) ?_
              · go_keep
              · go_keep
              · go_keep
              · go_keep
              · go_keep
              · go_keep
              · simp
              · simp; omega
              · exact below_drewN' ((unhide hb).alloc (unhide hb).size _) 1
              intro hne
              repeat (go_big_quiet_step (first | exact call_in _ (unhide HCB _) | exact call_in _ (unhide HCC _ _ _ _)))
              refine wpQuiet_nil ?_
              rintro _ ⟨g, rfl⟩
              have HG := hide (unhide HSE _ g.h).2.2.2.2.2.2.2.2
              go_wp2
              go_ret
              exact ⟨rfl, unhide HG⟩
            | true =>
              have hd' : Hid (∀ j, j < k + 1 → badL l j = false) := hide (badL_next (unhide hd) ((unhide HBA).trans (by simp [kn, hlx])))
              go_wp2
              refine wp_region_in S (by kernel_rfl) (by kernel_rfl) (unhide HSI _ ⟨?_, ?_, ?_, ?_, ?_, ?_, ?_, ?_, ?_⟩) ?_
              · go_keep
              · go_keep
              · go_keep
              · go_keep
              · go_keep
              · go_keep
              · simp
              · simp; omega
              · exact below_drewN' ((unhide hb).alloc (unhide hb).size _) 1
              intro hne
              repeat (go_big_quiet_step (first | exact call_in _ (unhide HCB _) | exact call_in _ (unhide HCC _ _ _ _)))
              refine wpQuiet_nil ?_
              rintro _ ⟨g, rfl⟩
              have HG := hide (unhide HSE _ g.h).2.2.2.2.2.2.2.2
              go_wp2
              exact ⟨⟨k + 1, by omega, by go_num, hd', HG⟩, by simp [intOf]; omega⟩
      · have hr : r = true := (unhide HR).symm.trans (okL_true (by omega) (fun j hj => unhide hd j (by omega)))
        subst hr
        go_wp2
        go_ret
        exact ⟨rfl, unhide hb⟩

/-- impl.tariffRight -/
theorem tarI (v : Value) (l : List E) (w : World) (h : ER w v l) (hl : l.length ≤ 1048576) (hs : ∀ u ∈ l, u.1.size ≤ maxLen ∧ u.2.1.size ≤ maxLen) (he : EnvR w) :
    Calls Tryz.prog 40 #[v] w fun e w' => e = .returned (.bool (okL l)) ∧ Below w.heap.size w w' := by
  have HO := hide (ordL v l w h hl hs he)
  generalize okL l = z at HO ⊢
  clear h hs he
  go_enter Tryz.func40, Tryz.ntmps40
  go_wp2_with (fail)
  refine (unhide HO).mono ?_
  rintro e w' ⟨rfl, hb⟩
  go_wp2
  go_ret
  exact ⟨rfl, hb⟩
end Go.Proofs.YtnchgeiinkaefaaGreatDoor.Bill
end
