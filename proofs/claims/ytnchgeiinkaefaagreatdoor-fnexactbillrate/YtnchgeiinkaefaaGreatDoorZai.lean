/-
  Texts of this proof laid together, in build order; each says of itself what it holds.
-/
import Derived.Test.YtnchgeiinkaefaaGreatDoorZah
import Derived.Deep.SlicePairs
import Derived.Lib.SmallJoins
import Derived.Test.YtnchgeiinkaefaaGreatDoorZag
import Derived.LaidHandle
import Derived.Deep.AppendLies
import Derived.Deep.AppendSrc
import Derived.Deep.RegionHeldLaw
import Derived.OwnWalk
import Derived.Test.YtnchgeiinkaefaaGreatDoorZae
import Derived.Test.YtnchgeiinkaefaaGreatDoorZaf
import Derived.Deep.QuietTactic
import Derived.BigQuiet
import Derived.Deep.RegionHeld3
section
/-
  Invoices and bills in memory, and the laws' own helpers on them: size, copy, compare.
-/
namespace Go.Proofs.YtnchgeiinkaefaaGreatDoor.Bills
set_option linter.unusedVariables false
open Go.RowKit
open Evs (E E0 ER EN EC EOwn)
open BRow (R R0 RR RN RC ROwn)

theorem hide {p : Prop} (h : p) : Hid p := h
theorem unhide {p : Prop} (h : Hid p) : p := h
theorem below_trans {w w1 w2 : World} (h : Below w.heap.size w w1) (k : Below w1.heap.size w1 w2) : Below w.heap.size w w2 := h.trans (k.mono h.size)
theorem below_alloc (w : World) (o : Obj) : Below w.heap.size w (w.alloc o) := (Below.refl _ _).alloc (Nat.le_refl _) o

/-- an invoice -/
structure I where
  no : Int
  rows : List R
  evs : List E
  net : Int
  tax : Int
  credit : Int
  deriving DecidableEq, Inhabited
abbrev I0 : I := ⟨0, [], [], 0, 0, 0⟩
/-- a bill -/
structure B where
  tar : List E
  evs : List E
  invs : List I
  paid : Int
  deriving DecidableEq, Inhabited

/-- the cells of one invoice -/
def I6 (W : World) (b o : Nat) (x : I) (rv ev : Value) : Prop :=
  W.cell? ⟨b, o, none⟩ = some (.int .i64 x.no) ∧ W.cell? ⟨b, o + 1, none⟩ = some rv ∧ W.cell? ⟨b, o + 2, none⟩ = some ev ∧ W.cell? ⟨b, o + 3, none⟩ = some (.int .i64 x.net) ∧ W.cell? ⟨b, o + 4, none⟩ = some (.int .i64 x.tax) ∧ W.cell? ⟨b, o + 5, none⟩ = some (.int .i64 x.credit)
/-- what hangs on an invoice -/
def IW (W : World) (rv ev : Value) (x : I) : Prop := RR W rv x.rows ∧ ER W ev x.evs
/-- from o on block b holds the invoices l -/
def IC (W : World) (b o : Nat) (l : List I) : Prop := b < W.heap.size ∧ ∀ i, i < l.length → ∃ rv ev, I6 W b (o + i * 6) (l.getD i I0) rv ev ∧ IW W rv ev (l.getD i I0)
/-- the slice v holds the invoices l -/
def IR (W : World) (v : Value) (l : List I) : Prop :=
  (l = [] ∧ ∃ a c, v = .slice a 0 c) ∨ ∃ b o cap, v = .slice (some ⟨b, o, none⟩) l.length cap ∧ IC W b o l
/-- the value v is the bill x -/
def BV (W : World) (v : Value) (x : B) : Prop := ∃ tv ev iv, v = .agg #[tv, ev, iv, .int .i64 x.paid] ∧ ER W tv x.tar ∧ ER W ev x.evs ∧ IR W iv x.invs

theorem I6.kept {W W' : World} {b o : Nat} {x : I} {rv ev : Value} (h : I6 W b o x rv ev) (hl : b < W.heap.size) (hb : Below W.heap.size W W') : I6 W' b o x rv ev :=
  ⟨(hb.cell (p := ⟨b, o, none⟩) hl).trans h.1, (hb.cell (p := ⟨b, o + 1, none⟩) hl).trans h.2.1, (hb.cell (p := ⟨b, o + 2, none⟩) hl).trans h.2.2.1, (hb.cell (p := ⟨b, o + 3, none⟩) hl).trans h.2.2.2.1, (hb.cell (p := ⟨b, o + 4, none⟩) hl).trans h.2.2.2.2.1, (hb.cell (p := ⟨b, o + 5, none⟩) hl).trans h.2.2.2.2.2⟩
theorem IW.kept {W W' : World} {rv ev : Value} {x : I} (h : IW W rv ev x) (hb : Below W.heap.size W W') : IW W' rv ev x := ⟨h.1.kept hb, h.2.kept hb⟩
theorem IC.kept {W W' : World} {b o : Nat} {l : List I} (h : IC W b o l) (hb : Below W.heap.size W W') : IC W' b o l :=
  ⟨Nat.lt_of_lt_of_le h.1 hb.size, fun i hi => by
    obtain ⟨rv, ev, h6, hw⟩ := h.2 i hi
    exact ⟨rv, ev, h6.kept h.1 hb, hw.kept hb⟩⟩
theorem IR.kept {W W' : World} {v : Value} {l : List I} (h : IR W v l) (hb : Below W.heap.size W W') : IR W' v l := by
  rcases h with h | ⟨b, o, cap, rfl, hc⟩
  · exact .inl h
  · exact .inr ⟨b, o, cap, rfl, hc.kept hb⟩
theorem IR.slice {W : World} {v : Value} {l : List I} (h : IR W v l) : ∃ a c, v = .slice a l.length c := by
  rcases h with ⟨rfl, a, c, rfl⟩ | ⟨b, o, cap, rfl, _⟩
  · exact ⟨_, _, rfl⟩
  · exact ⟨_, _, rfl⟩
theorem BV.kept {W W' : World} {v : Value} {x : B} (h : BV W v x) (hb : Below W.heap.size W W') : BV W' v x := by
  obtain ⟨tv, ev, iv, rfl, h1, h2, h3⟩ := h
  exact ⟨tv, ev, iv, rfl, h1.kept hb, h2.kept hb, h3.kept hb⟩

/-! ### size -/
end Go.Proofs.YtnchgeiinkaefaaGreatDoor.Bills
end

section
/-
  Arguments that came in, opened: slices of events, and an event by value.
-/
namespace Go.Proofs.YtnchgeiinkaefaaGreatDoor.Evs
set_option linter.unusedVariables false
open Go.RowKit Go.Deep Go.ChangeShapes Go.WideShapes

section
variable {H : Type} {enc : TypeId × Value → H} {w : World} {base : Nat} {held : Bool}

theorem lt_of_cell {W : World} {b o : Nat} {v : Value} (h : W.cell? ⟨b, o, none⟩ = some v) : b < W.heap.size := by
  refine Nat.lt_of_not_le fun hn => ?_
  have h2 : W.heap[b]? = none := by simp; omega
  simp [World.cell?, h2] at h

theorem list3 {α : Type} {cs : List α} (h : cs.length = 3) : ∃ a b c, cs = [a, b, c] := by
  match cs, h with
  | [a, b, c], _ => exact ⟨a, b, c, rfl⟩

theorem openFieldsV {fuel : Nat} {cs : List Value} {x : DataW H × List MemPlace} (h : DataW.trod enc Tryz.prog w base (fun _ => true) held fuel 45 cs = some x) :
    ∃ (s m : ByteArray) (q : Int), cs = [.string s, .string m, .int .i64 q] ∧ s.size ≤ maxLen ∧ m.size ≤ maxLen := by
  obtain ⟨xs, n, hn, _, hl, hxl, hf⟩ := DataW.trod_struct Tryz.underlying45 h
  have hl3 : cs.length = 3 := hl.trans (by kernel_rfl)
  obtain ⟨c0, c1, c2, rfl⟩ := list3 hl3
  obtain ⟨x0, x1, x2, rfl⟩ := list3 (by simpa using hxl)
  have k1 : Tryz.prog.cellsOf 3 = 1 := by kernel_rfl
  have k2 : Tryz.prog.cellsOf 9 = 1 := by kernel_rfl
  have h0 := hf 0 _ rfl
  have h1 := hf 1 _ rfl
  have h2 := hf 2 _ rfl
  simp [k1, k2] at h0 h1 h2
  obtain ⟨s, e0, _, hs⟩ := DataW.trod_string Tryz.underlying9 h0
  obtain ⟨m, e1, _, hm⟩ := DataW.trod_string Tryz.underlying9 h1
  obtain ⟨q, e2, _, _⟩ := DataW.trod_int Tryz.underlying3 h2
  simp only [List.cons.injEq, and_true] at e0 e1 e2
  subst e0 e1 e2
  exact ⟨s, m, q, rfl, hs, hm⟩

theorem openEvs {fuel : Nat} {cs : List Value} {x : DataW H × List MemPlace} (h : DataW.trod enc Tryz.prog w base (fun _ => true) held fuel 23 cs = some x) :
    ∃ v l, cs = [v] ∧ ER w v l ∧ l.length ≤ maxLen ∧ ∀ u ∈ l, u.1.size ≤ maxLen ∧ u.2.1.size ≤ maxLen := by
  rcases DataW.trod_slice Tryz.underlying23 h with ⟨rfl, _⟩ | ⟨a, len, cap, elems, rest, n, hfu, rfl, _, hb, hl, hm, hlen, hel, _, _⟩
  · exact ⟨_, [], rfl, .inl ⟨rfl, _, _, rfl⟩, by simp, by simp⟩
  have ce : Tryz.prog.cellsOf 45 = 3 := by kernel_rfl
  by_cases h0 : len = 0
  · subst h0
    exact ⟨_, [], rfl, .inl ⟨rfl, _, _, rfl⟩, by simp, by simp⟩
  have each : ∀ i, i < len → ∃ q : E, (w.cell? (a.add (i * 3)) = some (.string q.1) ∧ w.cell? (a.add (i * 3 + 1)) = some (.string q.2.1) ∧ w.cell? (a.add (i * 3 + 2)) = some (.int .i64 q.2.2)) ∧ (q.1.size ≤ maxLen ∧ q.2.1.size ≤ maxLen) := by
    intro i hi
    have h1 := hel i hi
    rw [List.getElem?_eq_getElem (by omega), ce] at h1
    obtain ⟨cs', h2, h3⟩ := Option.bind_eq_some_iff.1 h1
    obtain ⟨s, m, q, rfl, hs, hm'⟩ := openFieldsV h3
    obtain ⟨_, _, hcell⟩ := World.cells?_some h2
    have g0 := hcell 0 (by omega)
    have g1 := hcell 1 (by omega)
    have g2 := hcell 2 (by omega)
    rw [add_add] at g0 g1 g2
    exact ⟨(s, m, q), ⟨by simpa using g0, by simpa using g1, by simpa using g2⟩, hs, hm'⟩
  obtain ⟨q, hq⟩ := choose_lt each
  obtain ⟨b, off, spot⟩ := a
  have hspot : spot = none := by simpa [Addr.add] using World.cell?_spot (hq 0 (by omega)).1.1
  subst hspot
  have hlt : b < w.heap.size := lt_of_cell (v := .string (q 0).1) (by simpa [Addr.add] using (hq 0 (by omega)).1.1)
  refine ⟨_, (List.range len).map q, rfl, .inr ⟨b, off, cap, by simp, hlt, fun i hi => ?_⟩, by simp; omega, ?_⟩
  · have hi' : i < len := by simpa using hi
    have e : ((List.range len).map q).getD i E0 = q i := by simp [List.getD, hi']
    rw [e]
    obtain ⟨⟨c0, c1, c2⟩, _⟩ := hq i hi'
    rw [Addr.add_lit] at c0 c1 c2
    rw [← Nat.add_assoc] at c1 c2
    exact ⟨c0, c1, c2⟩
  · intro u hu
    obtain ⟨i, hi, rfl⟩ := List.mem_map.1 hu
    exact (hq i (by have := List.mem_range.1 hi; omega)).2

end
end Go.Proofs.YtnchgeiinkaefaaGreatDoor.Evs
end

section
/-
  Arguments that came in, opened: bills.
-/
namespace Go.Proofs.YtnchgeiinkaefaaGreatDoor.Bills
set_option linter.unusedVariables false
open Go.RowKit Go.Deep Go.ChangeShapes Go.WideShapes
open Evs (E E0 ER EN EC EOwn lt_of_cell list3)
open BRow (R R0 RR RN RC ROwn)

section
variable {H : Type} {enc : TypeId × Value → H} {w : World} {base : Nat} {held : Bool}

theorem openFieldsL {fuel : Nat} {cs : List Value} {x : DataW H × List MemPlace} (h : DataW.trod enc Tryz.prog w base (fun _ => true) held fuel 42 cs = some x) :
    ∃ (s m : ByteArray) (q : Int), cs = [.string s, .string m, .int .i64 q] ∧ s.size ≤ maxLen ∧ m.size ≤ maxLen := by
  obtain ⟨xs, n, hn, _, hl, hxl, hf⟩ := DataW.trod_struct Tryz.underlying42 h
  have hl3 : cs.length = 3 := hl.trans (by kernel_rfl)
  obtain ⟨c0, c1, c2, rfl⟩ := list3 hl3
  obtain ⟨x0, x1, x2, rfl⟩ := list3 (by simpa using hxl)
  have k1 : Tryz.prog.cellsOf 3 = 1 := by kernel_rfl
  have k2 : Tryz.prog.cellsOf 9 = 1 := by kernel_rfl
  have h0 := hf 0 _ rfl
  have h1 := hf 1 _ rfl
  have h2 := hf 2 _ rfl
  simp [k1, k2] at h0 h1 h2
  obtain ⟨s, e0, _, hs⟩ := DataW.trod_string Tryz.underlying9 h0
  obtain ⟨m, e1, _, hm⟩ := DataW.trod_string Tryz.underlying9 h1
  obtain ⟨q, e2, _, _⟩ := DataW.trod_int Tryz.underlying3 h2
  simp only [List.cons.injEq, and_true] at e0 e1 e2
  subst e0 e1 e2
  exact ⟨s, m, q, rfl, hs, hm⟩

theorem openLins {fuel : Nat} {cs : List Value} {x : DataW H × List MemPlace} (h : DataW.trod enc Tryz.prog w base (fun _ => true) held fuel 22 cs = some x) :
    ∃ v l, cs = [v] ∧ ER w v l ∧ l.length ≤ maxLen ∧ ∀ u ∈ l, u.1.size ≤ maxLen ∧ u.2.1.size ≤ maxLen := by
  rcases DataW.trod_slice Tryz.underlying22 h with ⟨rfl, _⟩ | ⟨a, len, cap, elems, rest, n, hfu, rfl, _, hb, hl, hm, hlen, hel, _, _⟩
  · exact ⟨_, [], rfl, .inl ⟨rfl, _, _, rfl⟩, by simp, by simp⟩
  have ce : Tryz.prog.cellsOf 42 = 3 := by kernel_rfl
  by_cases h0 : len = 0
  · subst h0
    exact ⟨_, [], rfl, .inl ⟨rfl, _, _, rfl⟩, by simp, by simp⟩
  have each : ∀ i, i < len → ∃ q : E, (w.cell? (a.add (i * 3)) = some (.string q.1) ∧ w.cell? (a.add (i * 3 + 1)) = some (.string q.2.1) ∧ w.cell? (a.add (i * 3 + 2)) = some (.int .i64 q.2.2)) ∧ (q.1.size ≤ maxLen ∧ q.2.1.size ≤ maxLen) := by
    intro i hi
    have h1 := hel i hi
    rw [List.getElem?_eq_getElem (by omega), ce] at h1
    obtain ⟨cs', h2, h3⟩ := Option.bind_eq_some_iff.1 h1
    obtain ⟨s, m, q, rfl, hs, hm'⟩ := openFieldsL h3
    obtain ⟨_, _, hcell⟩ := World.cells?_some h2
    have g0 := hcell 0 (by omega)
    have g1 := hcell 1 (by omega)
    have g2 := hcell 2 (by omega)
    rw [add_add] at g0 g1 g2
    exact ⟨(s, m, q), ⟨by simpa using g0, by simpa using g1, by simpa using g2⟩, hs, hm'⟩
  obtain ⟨q, hq⟩ := choose_lt each
  obtain ⟨b, off, spot⟩ := a
  have hspot : spot = none := by simpa [Addr.add] using World.cell?_spot (hq 0 (by omega)).1.1
  subst hspot
  have hlt : b < w.heap.size := lt_of_cell (v := .string (q 0).1) (by simpa [Addr.add] using (hq 0 (by omega)).1.1)
  refine ⟨_, (List.range len).map q, rfl, .inr ⟨b, off, cap, by simp, hlt, fun i hi => ?_⟩, by simp; omega, ?_⟩
  · have hi' : i < len := by simpa using hi
    have e : ((List.range len).map q).getD i E0 = q i := by simp [List.getD, hi']
    rw [e]
    obtain ⟨⟨c0, c1, c2⟩, _⟩ := hq i hi'
    rw [Addr.add_lit] at c0 c1 c2
    rw [← Nat.add_assoc] at c1 c2
    exact ⟨c0, c1, c2⟩
  · intro u hu
    obtain ⟨i, hi, rfl⟩ := List.mem_map.1 hu
    exact (hq i (by have := List.mem_range.1 hi; omega)).2

end
end Go.Proofs.YtnchgeiinkaefaaGreatDoor.Bills
end

section
/-
  What the listed package variables give, a handle of the type error among them; two openers of slices.
-/
namespace Go.Proofs.YtnchgeiinkaefaaGreatDoor.Laid
open Go.RowKit Go.Deep Go.ChangeShapes Go.WideShapes
open ErrA (rty hdl)

theorem etG : Tryz.prog.globalNamed "errors.errorType" = some 0 := by kernel_rfl
theorem etR : (Tryz.prog.cutTypes.find? (·.1 == "internal/reflectlite.rtype")).map (·.2) = some 170 := by kernel_rfl
theorem etOne : ((List.range Tryz.prog.types.size).filter fun t => Tryz.prog.rowNamed t [101, 114, 114, 111, 114]) = [62] := by kernel_rfl

/-- the handle of the type error, where the hypothesis lists it -/
theorem handleE {W : World} {l : List (String × DataW Unit)} (h : handlesMet Tryz.prog l W) (hm : ("errors.errorType", (Rows.laid_errors_errorType : DataW Unit)) ∈ l) : W.cell? ⟨0, 0, none⟩ = some (rty 62) := by
  obtain ⟨name, u, ty, e1, e2, e3, e4, e5⟩ := h _ hm
  have en : name = [101, 114, 114, 111, 114] := (Option.some.inj e1).symm
  subst en
  obtain rfl := Option.some.inj (etR.symm.trans e2)
  have hmm : ty ∈ (List.range Tryz.prog.types.size).filter fun t => Tryz.prog.rowNamed t [101, 114, 114, 111, 114] := List.mem_filter.2 ⟨List.mem_range.2 e3, e4⟩
  rw [etOne] at hmm
  obtain rfl := List.mem_singleton.1 hmm
  have hh : typeHandle Tryz.prog 62 = hdl 62 := by kernel_rfl
  rw [hh] at e5
  simpa using World.var?_cell etG e5 0

set_option maxRecDepth 100000 in
theorem openLinsS {H : Type} {enc : TypeId × Value → H} {w : World} {base : Nat} {held : Bool} {r : Reach} {b0 : Nat} {v : Value} {dd : DataW H} {p : List MemPlace} (hv : Value.okWide Tryz.prog w r b0 22 v) (h : DataW.Trod enc Tryz.prog w base (fun _ => true) held 22 v dd p) :
    ∃ v' l, v = v' ∧ Evs.ER w v' l ∧ l.length ≤ maxLen ∧ ∀ u ∈ l, u.1.size ≤ maxLen ∧ u.2.1.size ≤ maxLen := by
  obtain ⟨a, len, cap, rfl⟩ := okWide_slice Tryz.underlying22 hv
  obtain ⟨fuel, hf⟩ := h
  obtain ⟨v, l, e, f⟩ := Bills.openLins hf
  have : Value.slice a len cap = v := by simpa [Value.cells] using e
  exact ⟨_, l, this, f⟩
set_option maxRecDepth 100000 in
theorem openEvsS {H : Type} {enc : TypeId × Value → H} {w : World} {base : Nat} {held : Bool} {r : Reach} {b0 : Nat} {v : Value} {dd : DataW H} {p : List MemPlace} (hv : Value.okWide Tryz.prog w r b0 23 v) (h : DataW.Trod enc Tryz.prog w base (fun _ => true) held 23 v dd p) :
    ∃ v' l, v = v' ∧ Evs.ER w v' l ∧ l.length ≤ maxLen ∧ ∀ u ∈ l, u.1.size ≤ maxLen ∧ u.2.1.size ≤ maxLen := by
  obtain ⟨a, len, cap, rfl⟩ := okWide_slice Tryz.underlying23 hv
  obtain ⟨fuel, hf⟩ := h
  obtain ⟨v, l, e, f⟩ := Evs.openEvs hf
  have : Value.slice a len cap = v := by simpa [Value.cells] using e
  exact ⟨_, l, this, f⟩
theorem lt_cell {W : World} {b o : Nat} {v : Value} (h : W.cell? ⟨b, o, none⟩ = some v) : b < W.heap.size := Evs.lt_of_cell h
end Go.Proofs.YtnchgeiinkaefaaGreatDoor.Laid
end

section
/-
  'append(out, list...)' on a slice of rows of the call's own.
-/
namespace Go.Proofs.YtnchgeiinkaefaaGreatDoor.BRow
set_option linter.unusedVariables false
open Go.RowKit

/-- three values each -/
abbrev flatR (l : List R) : List Value := l.flatMap fun x => [.string x.1, .int .i64 x.2.1, .int .i64 x.2.2]
theorem flatR_len : ∀ l : List R, (flatR l).length = l.length * 3
  | [] => rfl
  | x :: xs => by
    have := flatR_len xs
    simp only [flatR, List.flatMap_cons, List.length_append, List.length_cons, List.length_nil] at this ⊢
    omega
theorem flatR_get : ∀ (l : List R) (i : Nat) (x : R), l[i]? = some x → (flatR l)[i * 3]? = some (.string x.1) ∧ (flatR l)[i * 3 + 1]? = some (.int .i64 x.2.1) ∧ (flatR l)[i * 3 + 2]? = some (.int .i64 x.2.2)
  | [], i, x, h => by simp at h
  | y :: ys, 0, x, h => by
    simp only [List.getElem?_cons_zero, Option.some.injEq] at h
    subst h
    simp [flatR]
  | y :: ys, i + 1, x, h => by
    have := flatR_get ys i x (by simpa using h)
    have e1 : (i + 1) * 3 = i * 3 + 1 + 1 + 1 := by omega
    rw [e1]
    simp only [flatR, List.flatMap_cons, List.cons_append, List.nil_append, List.getElem?_cons_succ]
    exact this
theorem flatR_one (l : List R) : ∀ u ∈ flatR l, u.oneCell' = true := by
  intro u hu
  obtain ⟨x, _, hx⟩ := List.mem_flatMap.1 hu
  simp only [List.mem_cons, List.not_mem_nil, or_false] at hx
  rcases hx with rfl | rfl | rfl <;> rfl
theorem flatR_at {l : List R} {j : Nat} {u : Value} (h : (flatR l)[j]? = some u) : j / 3 < l.length ∧ u = (if j % 3 = 0 then .string (l.getD (j / 3) R0).1 else if j % 3 = 1 then .int .i64 (l.getD (j / 3) R0).2.1 else .int .i64 (l.getD (j / 3) R0).2.2) := by
  have hj : j < (flatR l).length := (List.getElem?_eq_some_iff.1 h).1
  rw [flatR_len] at hj
  have hlt : j / 3 < l.length := by omega
  refine ⟨hlt, ?_⟩
  have hx : l[j / 3]? = some (l.getD (j / 3) R0) := by rw [List.getElem?_eq_getElem hlt]; simp [List.getD, hlt]
  obtain ⟨h0, h1, h2⟩ := flatR_get l (j / 3) _ hx
  rcases (by omega : j % 3 = 0 ∨ j % 3 = 1 ∨ j % 3 = 2) with e | e | e
  · have ej : j = j / 3 * 3 := by omega
    rw [ej, h0] at h
    rw [if_pos e]
    exact (Option.some.inj h).symm
  · have ej : j = j / 3 * 3 + 1 := by omega
    rw [ej, h1] at h
    rw [if_neg (by omega), if_pos e]
    exact (Option.some.inj h).symm
  · have ej : j = j / 3 * 3 + 2 := by omega
    rw [ej, h2] at h
    rw [if_neg (by omega), if_neg (by omega)]
    exact (Option.some.inj h).symm

/-- the slice of the call's own in block b, not below B, holds l -/
def XR (W : World) (B b c : Nat) (l : List R) : Prop := W.ownsRow B 55 3 (.slice (some ⟨b, 0, none⟩) l.length c) l.length (flatR l)

theorem XR.own {W : World} {B b c : Nat} {l : List R} (h : XR W B b c l) : B ≤ b ∧ ROwn W b l := by
  obtain ⟨_, h2⟩ := h
  rcases h2 with ⟨h2, _⟩ | ⟨g, cap, cur, hv, hb, hg, _, _, hc3, hc4⟩
  · simp at h2
  · simp only [Value.slice.injEq, Option.some.injEq, Addr.mk.injEq, and_true, true_and] at hv
    obtain ⟨rfl, rfl⟩ := hv
    refine ⟨hb, ⟨?_, fun i hi => ?_⟩, fun j => ?_⟩
    · refine Nat.lt_of_not_le fun hle => ?_
      rw [Array.getElem?_eq_none hle] at hg; simp at hg
    · have hx : l[i]? = some (l.getD i R0) := by rw [List.getElem?_eq_getElem hi]; simp [List.getD, hi]
      obtain ⟨h0, h1, h2⟩ := flatR_get l i _ hx
      rw [← hc4, List.getElem?_take_of_lt (by omega)] at h0 h1 h2
      simp only [World.cell?, hg]
      refine ⟨?_, ?_, ?_⟩
      · simpa using h0
      · simpa using h1
      · simpa using h2
    · simp only [World.frozen?, hg]; simp
theorem XR.cap {W : World} {B b c : Nat} {l : List R} (h : XR W B b c l) : l.length ≤ c := by
  rcases h.2 with ⟨h3, _⟩ | ⟨g, cap, cur, hv, _, _, h3, _⟩
  · simp at h3
  · simp only [Value.slice.injEq, Option.some.injEq, Addr.mk.injEq, and_true, true_and] at hv
    omega
theorem XR.rn {W : World} {B b c : Nat} {l : List R} (h : XR W B b c l) : RN B W (.slice (some ⟨b, 0, none⟩) l.length c) l := .inr ⟨b, c, rfl, ⟨h.own.1, h.cap⟩, h.own.2⟩
theorem XR.kept {W W' : World} {B b c : Nat} {l : List R} {r : Option Nat} (h : XR W B b c l) (hg : W.grownBy W' r) (hne : some b ≠ r) : XR W' B b c l :=
  World.ownsRow.kept h hg (.inr (by simpa [Value.ownBlock] using hne))
theorem XR.made (w : World) (B : Nat) (hB : B ≤ w.heap.size) (t : TypeId) (ht : t = 55) : XR (w.alloc (.cells #[] t)) B w.heap.size 0 [] := by
  subst ht
  refine ⟨rfl, .inr ⟨w.heap.size, 0, #[], rfl, hB, (MapKept.heap_alloc w _).1, by simp, by simp, by simp, by simp⟩⟩

theorem srcR_of {w : World} {xv : Value} {l2 : List R} (hx : RR w xv l2) (i : TypeInfo) (hs : i.size = 3) : Src Tryz.prog i.size 26 xv l2.length (flatR l2) w := by
  rw [hs]
  rcases hx with ⟨rfl, a, c, rfl⟩ | ⟨b2, o2, cap2, rfl, hc⟩
  · cases a with
    | none => exact Src.ofNil w Tryz.underlying26 c
    | some ad => exact Src.ofSlice w Tryz.underlying26 ad 0 c [] rfl (fun j u hj => by simp at hj) (fun u hu => by simp at hu)
  · refine Src.ofSlice w Tryz.underlying26 ⟨b2, o2, none⟩ l2.length cap2 (flatR l2) (flatR_len l2) (fun j u hj => ?_) (flatR_one l2)
    obtain ⟨hlt, rfl⟩ := flatR_at hj
    obtain ⟨c0, c1, c2⟩ := hc.2 (j / 3) hlt
    rw [Addr.add_lit]
    rcases (by omega : j % 3 = 0 ∨ j % 3 = 1 ∨ j % 3 = 2) with e | e | e
    · rw [if_pos e]
      have ej : o2 + j = o2 + j / 3 * 3 := by omega
      rw [ej]; exact c0
    · rw [if_neg (by omega), if_pos e]
      have ej : o2 + j = o2 + j / 3 * 3 + 1 := by omega
      rw [ej]; exact c1
    · rw [if_neg (by omega), if_neg (by omega)]
      have ej : o2 + j = o2 + j / 3 * 3 + 2 := by omega
      rw [ej]; exact c2

theorem run_appR (w : World) (ty : TypeId) (B b c n : Nat) (l l2 : List R) (xv : Value) (hn : l.length = n) (hown : XR w B b c l) (hx : RR w xv l2) (hl : l.length + l2.length ≤ 3000000) (hB : B ≤ w.heap.size) :
    ∃ b' c' w', (Builtin.append_ #[26, 26] ty #[.slice (some ⟨b, 0, none⟩) n c, xv]).run Tryz.prog w = .ok (.slice (some ⟨b', 0, none⟩) (n + l2.length) c') w' ∧ XR w' B b' c' (l ++ l2) ∧ w.grownBy w' (some b) ∧ (b = b' ∨ b' = w.heap.size) ∧ b' < w'.heap.size := by
  subst hn
  obtain ⟨i, hi, h2⟩ := Option.map_eq_some_iff.1 infoR
  simp only [Prod.mk.injEq] at h2
  obtain ⟨hz, hs, hb⟩ := h2
  by_cases h0 : l2 = []
  · subst h0
    have hsrc := srcR_of hx i hs
    obtain ⟨hB', hE⟩ := hown.own
    have hcap : l.length ≤ c := by
      rcases hown.2 with ⟨h3, _⟩ | ⟨g, cap, cur, hv, _, _, h3, _⟩
      · simp at h3
      · simp only [Value.slice.injEq, Option.some.injEq, Addr.mk.injEq, and_true, true_and] at hv
        omega
    have := run_append_room_src (P := Tryz.prog) w 26 26 ty 55 i Tryz.underlying26 hi b 0 l.length c xv 0 [] hsrc (by omega) (fun j hj => by simp at hj) (fun j hj => by simp at hj)
    refine ⟨b, c, w, this, by rw [List.append_nil]; exact hown, World.grownBy.refl _ _, .inl rfl, hE.1.1⟩
  · rcases hx with ⟨h0', _⟩ | ⟨b2, o2, cap2, rfl, hc⟩
    · exact absurd h0' h0
    have hpos : 0 < l2.length := List.length_pos_iff.2 h0
    have hER : RR w (.slice (some ⟨b2, o2, none⟩) l2.length cap2) l2 := .inr ⟨b2, o2, cap2, rfl, hc⟩
    have hnews : ∀ j u, (flatR l2)[j]? = some u → w.cell? ((⟨b2, o2, none⟩ : Addr).add j) = some u := fun j u hj => by
      obtain ⟨hlt, rfl⟩ := flatR_at hj
      obtain ⟨c0, c1, c2⟩ := hc.2 (j / 3) hlt
      rw [Addr.add_lit]
      rcases (by omega : j % 3 = 0 ∨ j % 3 = 1 ∨ j % 3 = 2) with e | e | e
      · rw [if_pos e]
        have ej : o2 + j = o2 + j / 3 * 3 := by omega
        rw [ej]; exact c0
      · rw [if_neg (by omega), if_pos e]
        have ej : o2 + j = o2 + j / 3 * 3 + 1 := by omega
        rw [ej]; exact c1
      · rw [if_neg (by omega), if_neg (by omega)]
        have ej : o2 + j = o2 + j / 3 * 3 + 2 := by omega
        rw [ej]; exact c2
    obtain ⟨g, cap, w', hr, g2, g3, g4, g5⟩ := run_append_lies (P := Tryz.prog) w 26 ty B 55 i _ 3 32 Tryz.underlying26 hi hz hs hb rfl (by omega) _ l.length (flatR l) hown ⟨b2, o2, none⟩ l2.length cap2 (flatR l2) (flatR_len l2) hnews (flatR_one l2) hpos (by unfold maxLen; omega) (by omega) hB _ rfl
    refine ⟨g, cap, w', hr, ?_, g3, ?_, g5⟩
    · unfold XR
      rw [List.length_append, flatR, List.flatMap_append]
      exact g2
    · rcases g4 with g4 | g4
      · exact .inl (by simpa [Value.ownBlock] using g4)
      · exact .inr g4

section
variable {ops : Array Oper} {o : Oper} {a : Act} {K : Act → World → Prop} {Q : Exit → Act → World → Prop} {P0 : Prop}
theorem wp_appR (w : World) (s x : Operand) (ho : o.op = .call { callee := .builtin .append, args := #[s, x], argTypes := #[26, 26] })
    (B b c n : Nat) (l l2 : List R) (xv : Value) (hn : l.length = n) (hs : a.eval s = .slice (some ⟨b, 0, none⟩) n c) (hown : XR w B b c l) (hxv : a.eval x = xv) (hx : RR w xv l2) (hl : l.length + l2.length ≤ 3000000) (hB : B ≤ w.heap.size)
    (h : ∀ b' c' w', XR w' B b' c' (l ++ l2) → w.grownBy w' (some b) → (b = b' ∨ b' = w.heap.size) → b' < w'.heap.size → K (a.put o.dst (.slice (some ⟨b', 0, none⟩) (n + l2.length) c')) w') : o.wp Tryz.prog a w K Q := by
  obtain ⟨b', c', w', hr, h2, h3, h4, h5⟩ := run_appR w o.type B b c n l l2 xv hn hown hx hl hB
  unfold Oper.wp execOp
  simp only [ho, resolve, invoke, builtin, Sem.run_bind, Sem.run_pure, Result.andThen_ok, List.map_toArray, List.map_cons, List.map_nil, hs, hxv, hr]
  exact h b' c' w' h2 h3 h4 h5
theorem listAppR (w : World) {rest : List Oper} (hgd : o.guard = none) (s x : Operand) (ho : o.op = .call { callee := .builtin .append, args := #[s, x], argTypes := #[26, 26] })
    (B b c n : Nat) (l l2 : List R) (xv : Value) (hn : l.length = n) (hs : a.eval s = .slice (some ⟨b, 0, none⟩) n c) (hown : XR w B b c l) (hxv : a.eval x = xv) (hx : RR w xv l2) (hl : l.length + l2.length ≤ 3000000) (hB : B ≤ w.heap.size)
    (h : ∀ b' c' w', XR w' B b' c' (l ++ l2) → w.grownBy w' (some b) → (b = b' ∨ b' = w.heap.size) → b' < w'.heap.size → wpList Tryz.prog ops Q rest (a.put o.dst (.slice (some ⟨b', 0, none⟩) (n + l2.length) c')) w') :
    wpList Tryz.prog ops Q (o :: rest) a w :=
  wpList_plain hgd fun _ hK => wp_appR w s x ho B b c n l l2 xv hn hs hown hxv hx hl hB fun b' c' w' h2 h3 h4 h5 => hK _ _ (h b' c' w' h2 h3 h4 h5)
end
end Go.Proofs.YtnchgeiinkaefaaGreatDoor.BRow
end

section
/-
  spec's reader of expressions: see, want, word, num.
-/
namespace Go.Proofs.YtnchgeiinkaefaaGreatDoor.Rule
set_option linter.unusedVariables false
open Go.RowKit
open Boxes (At)
open RegIn

/-- the reader's box: the text, where it is, whether something could not stand -/
def Ps (W : World) (b : Nat) (s : ByteArray) (a : Nat) (bad : Bool) : Prop := At W b [.string s, .int .i64 a, .bool bad]
theorem Ps.cells {W : World} {b : Nat} {s : ByteArray} {a : Nat} {bad : Bool} (h : Ps W b s a bad) : (W.cell? ⟨b, 0, none⟩ = some (.string s) ∧ W.cell? ⟨b, 1, none⟩ = some (.int .i64 a) ∧ W.cell? ⟨b, 2, none⟩ = some (.bool bad)) ∧ W.frozen? ⟨b, 1, none⟩ = false ∧ W.frozen? ⟨b, 2, none⟩ = false :=
  ⟨⟨(h 0 _ rfl).1, (h 1 _ rfl).1, (h 2 _ rfl).1⟩, (h 1 _ rfl).2, (h 2 _ rfl).2⟩
theorem Ps.lt {W : World} {b : Nat} {s : ByteArray} {a : Nat} {bad : Bool} (h : Ps W b s a bad) : b < W.heap.size := At.lt h
/-- what is still to be read -/
def left (s : ByteArray) (a : Nat) : List UInt8 := s.data.toList.drop a
theorem left_cons {s : ByteArray} {a : Nat} (h : a < s.size) : left s a = s[a] :: left s (a + 1) := by
  have hs : s.data.toList.length = s.size := Array.length_toList
  unfold left
  rw [List.drop_eq_getElem_cons (by omega)]
  simp
  rfl
theorem left_nil {s : ByteArray} {a : Nat} (h : s.size ≤ a) : left s a = [] := by
  have hs : s.data.toList.length = s.size := Array.length_toList
  unfold left
  rw [List.drop_eq_nil_iff]; omega
theorem left_len (s : ByteArray) (a : Nat) : (left s a).length = s.size - a := by
  have hs : s.data.toList.length = s.size := Array.length_toList
  unfold left
  simp [hs]
/-- the next byte, or 0 -/
def seeB (s : ByteArray) (a : Nat) : UInt8 := (left s a).head?.getD 0

theorem below_dn {w : World} (n : Nat) : Below w.heap.size w (w.drewN n) := ⟨rfl, rfl, rfl, Nat.le_refl _, fun _ _ => rfl⟩
theorem Ps.kept {W W' : World} {b : Nat} {s : ByteArray} {a : Nat} {bad : Bool} (h : Ps W b s a bad) (hb : Below W.heap.size W W') : Ps W' b s a bad := At.below h hb h.lt

theorem see (b : Nat) (s : ByteArray) (a : Nat) (bad : Bool) (w : World) (h : Ps w b s a bad) (hs : s.size ≤ 1000000) (ha : a ≤ 2000000) :
    Calls Tryz.prog 78 #[.pointer (some ⟨b, 0, none⟩)] w fun e w' => e = .returned (.int .u8 ((seeB s a).toNat : Int)) ∧ Below w.heap.size w w' := by
  obtain ⟨⟨c0, c1, c2⟩, f1, f2⟩ := h.cells
  clear h
  by_cases hl : a < s.size
  · have e : seeB s a = s[a] := by unfold seeB; rw [left_cons hl]; rfl
    rw [e]
    clear e
    go_enter Tryz.func78, Tryz.ntmps78
    go_wp2
    go_quiet (fail)
    go_wp2
    go_quiet (fail)
    go_wp2
    go_ret
    exact ⟨rfl, ⟨rfl, rfl, rfl, Nat.le_refl _, fun _ _ => rfl⟩⟩
  · have e : seeB s a = 0 := by unfold seeB; rw [left_nil (by omega)]; rfl
    rw [e]
    clear e
    go_enter Tryz.func78, Tryz.ntmps78
    go_wp2
    go_quiet (fail)
    go_wp2
    go_ret
    exact ⟨rfl, ⟨rfl, rfl, rfl, Nat.le_refl _, fun _ _ => rfl⟩⟩

/-- where the reader is, off its box -/
def atOf (W : World) (b : Nat) : Nat := match W.cell? ⟨b, 1, none⟩ with | some (.int _ x) => x.toNat | _ => 0
theorem Ps.atOf {W : World} {b : Nat} {s : ByteArray} {a : Nat} {bad : Bool} (h : Ps W b s a bad) : atOf W b = a := by unfold Rule.atOf; rw [h.cells.1.2.1]; rfl

theorem gb_below {w w1 w2 : World} {b : Nat} (h : Below w.heap.size w w1) (k : w1.grownBy w2 (some b)) : w.grownBy w2 (some b) :=
  ⟨k.os.trans h.os, k.tape.trans h.tape, k.output.trans h.output, Nat.le_trans h.size k.size, fun j hj hne => (k.block j (Nat.lt_of_lt_of_le hj h.size) hne).trans (h.block j hj)⟩
theorem gb_trans {w w1 w2 : World} {b : Nat} (h : w.grownBy w1 (some b)) (k : w1.grownBy w2 (some b)) : w.grownBy w2 (some b) :=
  ⟨k.os.trans h.os, k.tape.trans h.tape, k.output.trans h.output, Nat.le_trans h.size k.size, fun j hj hne => (k.block j (Nat.lt_of_lt_of_le hj h.size) hne).trans (h.block j hj hne)⟩
theorem gb_of {w w1 : World} (b : Nat) (h : Below w.heap.size w w1) : w.grownBy w1 (some b) := ⟨h.os, h.tape, h.output, h.size, fun j hj _ => h.block j hj⟩
theorem gb_set (w : World) (b o : Nat) (u : Value) : w.grownBy (w.setCell ⟨b, o, none⟩ u) (some b) := by
  refine ⟨rfl, rfl, rfl, by simp, fun j hj hne => Below.heap_setCell w ⟨b, o, none⟩ u j (fun e => hne (by rw [e]))⟩

theorem want (b : Nat) (s : ByteArray) (a : Nat) (bad : Bool) (c : UInt8) (w : World) (h : Ps w b s a bad) (hs : s.size ≤ 1000000) (ha : a ≤ 2000000) :
    Calls Tryz.prog 81 #[.pointer (some ⟨b, 0, none⟩), .int .u8 (c.toNat : Int)] w fun e w' => e = .returned (.tuple #[]) ∧ Ps w' b s (a + 1) (bad || !(seeB s a == c)) ∧ w.grownBy w' (some b) := by
  have HP := Boxes.hide h
  clear h
  generalize hr : (bad || !(seeB s a == c)) = r
  have HR := Boxes.hide hr
  clear hr
  go_enter Tryz.func81, Tryz.ntmps81
  go_wp2_with (fail)
  refine (see b s a bad w (Boxes.unhide HP) hs ha).mono ?_
  rintro e w1 ⟨rfl, hb1⟩
  have hp1 := (Boxes.unhide HP).kept hb1
  have P1 := Boxes.hide hp1
  have HB := Boxes.hide hb1
  obtain ⟨⟨c0, c1, c2⟩, f1, f2⟩ := hp1.cells
  clear hb1 HP hp1
  generalize seeB s a = x at *
  by_cases hx : x = c
  · subst hx
    have b1 : ((x.toNat : Int) != (x.toNat : Int)) = false := by simp
    obtain rfl : bad = r := by rw [← Boxes.unhide HR]; simp
    clear HR
    go_wp2_with (fail)
    go_end0
    exact ⟨rfl, (Boxes.unhide P1).set 1 _, gb_below (Boxes.unhide HB) (gb_set _ _ _ _)⟩
  · have b1 : ((x.toNat : Int) != (c.toNat : Int)) = true := by
      simp only [bne_iff_ne, ne_eq]
      intro e; apply hx; apply UInt8.toNat_inj.1; omega
    obtain rfl : r = true := by rw [← Boxes.unhide HR]; simp [hx]
    clear HR hx
    go_wp2_with (fail)
    go_end0
    exact ⟨rfl, ((Boxes.unhide P1).set 2 _).set 1 _, gb_below (Boxes.unhide HB) (gb_trans (gb_set _ _ _ _) (gb_set _ _ _ _))⟩

/-- a world under way: the reader at a, all but its box as it was -/
def Sw (w : World) (b : Nat) (s : ByteArray) (a : Nat) (bad : Bool) (w2 : World) : Prop := Ps w2 b s a bad ∧ w.grownBy w2 (some b)
theorem Sw.see {w : World} {b : Nat} {s : ByteArray} {a : Nat} {bad : Bool} (hs : s.size ≤ 1000000) (ha : a ≤ 2000000) (g : In (Sw w b s a bad)) :
    Calls Tryz.prog 78 #[.pointer (some ⟨b, 0, none⟩)] g.x fun e w' => e = .returned (.int .u8 ((seeB s a).toNat : Int)) ∧ Sw w b s a bad w' :=
  (Rule.see b s a bad g.x g.h.1 hs ha).mono fun e w' ⟨he, hb⟩ => ⟨he, g.h.1.kept hb, gb_trans g.h.2 (gb_of _ hb)⟩

theorem left_drop (s : ByteArray) (a k : Nat) : left s (a + k) = (left s a).drop k := by
  unfold left; rw [List.drop_drop]
theorem ext_take (s : ByteArray) (a k : Nat) : (s.extract a (a + k)).data.toList = (left s a).take k := by
  unfold left
  rw [ByteArray.data_extract, Array.toList_extract]
  rw [List.extract_eq_take_drop]
  congr 1
  omega

/-- the bytes up to a stop -/
theorem take_more {s : ByteArray} {a k : Nat} (h : a + k < s.size) (hk : ∀ j, j < k → ∃ c, (left s a)[j]? = some c ∧ stopB c = false) (hc : stopB s[a + k] = false) : ∀ j, j < k + 1 → ∃ c, (left s a)[j]? = some c ∧ stopB c = false := by
  intro j hj
  by_cases e : j = k
  · subst e
    refine ⟨s[a + j], ?_, hc⟩
    have hs : s.data.toList.length = s.size := Array.length_toList
    unfold left
    rw [List.getElem?_drop, List.getElem?_eq_getElem (by omega)]
    simp; rfl
  · exact hk j (by omega)
theorem word_at {t : List UInt8} {k : Nat} (hk : ∀ j, j < k → ∃ c, t[j]? = some c ∧ stopB c = false) (he : k = t.length ∨ ∃ c, t[k]? = some c ∧ stopB c = true) : wordOf t = t.take k ∧ restOf t = t.drop k := by
  have hl : k ≤ t.length := by
    rcases he with h | ⟨c, h, _⟩
    · omega
    · have := List.getElem?_eq_some_iff.1 h; obtain ⟨h', _⟩ := this; omega
  have := word_split (w := t.take k) (r := t.drop k) (fun b hb => by
    obtain ⟨j, hj⟩ := List.getElem?_of_mem hb
    have hj' : j < k := by
      have := (List.getElem?_eq_some_iff.1 hj).1
      simp at this; omega
    obtain ⟨c, h1, h2⟩ := hk j hj'
    rw [List.getElem?_take, if_pos hj', h1] at hj
    obtain rfl := Option.some.inj hj
    exact h2) (by
    rcases he with h | ⟨c, h, hc⟩
    · exact .inl (by rw [List.drop_eq_nil_iff]; omega)
    · obtain ⟨h1, h2⟩ := List.getElem?_eq_some_iff.1 h
      exact .inr ⟨c, t.drop (k + 1), by rw [List.drop_eq_getElem_cons h1, h2], hc⟩)
  rwa [List.take_append_drop] at this

set_option maxHeartbeats 1600000 in
theorem word (b : Nat) (s : ByteArray) (a : Nat) (bad : Bool) (w : World) (h : Ps w b s a bad) (hs : s.size ≤ 1000000) (ha : a ≤ 2000000) :
    Calls Tryz.prog 79 #[.pointer (some ⟨b, 0, none⟩)] w fun e w' => ∃ x a' bad', e = .returned (.string x) ∧ Ps w' b s a' bad' ∧ w.grownBy w' (some b) ∧
      (s.size < a → bad' = true ∧ a' = a ∧ x.size = 0) ∧ (a ≤ s.size → bad' = bad ∧ x.data.toList = wordOf (left s a) ∧ left s a' = restOf (left s a) ∧ a ≤ a' ∧ a' ≤ s.size) := by
  have HP := Boxes.hide h
  obtain ⟨⟨c0, c1, c2⟩, f1, f2⟩ := h.cells
  clear h
  by_cases hl : s.size < a
  · have g1 : (s.size : Int) < (a : Int) := by omega
    go_enter Tryz.func79, Tryz.ntmps79
    go_wp2_with (fail)
    go_quiet (fail)
    go_wp2_with (fail)
    go_ret
    refine ⟨_, a, true, rfl, ?_, ?_, fun _ => ⟨rfl, rfl, rfl⟩, fun h => by omega⟩
    · exact ((Boxes.unhide HP).kept (below_dn _)).set 2 _
    · exact gb_below (below_dn _) (gb_set _ _ _ _)
  · have g1 : ¬ (s.size : Int) < (a : Int) := by omega
    go_enter Tryz.func79, Tryz.ntmps79
    go_wp2_with (fail)
    go_quiet (fail)
    go_wp2_with (fail)
    go_loopw [] (fun wr => ∃ k : Nat, a + k ≤ s.size ∧ Hid (Ps wr b s (a + k) bad) ∧ Hid (w.grownBy wr (some b)) ∧ Hid (∀ j, j < k → ∃ c, (left s a)[j]? = some c ∧ stopB c = false)) (fun wr => s.size - atOf wr b)
    case atStart => exact ⟨0, by omega, Boxes.hide ((Boxes.unhide HP).kept (below_dn _)), Boxes.hide (gb_of _ (below_dn _)), Boxes.hide (fun j hj => by omega)⟩
    case round =>
      obtain ⟨k, hk, hp, hg, hst⟩ := hrel
      have HX : Hid (Sw w b s (a + k) bad wr.drew) := Boxes.hide ⟨(Boxes.unhide hp).kept (below_dn 1), gb_trans (Boxes.unhide hg) (gb_of _ (below_dn 1))⟩
      have HME := Boxes.hide (Boxes.unhide hp).atOf
      have g0 : ∀ g : In (Sw w b s (a + k) bad), g.x.cell? ⟨b, 0, none⟩ = some (.string s) := fun g => g.h.1.cells.1.1
      have g1 : ∀ g : In (Sw w b s (a + k) bad), g.x.cell? ⟨b, 1, none⟩ = some (.int .i64 ((a + k : Nat) : Int)) := fun g => g.h.1.cells.1.2.1
      have HS : Hid (∀ g : In (Sw w b s (a + k) bad), Calls Tryz.prog 78 #[.pointer (some ⟨b, 0, none⟩)] g.x fun e w' => e = .returned (.int .u8 ((seeB s (a + k)).toNat : Int)) ∧ Sw w b s (a + k) bad w') := Boxes.hide (fun g => Sw.see hs (by omega) g)
      have HN : Hid (∀ g : In (Sw w b s (a + k) bad), Ps g.x b s (a + k) bad ∧ w.grownBy g.x (some b)) := Boxes.hide (fun g => g.h)
      generalize hA : a + k = A at *
      generalize hS : Sw w b s A bad = S at *
      by_cases hlt : A < s.size
      · have hx : seeB s A = s[A] := by unfold seeB; rw [left_cons hlt]; rfl
        have i1 : (A : Int) < (s.size : Int) := by omega
        rw [hx] at HS
        have HTM : Hid (stopB s[A] = false → ∀ j, j < k + 1 → ∃ c, (left s a)[j]? = some c ∧ stopB c = false) := Boxes.hide (fun h => by subst hA; exact take_more hlt (Boxes.unhide hst) h)
        have HDN : Hid (stopB s[A] = true → wordOf (left s a) = (left s a).take k ∧ restOf (left s a) = (left s a).drop k) := Boxes.hide (fun h => by
          subst hA
          refine word_at (Boxes.unhide hst) (.inr ⟨s[a + k], ?_, h⟩)
          have hl : s.data.toList.length = s.size := Array.length_toList
          unfold left
          rw [List.getElem?_drop, List.getElem?_eq_getElem (by omega)]
          simp; rfl)
        clear hst hp hg hx
        generalize s[A] = x at *
        cases hst : stopB x with
        | false =>
          have HT := Boxes.hide (Boxes.unhide HTM hst)
          have y32 : ((x.toNat : Int) != 32) = true := by simp only [bne_iff_ne, ne_eq]; intro e; rw [show x = 32 from UInt8.toNat_inj.1 (by simp; omega)] at hst; exact absurd hst (by decide)
          have y40 : ((x.toNat : Int) != 40) = true := by simp only [bne_iff_ne, ne_eq]; intro e; rw [show x = 40 from UInt8.toNat_inj.1 (by simp; omega)] at hst; exact absurd hst (by decide)
          have y41 : ((x.toNat : Int) != 41) = true := by simp only [bne_iff_ne, ne_eq]; intro e; rw [show x = 41 from UInt8.toNat_inj.1 (by simp; omega)] at hst; exact absurd hst (by decide)
          have y58 : ((x.toNat : Int) != 58) = true := by simp only [bne_iff_ne, ne_eq]; intro e; rw [show x = 58 from UInt8.toNat_inj.1 (by simp; omega)] at hst; exact absurd hst (by decide)
          clear HDN HTM hst
          go_wp2
          refine wp_region_in S (by kernel_rfl) (by kernel_rfl) (Boxes.unhide HX) ?_
          intro hne
          repeat (go_big_quiet_step (exact call_in _ (Boxes.unhide HS _)))
          refine wpQuiet_nil ?_
          rintro _ ⟨g, rfl⟩
          obtain ⟨hp, hg⟩ := Boxes.unhide HN g
          have HPg := Boxes.hide hp
          have HGg := Boxes.hide hg
          obtain ⟨⟨d0, d1, d2⟩, e1, e2⟩ := hp.cells
          generalize g.x = gx at *
          clear hp hg g0 g1 HS HN hne
          go_wp2
          refine ⟨⟨k + 1, by omega, ?_, Boxes.hide (gb_trans (Boxes.unhide HGg) (gb_set _ _ _ _)), HT⟩, ?_⟩
          · have := (Boxes.unhide HPg).set 1 (.int .i64 ((A : Int) + 1))
            subst hA
            exact Boxes.hide this
          · have hq : Ps (gx.setCell ⟨b, 1, none⟩ (.int .i64 ((A : Int) + 1))) b s (A + 1) bad := (Boxes.unhide HPg).set 1 (.int .i64 ((A : Int) + 1))
            have e1 := hq.atOf
            have e2 := Boxes.unhide HME
            rw [e1, e2]; omega
        | true =>
          have HD := Boxes.hide (Boxes.unhide HDN hst)
          have hc : x = 32 ∨ x = 40 ∨ x = 41 ∨ x = 58 := by
            unfold stopB at hst
            simp only [Bool.or_eq_true, beq_iff_eq] at hst
            rcases hst with ((h | h) | h) | h
            · exact .inl h
            · exact .inr (.inl h)
            · exact .inr (.inr (.inl h))
            · exact .inr (.inr (.inr h))
          clear HDN HTM
          rcases hc with hc | hc | hc | hc
          · subst hc
            have y32 : ((((32 : UInt8).toNat : Nat) : Int) != 32) = false := by decide
            have y40 : ((((32 : UInt8).toNat : Nat) : Int) != 40) = true := by decide
            have y41 : ((((32 : UInt8).toNat : Nat) : Int) != 41) = true := by decide
            have y58 : ((((32 : UInt8).toNat : Nat) : Int) != 58) = true := by decide
            clear hst
            go_wp2
            refine wp_region_in S (by kernel_rfl) (by kernel_rfl) (Boxes.unhide HX) ?_
            intro hne
            repeat (go_big_quiet_step (exact call_in _ (Boxes.unhide HS _)))
            refine wpQuiet_nil ?_
            rintro _ ⟨g, rfl⟩
            obtain ⟨hp, hg⟩ := Boxes.unhide HN g
            have HPg := Boxes.hide hp
            have HGg := Boxes.hide hg
            obtain ⟨⟨d0, d1, d2⟩, e1, e2⟩ := hp.cells
            have i3 : (a : Int) ≤ (A : Int) := by omega
            have i4 : (A : Int) ≤ (s.size : Int) := by omega
            have i5 : (0 : Int) ≤ (a : Int) := by omega
            generalize g.x = gx at *
            clear hp hg g0 g1 HS HN hne
            go_wp2
            go_quiet (fail)
            go_wp2
            go_ret
            exact ⟨s.extract a A, A, bad, rfl, (Boxes.unhide HPg).kept (below_dn _), gb_trans (Boxes.unhide HGg) (gb_of _ (below_dn _)), fun h => by omega, fun _ => ⟨rfl, (by subst hA; rw [(Boxes.unhide HD).1]; exact ext_take _ _ _), (by subst hA; rw [(Boxes.unhide HD).2]; exact left_drop _ _ _), by omega, by omega⟩⟩
          · subst hc
            have y32 : ((((40 : UInt8).toNat : Nat) : Int) != 32) = true := by decide
            have y40 : ((((40 : UInt8).toNat : Nat) : Int) != 40) = false := by decide
            have y41 : ((((40 : UInt8).toNat : Nat) : Int) != 41) = true := by decide
            have y58 : ((((40 : UInt8).toNat : Nat) : Int) != 58) = true := by decide
            clear hst
            go_wp2
            refine wp_region_in S (by kernel_rfl) (by kernel_rfl) (Boxes.unhide HX) ?_
            intro hne
            repeat (go_big_quiet_step (exact call_in _ (Boxes.unhide HS _)))
            refine wpQuiet_nil ?_
            rintro _ ⟨g, rfl⟩
            obtain ⟨hp, hg⟩ := Boxes.unhide HN g
            have HPg := Boxes.hide hp
            have HGg := Boxes.hide hg
            obtain ⟨⟨d0, d1, d2⟩, e1, e2⟩ := hp.cells
            have i3 : (a : Int) ≤ (A : Int) := by omega
            have i4 : (A : Int) ≤ (s.size : Int) := by omega
            have i5 : (0 : Int) ≤ (a : Int) := by omega
            generalize g.x = gx at *
            clear hp hg g0 g1 HS HN hne
            go_wp2
            go_quiet (fail)
            go_wp2
            go_ret
            exact ⟨s.extract a A, A, bad, rfl, (Boxes.unhide HPg).kept (below_dn _), gb_trans (Boxes.unhide HGg) (gb_of _ (below_dn _)), fun h => by omega, fun _ => ⟨rfl, (by subst hA; rw [(Boxes.unhide HD).1]; exact ext_take _ _ _), (by subst hA; rw [(Boxes.unhide HD).2]; exact left_drop _ _ _), by omega, by omega⟩⟩
          · subst hc
            have y32 : ((((41 : UInt8).toNat : Nat) : Int) != 32) = true := by decide
            have y40 : ((((41 : UInt8).toNat : Nat) : Int) != 40) = true := by decide
            have y41 : ((((41 : UInt8).toNat : Nat) : Int) != 41) = false := by decide
            have y58 : ((((41 : UInt8).toNat : Nat) : Int) != 58) = true := by decide
            clear hst
            go_wp2
            refine wp_region_in S (by kernel_rfl) (by kernel_rfl) (Boxes.unhide HX) ?_
            intro hne
            repeat (go_big_quiet_step (exact call_in _ (Boxes.unhide HS _)))
            refine wpQuiet_nil ?_
            rintro _ ⟨g, rfl⟩
            obtain ⟨hp, hg⟩ := Boxes.unhide HN g
            have HPg := Boxes.hide hp
            have HGg := Boxes.hide hg
            obtain ⟨⟨d0, d1, d2⟩, e1, e2⟩ := hp.cells
            have i3 : (a : Int) ≤ (A : Int) := by omega
            have i4 : (A : Int) ≤ (s.size : Int) := by omega
            have i5 : (0 : Int) ≤ (a : Int) := by omega
            generalize g.x = gx at *
            clear hp hg g0 g1 HS HN hne
            go_wp2
            go_quiet (fail)
            go_wp2
            go_ret
            exact ⟨s.extract a A, A, bad, rfl, (Boxes.unhide HPg).kept (below_dn _), gb_trans (Boxes.unhide HGg) (gb_of _ (below_dn _)), fun h => by omega, fun _ => ⟨rfl, (by subst hA; rw [(Boxes.unhide HD).1]; exact ext_take _ _ _), (by subst hA; rw [(Boxes.unhide HD).2]; exact left_drop _ _ _), by omega, by omega⟩⟩
          · subst hc
            have y32 : ((((58 : UInt8).toNat : Nat) : Int) != 32) = true := by decide
            have y40 : ((((58 : UInt8).toNat : Nat) : Int) != 40) = true := by decide
            have y41 : ((((58 : UInt8).toNat : Nat) : Int) != 41) = true := by decide
            have y58 : ((((58 : UInt8).toNat : Nat) : Int) != 58) = false := by decide
            clear hst
            go_wp2
            refine wp_region_in S (by kernel_rfl) (by kernel_rfl) (Boxes.unhide HX) ?_
            intro hne
            repeat (go_big_quiet_step (exact call_in _ (Boxes.unhide HS _)))
            refine wpQuiet_nil ?_
            rintro _ ⟨g, rfl⟩
            obtain ⟨hp, hg⟩ := Boxes.unhide HN g
            have HPg := Boxes.hide hp
            have HGg := Boxes.hide hg
            obtain ⟨⟨d0, d1, d2⟩, e1, e2⟩ := hp.cells
            have i3 : (a : Int) ≤ (A : Int) := by omega
            have i4 : (A : Int) ≤ (s.size : Int) := by omega
            have i5 : (0 : Int) ≤ (a : Int) := by omega
            generalize g.x = gx at *
            clear hp hg g0 g1 HS HN hne
            go_wp2
            go_quiet (fail)
            go_wp2
            go_ret
            exact ⟨s.extract a A, A, bad, rfl, (Boxes.unhide HPg).kept (below_dn _), gb_trans (Boxes.unhide HGg) (gb_of _ (below_dn _)), fun h => by omega, fun _ => ⟨rfl, (by subst hA; rw [(Boxes.unhide HD).1]; exact ext_take _ _ _), (by subst hA; rw [(Boxes.unhide HD).2]; exact left_drop _ _ _), by omega, by omega⟩⟩
      · have i1 : ¬ ((A : Int) < (s.size : Int)) := by omega
        have HD : Hid (wordOf (left s a) = (left s a).take k ∧ restOf (left s a) = (left s a).drop k) := Boxes.hide (word_at (Boxes.unhide hst) (.inl (by rw [left_len]; omega)))
        clear hst hp hg
        go_wp2
        refine wp_region_in S (by kernel_rfl) (by kernel_rfl) (Boxes.unhide HX) ?_
        intro hne
        repeat (go_big_quiet_step (exact call_in _ (Boxes.unhide HS _)))
        refine wpQuiet_nil ?_
        rintro _ ⟨g, rfl⟩
        obtain ⟨hp, hg⟩ := Boxes.unhide HN g
        have HPg := Boxes.hide hp
        have HGg := Boxes.hide hg
        obtain ⟨⟨d0, d1, d2⟩, e1, e2⟩ := hp.cells
        have i3 : (a : Int) ≤ (A : Int) := by omega
        have i4 : (A : Int) ≤ (s.size : Int) := by omega
        have i5 : (0 : Int) ≤ (a : Int) := by omega
        generalize g.x = gx at *
        clear hp hg g0 g1 HS HN hne
        go_wp2
        go_quiet (fail)
        go_wp2
        go_ret
        exact ⟨s.extract a A, A, bad, rfl, (Boxes.unhide HPg).kept (below_dn _), gb_trans (Boxes.unhide HGg) (gb_of _ (below_dn _)), fun h => by omega, fun _ => ⟨rfl, (by subst hA; rw [(Boxes.unhide HD).1]; exact ext_take _ _ _), (by subst hA; rw [(Boxes.unhide HD).2]; exact left_drop _ _ _), by omega, by omega⟩⟩
end Go.Proofs.YtnchgeiinkaefaaGreatDoor.Rule
end
