/-
  Texts of this proof laid together, in build order; each says of itself what it holds.
-/
import Derived.Shelf.Strings.Builder1
import Derived.Shelf.Strings.Builder2
import Derived.Shelf.Strings.OnBuilder
import Derived.Shelf.Small.Utf8
import Derived.Shelf.Small.Bits
import Derived.Shelf.Small.Strs
import Derived.Shelf.Small.Wraps
import Derived.Shelf.Strconv.Atoi
import Derived.Shelf.Strconv.Itoa0
import Derived.Shelf.Strconv.Itoa1
import Derived.Shelf.LaysM
import Derived.Shelf.Strconv.Itoa2
import Derived.Shelf.Strconv.Itoa3
import Derived.Shelf.Strconv.AtoiErrFast
import Derived.Shelf.Strconv.ParseIntEmpty
import Derived.Shelf.Strconv.AtoiFail
import Derived.Shelf.Strconv.Clone
import Derived.Shelf.Strconv.SyntaxError
import Derived.Shelf.LaysC
import Derived.Shelf.Strconv.ToError
import Derived.Shelf.Strconv.Lower
import Derived.Shelf.Strconv.ParseUint10
import Derived.Shelf.Strconv.ParseUint10Empty
import Derived.Shelf.Strconv.ParseUint10Any
import Derived.Shelf.Strconv.ParseInt10
import Derived.Shelf.Strconv.AtoiLong
import Derived.Shelf.Strconv.AtoiInnerAll
import Derived.Shelf.Strconv.RangeError
import Derived.Shelf.Strconv.ToErrorRange
import Derived.Shelf.Strconv.AtoiAll
import Derived.Shelf.Strconv.ErrVarAll
import Derived.Shelf.Strings.Search1
import Derived.Shelf.Strings.Search2
import Derived.Shelf.Strings.Cut
import Derived.Shelf.Strings.Shaped
import Derived.Shelf.Strings.Prefix
import Derived.Shelf.Strings.Fields
import Derived.Shelf.Unicode.Latin
import Derived.Shelf.Strings.Runes
import Derived.Shelf.Strings.IndexAny
import Derived.Shelf.Strings.AsciiSet
import Derived.Shelf.Strings.IndexAnyAll
import Derived.Shelf.Unicode.Is16White
import Derived.Shelf.Unicode.IsSpaceAny
import Derived.Shelf.Unicode.Is16WhiteD
import Derived.Shelf.Unicode.IsSpaceAnyD
import Derived.Shelf.Strings.FieldsAny
import Derived.Shelf.Strings.FieldsFuncAny
import Derived.Shelf.Unicode.Is16Any
import Derived.Shelf.Unicode.Is32Any
import Derived.Shelf.Unicode.ExclAny
import Derived.Ground.SlgmProg
import Derived.Shelf.SortM.Plain
import Derived.Shelf.SortM.SortNone
import Derived.Test.YtnchgeiinkaefaaGreatDoorProg
import Derived.WalkKit
import Derived.WalkLawsBesides
import Derived.Below
import Derived.Deep.QuietTactic
import Derived.BigQuiet
import Derived.Deep.OwnRows
import Derived.WalkMore
import Derived.Outline
import Derived.Deep.RegionHeld3
import Derived.Lib.Strings
section
/-
  DERIVED: THE SHELF's CONTRACTS AT THIS DUMP, IN PLAIN WORDS (tools/lay-plain.mjs out of 'YtnchgeiinkaefaaGreatDoorShelfX.lean', which tools/lay-shelf.mjs wrote): THE SAME DECLARATIONS UNDER THE SAME NAMES: 'import', 'namespace', 'open', 'def', 'theorem' AND NOTHING ELSE: no command of the shelf's: FOR A HAND-IN. Each laying: the table of numbers ('.._ren') and one theorem, a field a fact of the dump's own or the kernel's comparison; each contract: ONE APPLICATION.
-/
namespace Go.Proofs
open Go.Shelf
def Tryz.lays119_ren : Go.Shelf.Ren := ⟨fun | 119 => 187 | n => n, fun | 21 => 21 | 4 => 4 | n => n, fun | n => n⟩
theorem Tryz.lays119 : Go.Proofs.Lays.n119 Tryz.prog Tryz.lays119_ren := {
  mixed := by kernel_rfl
  f119 := Tryz.func187.trans (congrArg some (by kernel_rfl))
  t4 := Tryz.underlying4
  a4 := Tryz.isAgg4
  z4 := Tryz.sizeOf4
  v4 := Tryz.zeroValue4
  t21 := Tryz.underlying21
  a21 := Tryz.isAgg21
  z21 := Tryz.sizeOf21
  v21 := Tryz.zeroValue21 }
/-- utf8.ValidRune: "ValidRune reports whether r can be legally encoded as UTF-8. Code points that are out of range or a surrogate half are illegal.": IT RETURNS 'Lib.validRune r'; the world is as it was. (LAID: no walk: one application.) -/
theorem Tryz.utf8_ValidRune (r : Int) (w : World) :
    Calls Tryz.prog 187 #[.int .i32 r] w fun e w' => e = .returned (.bool (Lib.validRune r)) ∧ w' = w := Any.utf8_ValidRune Tryz.lays119 r w
def Tryz.lays137_ren : Go.Shelf.Ren := ⟨fun | 137 => 186 | 217 => 195 | 266 => 210 | n => n, fun | 9 => 9 | 5 => 5 | 3 => 3 | n => n, fun | n => n⟩
theorem Tryz.lays137 : Go.Proofs.Lays.n137 Tryz.prog Tryz.lays137_ren := {
  mixed := by kernel_rfl
  f137 := Tryz.func186.trans (congrArg some (by kernel_rfl))
  f217 := Tryz.func195.trans (congrArg some (by kernel_rfl))
  f266 := Tryz.func210.trans (congrArg some (by kernel_rfl))
  t3 := Tryz.underlying3
  a3 := Tryz.isAgg3
  z3 := Tryz.sizeOf3
  v3 := Tryz.zeroValue3
  t5 := Tryz.underlying5
  a5 := Tryz.isAgg5
  z5 := Tryz.sizeOf5
  v5 := Tryz.zeroValue5
  t9 := Tryz.underlying9
  a9 := Tryz.isAgg9
  z9 := Tryz.sizeOf9
  v9 := Tryz.zeroValue9 }
open Go.RowKit in
/-- strings.IndexByte: "IndexByte returns the index of the first instance of c in s, or -1 if c is not present in s.": IT RETURNS 'Lib.indexByte s c'; the world is as it was. (LAID: no walk: one application.) -/
theorem Tryz.strings_IndexByte (s : ByteArray) (c : Int) (w : World) :
    Calls Tryz.prog 186 #[.string s, .int .u8 c] w fun e w' => e = .returned (.int .i64 (Lib.indexByte s.data.toList c.toNat.toUInt8)) ∧ w' = w := Any.strings_IndexByte Tryz.lays137 s c w
def Tryz.lays152_ren : Go.Shelf.Ren := ⟨fun | 152 => 160 | 137 => 186 | 119 => 187 | 224 => 188 | 225 => 189 | 217 => 195 | 266 => 210 | n => n, fun | 9 => 9 | 21 => 21 | 3 => 3 | 4 => 4 | 5 => 5 | 0 => 0 | 46 => 214 | n => n, fun | n => n⟩
theorem Tryz.lays152 : Go.Proofs.Lays.n152 Tryz.prog Tryz.lays152_ren := {
  mixed := by kernel_rfl
  f119 := Tryz.func187.trans (congrArg some (by kernel_rfl))
  f137 := Tryz.func186.trans (congrArg some (by kernel_rfl))
  f152 := Tryz.func160.trans (congrArg some (by kernel_rfl))
  f217 := Tryz.func195.trans (congrArg some (by kernel_rfl))
  f224 := Tryz.func188.trans (congrArg some (by kernel_rfl))
  f225 := Tryz.func189.trans (congrArg some (by kernel_rfl))
  f266 := Tryz.func210.trans (congrArg some (by kernel_rfl))
  t0 := Tryz.underlying0
  a0 := Tryz.isAgg0
  z0 := Tryz.sizeOf0
  v0 := Tryz.zeroValue0
  t3 := Tryz.underlying3
  a3 := Tryz.isAgg3
  z3 := Tryz.sizeOf3
  v3 := Tryz.zeroValue3
  t4 := Tryz.underlying4
  a4 := Tryz.isAgg4
  z4 := Tryz.sizeOf4
  v4 := Tryz.zeroValue4
  t5 := Tryz.underlying5
  a5 := Tryz.isAgg5
  z5 := Tryz.sizeOf5
  v5 := Tryz.zeroValue5
  t9 := Tryz.underlying9
  a9 := Tryz.isAgg9
  z9 := Tryz.sizeOf9
  v9 := Tryz.zeroValue9
  t21 := Tryz.underlying21
  a21 := Tryz.isAgg21
  z21 := Tryz.sizeOf21
  v21 := Tryz.zeroValue21
  t46 := Tryz.underlying214
  a46 := Tryz.isAgg214
  z46 := Tryz.sizeOf214
  v46 := Tryz.zeroValue214 }
open Go.RowKit Go.Lib in
theorem Tryz.strings_IndexRune_ascii (s : ByteArray) (r : Int) (w : World) (h0 : 0 ≤ r) (h1 : r < 128) :
    Calls Tryz.prog 160 #[.string s, .int .i32 r] w fun e w' => e = .returned (.int .i64 (Lib.indexByte s.data.toList r.toNat.toUInt8)) ∧ w' = w := Any.strings_IndexRune_ascii Tryz.lays152 s r w h0 h1
def Tryz.lays226_ren : Go.Shelf.Ren := ⟨fun | 226 => 161 | n => n, fun | 3 => 3 | 4 => 4 | n => n, fun | n => n⟩
theorem Tryz.lays226 : Go.Proofs.Lays.n226 Tryz.prog Tryz.lays226_ren := {
  mixed := by kernel_rfl
  f226 := Tryz.func161.trans (congrArg some (by kernel_rfl))
  t3 := Tryz.underlying3
  a3 := Tryz.isAgg3
  z3 := Tryz.sizeOf3
  v3 := Tryz.zeroValue3
  t4 := Tryz.underlying4
  a4 := Tryz.isAgg4
  z4 := Tryz.sizeOf4
  v4 := Tryz.zeroValue4 }
open Go.RowKit Go.Lib in
theorem Tryz.strings_shouldUseASCIISet (n : Int) (w : World) :
    Calls Tryz.prog 161 #[.int .i64 n] w fun e w' => e = .returned (.bool (decide (8 < n))) ∧ w' = w := Any.strings_shouldUseASCIISet Tryz.lays226 n w
def Tryz.lays153_ren : Go.Shelf.Ren := ⟨fun | 153 => 134 | 152 => 160 | 226 => 161 | 227 => 162 | 228 => 163 | 137 => 186 | 119 => 187 | 224 => 188 | 225 => 189 | 217 => 195 | 266 => 210 | n => n, fun | 9 => 9 | 3 => 3 | 4 => 4 | 5 => 5 | 21 => 21 | 117 => 250 | 116 => 249 | 0 => 0 | 46 => 214 | 124 => 274 | n => n, fun | n => n⟩
theorem Tryz.lays153 : Go.Proofs.Lays.n153 Tryz.prog Tryz.lays153_ren := {
  mixed := by kernel_rfl
  f119 := Tryz.func187.trans (congrArg some (by kernel_rfl))
  f137 := Tryz.func186.trans (congrArg some (by kernel_rfl))
  f152 := Tryz.func160.trans (congrArg some (by kernel_rfl))
  f153 := Tryz.func134.trans (congrArg some (by kernel_rfl))
  f217 := Tryz.func195.trans (congrArg some (by kernel_rfl))
  f224 := Tryz.func188.trans (congrArg some (by kernel_rfl))
  f225 := Tryz.func189.trans (congrArg some (by kernel_rfl))
  f226 := Tryz.func161.trans (congrArg some (by kernel_rfl))
  f227 := Tryz.func162.trans (congrArg some (by kernel_rfl))
  f228 := Tryz.func163.trans (congrArg some (by kernel_rfl))
  f266 := Tryz.func210.trans (congrArg some (by kernel_rfl))
  t0 := Tryz.underlying0
  a0 := Tryz.isAgg0
  z0 := Tryz.sizeOf0
  v0 := Tryz.zeroValue0
  t3 := Tryz.underlying3
  a3 := Tryz.isAgg3
  z3 := Tryz.sizeOf3
  v3 := Tryz.zeroValue3
  t4 := Tryz.underlying4
  a4 := Tryz.isAgg4
  z4 := Tryz.sizeOf4
  v4 := Tryz.zeroValue4
  t5 := Tryz.underlying5
  a5 := Tryz.isAgg5
  z5 := Tryz.sizeOf5
  v5 := Tryz.zeroValue5
  t9 := Tryz.underlying9
  a9 := Tryz.isAgg9
  z9 := Tryz.sizeOf9
  v9 := Tryz.zeroValue9
  t21 := Tryz.underlying21
  a21 := Tryz.isAgg21
  z21 := Tryz.sizeOf21
  v21 := Tryz.zeroValue21
  t46 := Tryz.underlying214
  a46 := Tryz.isAgg214
  z46 := Tryz.sizeOf214
  v46 := Tryz.zeroValue214
  t116 := Tryz.underlying249
  a116 := Tryz.isAgg249
  z116 := Tryz.sizeOf249
  t117 := Tryz.underlying250
  a117 := Tryz.isAgg250
  z117 := Tryz.sizeOf250
  v117 := Tryz.zeroValue250
  t124 := Tryz.underlying274
  a124 := Tryz.isAgg274
  z124 := Tryz.sizeOf274
  v124 := Tryz.zeroValue274 }
open Go.RowKit Go.Lib in
theorem Tryz.strings_IndexAny_long (hv116 : ∀ w, (zeroValue 249).run Tryz.prog w = .ok (.agg (Array.replicate 256 (.bool false))) w) (s chars : ByteArray) (w : World) (h2 : 2 ≤ chars.size) (h8 : 8 < s.size) (hs : s.size < 4294967281) (hcs : chars.size < 4294967281) (hascii : ∀ (j : Nat) b, chars.data.toList[j]? = some b → b.toNat < 128) :
    Calls Tryz.prog 134 #[.string s, .string chars] w fun e w' => e = .returned (.int .i64 (Lib.indexAny s.data.toList chars.data.toList)) ∧ w' = ((w.alloc (.cells (Lib.setCells chars.data.toList) 249)).alloc (.cells (Lib.setCells chars.data.toList) 249)) := Any.strings_IndexAny_long Tryz.lays153 hv116 (by kernel_rfl) s chars w h2 h8 hs hcs hascii
open Go.RowKit Go.Lib in
/-- strings.IndexAny ON ASCII BYTES: the four roads under one statement. (LAID: no walk: one application.) -/
theorem Tryz.strings_IndexAny (hv116 : ∀ w, (zeroValue 249).run Tryz.prog w = .ok (.agg (Array.replicate 256 (.bool false))) w) (s chars : ByteArray) (w : World) (hs : s.size < 4294967281) (hcs : chars.size < 4294967281) (has : ∀ (j : Nat) b, s.data.toList[j]? = some b → b.toNat < 128) (hac : ∀ (j : Nat) b, chars.data.toList[j]? = some b → b.toNat < 128) :
    Calls Tryz.prog 134 #[.string s, .string chars] w fun e w' => e = .returned (.int .i64 (Lib.indexAny s.data.toList chars.data.toList)) ∧ Below w.heap.size w w' := Any.strings_IndexAny Tryz.lays153 hv116 (by kernel_rfl) s chars w hs hcs has hac
end Go.Proofs
end

section
/-
  Slices of steps (two numbers) in memory, and the laws' own helpers on them: size, copy, compare.
-/
namespace Go.Proofs.YtnchgeiinkaefaaGreatDoor.Tiers
set_option linter.unusedVariables false
open Go.RowKit

theorem hide {p : Prop} (h : p) : Hid p := h
theorem unhide {p : Prop} (h : Hid p) : p := h

abbrev T := Int × Int
abbrev T0 : T := (0, 0)

/-- from o on block b holds the steps l -/
def TC (W : World) (b o : Nat) (l : List T) : Prop := b < W.heap.size ∧ ∀ i, i < l.length → W.cell? ⟨b, o + i * 2, none⟩ = some (.int .i64 (l.getD i T0).1) ∧ W.cell? ⟨b, o + i * 2 + 1, none⟩ = some (.int .i64 (l.getD i T0).2)

/-- the slice v holds the steps l -/
def TR (W : World) (v : Value) (l : List T) : Prop :=
  (l = [] ∧ ∃ a c, v = .slice a 0 c) ∨ ∃ b o cap, v = .slice (some ⟨b, o, none⟩) l.length cap ∧ TC W b o l

theorem TC.kept {W W' : World} {b o : Nat} {l : List T} (h : TC W b o l) (hb : Below W.heap.size W W') : TC W' b o l :=
  ⟨Nat.lt_of_lt_of_le h.1 hb.size, fun i hi => ⟨(hb.cell (p := ⟨b, o + i * 2, none⟩) h.1).trans (h.2 i hi).1, (hb.cell (p := ⟨b, o + i * 2 + 1, none⟩) h.1).trans (h.2 i hi).2⟩⟩
theorem TR.kept {W W' : World} {v : Value} {l : List T} (h : TR W v l) (hb : Below W.heap.size W W') : TR W' v l := by
  rcases h with h | ⟨b, o, cap, rfl, hc⟩
  · exact .inl h
  · exact .inr ⟨b, o, cap, rfl, hc.kept hb⟩
theorem below_trans {w w1 w2 : World} (h : Below w.heap.size w w1) (k : Below w1.heap.size w1 w2) : Below w.heap.size w w2 := h.trans (k.mono h.size)

/-! ### The copy -/

/-- a row of steps of the call's own: block b holds l, nothing of it is frozen -/
def TOwn (W : World) (b : Nat) (l : List T) : Prop := TC W b 0 l ∧ ∀ j, W.frozen? ⟨b, j, none⟩ = false

theorem TOwn.set {W : World} {b : Nat} {l : List T} (h : TOwn W b l) {k : Nat} (hk : k < l.length) (x : T) :
    TOwn ((W.setCell ⟨b, 0 + k * 2, none⟩ (.int .i64 x.1)).setCell ⟨b, 0 + k * 2 + 1, none⟩ (.int .i64 x.2)) b (l.set k x) := by
  refine ⟨⟨by simpa using h.1.1, fun i hi => ?_⟩, fun j => by simpa [World.frozen?_setCell] using h.2 j⟩
  have hi' : i < l.length := by simpa using hi
  obtain ⟨c0, c1⟩ := h.1.2 i hi'
  by_cases e : i = k
  · subst e
    rw [List.getD_eq_getElem?_getD, List.getElem?_set_self hi']
    refine ⟨?_, ?_⟩
    · rw [World.cell?_setCell_other _ _ _ _ (by simp)]
      exact World.cell?_setCell_same _ _ _ c0
    · exact World.cell?_setCell_same _ _ _ (by rw [World.cell?_setCell_other _ _ _ _ (by simp)]; exact c1)
  · rw [World.cell?_setCell_other _ _ _ _ (by simp), World.cell?_setCell_other _ _ _ _ (by simp), World.cell?_setCell_other _ _ _ _ (by simp), World.cell?_setCell_other _ _ _ _ (by simp), c0, c1, List.getD_eq_getElem?_getD, List.getD_eq_getElem?_getD, List.getElem?_set_ne (by omega)]
    exact ⟨rfl, rfl⟩

theorem TOwn.kept {W W' : World} {b : Nat} {l : List T} (h : TOwn W b l) (hb : Below W.heap.size W W') : TOwn W' b l :=
  ⟨h.1.kept hb, fun j => (hb.frozen (p := ⟨b, j, none⟩) h.1.1).trans (h.2 j)⟩

theorem infoT : (Tryz.prog.info? 184).map (fun i => (i.zero, i.size, i.bytes)) = some (some (.agg #[.int .i64 0, .int .i64 0]), 2, 16) := by kernel_rfl

theorem TOwn.made (w : World) (n : Nat) (t : TypeId) : TOwn (w.alloc (.cells (madeCells #[.int .i64 0, .int .i64 0] (n * 2)) t)) w.heap.size (List.replicate n T0) := by
  have e1 := (MapKept.heap_alloc w (.cells (madeCells #[.int .i64 0, .int .i64 0] (n * 2)) t)).1
  refine ⟨⟨by simp, fun i hi => ?_⟩, fun j => ?_⟩
  · have hi' : i < n := by simpa using hi
    have m0 : i * 2 % 2 = 0 := by omega
    have m1 : (i * 2 + 1) % 2 = 1 := by omega
    have l0 : i * 2 < n * 2 := by omega
    have l1 : i * 2 + 1 < n * 2 := by omega
    simp only [World.cell?]
    rw [e1]
    constructor
    · simp [madeCells, hi', l0, m0]
    · simp [madeCells, hi', l1, m1]
  · simp only [World.frozen?]
    rw [e1]; simp

theorem copy_step (l : List T) (k : Nat) (h : k < l.length) : (l.take k ++ List.replicate (l.length - k) T0).set k (l.getD k T0) = l.take (k + 1) ++ List.replicate (l.length - (k + 1)) T0 := by
  have e : l.length - k = (l.length - (k + 1)) + 1 := by omega
  rw [e, List.replicate_succ, List.set_append_right _ _ (by simp; omega)]
  have e2 : k - (l.take k).length = 0 := by simp; omega
  rw [e2, List.set_cons_zero]
  have e3 : l.take (k + 1) = l.take k ++ [l.getD k T0] := by rw [List.take_add_one, List.getElem?_eq_getElem h]; simp [List.getD, h]
  rw [e3, List.append_assoc]; rfl

theorem below_drewN' {B : Nat} {a w : World} (h : Below B a w) (k : Nat) : Below B a (w.drewN k) := ⟨h.os, h.tape, h.output, h.size, h.block⟩
theorem below_of_drew {B : Nat} {a w : World} (h : Below B a.drew w) : Below B a w := ⟨h.os, h.tape, h.output, h.size, h.block⟩
end Go.Proofs.YtnchgeiinkaefaaGreatDoor.Tiers
end

section
/-
  Expressions of tariffs as plain data; no program in it.
-/
namespace Go.Proofs.YtnchgeiinkaefaaGreatDoor.Rule
set_option linter.unusedVariables false

/-- an expression -/
inductive Ex where
  | mk (kind num : Int) (meter : ByteArray) (kids : List Ex) (tiers : List (Int × Int))

namespace Ex
def kind : Ex → Int | .mk k _ _ _ _ => k
def num : Ex → Int | .mk _ n _ _ _ => n
def meter : Ex → ByteArray | .mk _ _ m _ _ => m
def kids : Ex → List Ex | .mk _ _ _ ks _ => ks
def tiers : Ex → List (Int × Int) | .mk _ _ _ _ ts => ts
end Ex

def E0 : Ex := .mk 0 0 ByteArray.empty [] []

mutual
/-- how many expressions -/
def cnt : Ex → Nat | .mk _ _ _ ks _ => 1 + cntL ks
def cntL : List Ex → Nat | [] => 0 | e :: es => cnt e + cntL es
end
mutual
/-- how deep -/
def dep : Ex → Nat | .mk _ _ _ ks _ => depL ks + 1
def depL : List Ex → Nat | [] => 0 | e :: es => max (dep e) (depL es)
end
mutual
/-- how much of it there is: letters, kids and steps -/
def wt : Ex → Nat | .mk _ _ m ks ts => m.size + wtL ks + ts.length
def wtS : List Ex → Nat | [] => 0 | e :: es => wt e + wtS es
/-- .. of a list: its elements count, too -/
def wtL : List Ex → Nat | [] => 0 | e :: es => 1 + wt e + wtL es
end

theorem cnt_eq (e : Ex) : cnt e = 1 + cntL e.kids := by cases e; rfl
theorem dep_eq (e : Ex) : dep e = depL e.kids + 1 := by cases e; rfl
theorem wt_eq (e : Ex) : wt e = e.meter.size + wtL e.kids + e.tiers.length := by cases e; rfl
theorem wtL_eq : ∀ l : List Ex, wtL l = l.length + wtS l
  | [] => rfl
  | e :: es => by rw [wtL, wtS, wtL_eq es]; simp; omega

theorem take_at {l : List Ex} {k : Nat} (h : k < l.length) : l.take (k + 1) = l.take k ++ [l.getD k E0] := by
  rw [List.take_add_one, List.getElem?_eq_getElem h]; simp [List.getD, h]
theorem wtS_append : ∀ a b : List Ex, wtS (a ++ b) = wtS a + wtS b
  | [], b => by simp [wtS]
  | e :: es, b => by rw [List.cons_append, wtS, wtS, wtS_append es b]; omega
theorem wtS_take {l : List Ex} {k : Nat} (h : k < l.length) : wtS (l.take (k + 1)) = wtS (l.take k) + wt (l.getD k E0) := by
  rw [take_at h, wtS_append]; simp [wtS]
theorem wtS_le (l : List Ex) (k : Nat) : wtS (l.take k) ≤ wtS l := by
  have h := wtS_append (l.take k) (l.drop k)
  rw [List.take_append_drop] at h
  omega
theorem wt_at {l : List Ex} {k : Nat} (h : k < l.length) : wt (l.getD k E0) + l.length ≤ wtL l := by
  have h1 := wtS_take h
  have h2 := wtS_le l (k + 1)
  rw [wtL_eq]; omega
theorem cntL_append : ∀ a b : List Ex, cntL (a ++ b) = cntL a + cntL b
  | [], b => by simp [cntL]
  | e :: es, b => by rw [List.cons_append, cntL, cntL, cntL_append es b]; omega
theorem cntL_take {l : List Ex} {k : Nat} (h : k < l.length) : cntL (l.take (k + 1)) = cntL (l.take k) + cnt (l.getD k E0) := by
  rw [take_at h, cntL_append]; simp [cntL]
theorem cntL_le (l : List Ex) (k : Nat) : cntL (l.take k) ≤ cntL l := by
  have h := cntL_append (l.take k) (l.drop k)
  rw [List.take_append_drop] at h
  omega
theorem depL_append : ∀ a b : List Ex, depL (a ++ b) = max (depL a) (depL b)
  | [], b => by simp [depL]
  | e :: es, b => by rw [List.cons_append, depL, depL, depL_append es b]; omega
theorem depL_take {l : List Ex} {k : Nat} (h : k < l.length) : depL (l.take (k + 1)) = max (depL (l.take k)) (dep (l.getD k E0)) := by
  rw [take_at h, depL_append]; simp [depL]
theorem depL_le (l : List Ex) (k : Nat) : depL (l.take k) ≤ depL l := by
  have h := depL_append (l.take k) (l.drop k)
  rw [List.take_append_drop] at h
  omega
mutual
theorem cnt_wt : ∀ e : Ex, cnt e ≤ 1 + wt e
  | .mk k n m ks ts => by rw [cnt, wt]; have := cntL_wt ks; omega
theorem cntL_wt : ∀ l : List Ex, cntL l ≤ wtL l
  | [] => by simp [cntL, wtL]
  | e :: es => by rw [cntL, wtL]; have := cnt_wt e; have := cntL_wt es; omega
end
mutual
theorem dep_cnt : ∀ e : Ex, dep e ≤ cnt e
  | .mk k n m ks ts => by rw [cnt, dep]; have := depL_cnt ks; omega
theorem depL_cnt : ∀ l : List Ex, depL l ≤ cntL l
  | [] => by simp [cntL, depL]
  | e :: es => by rw [cntL, depL]; have := dep_cnt e; have := depL_cnt es; omega
end
end Go.Proofs.YtnchgeiinkaefaaGreatDoor.Rule
end

section
/-
  Expressions in memory, and the laws' own helpers on them: size, copy, compare.
-/
namespace Go.Proofs.YtnchgeiinkaefaaGreatDoor.Rule
set_option linter.unusedVariables false
open Go.RowKit Tiers

/-- the slice v holds the steps l, in a block from lo on and below hi -/
def TL (lo hi : Nat) (W : World) (v : Value) (l : List T) : Prop :=
  (l = [] ∧ ∃ a c, v = .slice a 0 c) ∨ ∃ b o cap, v = .slice (some ⟨b, o, none⟩) l.length cap ∧ lo ≤ b ∧ b < hi ∧ ∀ i, i < l.length → W.cell? ⟨b, o + i * 2, none⟩ = some (.int .i64 (l.getD i T0).1) ∧ W.cell? ⟨b, o + i * 2 + 1, none⟩ = some (.int .i64 (l.getD i T0).2)

theorem lt_of_cell {W : World} {b o : Nat} {v : Value} (h : W.cell? ⟨b, o, none⟩ = some v) : b < W.heap.size := by
  refine Nat.lt_of_not_le fun hn => ?_
  have h2 : W.heap[b]? = none := by simp; omega
  simp [World.cell?, h2] at h
theorem TL.toTR {lo hi : Nat} {W : World} {v : Value} {l : List T} (h : TL lo hi W v l) : TR W v l := by
  rcases h with h | ⟨b, o, cap, rfl, _, _, hc⟩
  · exact .inl h
  · by_cases h0 : l.length = 0
    · exact .inl ⟨List.length_eq_zero_iff.1 h0, _, cap, by rw [h0]⟩
    · exact .inr ⟨b, o, cap, rfl, lt_of_cell (hc 0 (by omega)).1, hc⟩
/-- W' is as W was from block lo on and below hi -/
def Same (lo hi : Nat) (W W' : World) : Prop := ∀ b, lo ≤ b → b < hi → W'.heap[b]? = W.heap[b]?
theorem TL.kept {lo hi : Nat} {W W' : World} {v : Value} {l : List T} (h : TL lo hi W v l) (hs : Same lo hi W W') : TL lo hi W' v l := by
  rcases h with h | ⟨b, o, cap, rfl, h1, h2, hc⟩
  · exact .inl h
  · exact .inr ⟨b, o, cap, rfl, h1, h2, fun i hi => ⟨(World.cell?_of_block (w := W) (hs b h1 h2)).trans (hc i hi).1, (World.cell?_of_block (w := W) (hs b h1 h2)).trans (hc i hi).2⟩⟩
theorem TL.mono {lo hi lo' hi' : Nat} {W : World} {v : Value} {l : List T} (h : TL lo hi W v l) (h1 : lo' ≤ lo) (h2 : hi ≤ hi') : TL lo' hi' W v l := by
  rcases h with h | ⟨b, o, cap, rfl, k1, k2, hc⟩
  · exact .inl h
  · exact .inr ⟨b, o, cap, rfl, by omega, by omega, hc⟩

/-- the slice v holds the expressions l: d deep at most, all in blocks from lo on and below hi -/
def ES (lo hi : Nat) (W : World) : Nat → Value → List Ex → Prop
  | 0, v, l => l = [] ∧ ∃ a c, v = .slice a 0 c
  | d + 1, v, l => (l = [] ∧ ∃ a c, v = .slice a 0 c) ∨ ∃ b o cap, v = .slice (some ⟨b, o, none⟩) l.length cap ∧ l.length ≤ maxLen ∧ lo ≤ b ∧ b < hi ∧ ∀ i, i < l.length →
      ∃ kv tv, (W.cell? ⟨b, o + i * 5, none⟩ = some (.int .i64 (l.getD i E0).kind) ∧ W.cell? ⟨b, o + i * 5 + 1, none⟩ = some (.int .i64 (l.getD i E0).num) ∧ W.cell? ⟨b, o + i * 5 + 2, none⟩ = some (.string (l.getD i E0).meter) ∧
        W.cell? ⟨b, o + i * 5 + 3, none⟩ = some kv ∧ W.cell? ⟨b, o + i * 5 + 4, none⟩ = some tv) ∧
        ((l.getD i E0).meter.size ≤ maxLen ∧ (l.getD i E0).tiers.length ≤ maxLen) ∧ ES lo hi W d kv (l.getD i E0).kids ∧ TL lo hi W tv (l.getD i E0).tiers
/-- the value v is the expression e -/
def EV (lo hi : Nat) (W : World) (d : Nat) (v : Value) (e : Ex) : Prop :=
  ∃ kv tv, v = .agg #[.int .i64 e.kind, .int .i64 e.num, .string e.meter, kv, tv] ∧ (e.meter.size ≤ maxLen ∧ e.tiers.length ≤ maxLen) ∧ ES lo hi W d kv e.kids ∧ TL lo hi W tv e.tiers

theorem ES.form {lo hi : Nat} {W : World} {d : Nat} {v : Value} {l : List Ex} (h : ES lo hi W d v l) : ∃ a c, v = .slice a l.length c ∧ l.length ≤ maxLen := by
  cases d with
  | zero => obtain ⟨rfl, a, c, rfl⟩ := h; exact ⟨a, c, rfl, by simp⟩
  | succ d =>
    rcases h with ⟨rfl, a, c, rfl⟩ | ⟨b, o, cap, rfl, hl, _⟩
    · exact ⟨a, c, rfl, by simp⟩
    · exact ⟨_, _, rfl, hl⟩
theorem ES.kept {lo hi : Nat} {W W' : World} (hs : Same lo hi W W') : ∀ {d : Nat} {v : Value} {l : List Ex}, ES lo hi W d v l → ES lo hi W' d v l := by
  intro d
  induction d with
  | zero => intro v l h; exact h
  | succ d ih =>
    intro v l h
    rcases h with h | ⟨b, o, cap, rfl, hl, h1, h2, hc⟩
    · exact .inl h
    · refine .inr ⟨b, o, cap, rfl, hl, h1, h2, fun i hi => ?_⟩
      obtain ⟨kv, tv, ⟨c0, c1, c2, c3, c4⟩, hz, hk, ht⟩ := hc i hi
      have hb := hs b h1 h2
      exact ⟨kv, tv, ⟨(World.cell?_of_block (w := W) hb).trans c0, (World.cell?_of_block (w := W) hb).trans c1, (World.cell?_of_block (w := W) hb).trans c2, (World.cell?_of_block (w := W) hb).trans c3, (World.cell?_of_block (w := W) hb).trans c4⟩, hz, ih hk, ht.kept hs⟩
theorem ES.mono {lo hi lo' hi' : Nat} {W : World} (h1 : lo' ≤ lo) (h2 : hi ≤ hi') : ∀ {d : Nat} {v : Value} {l : List Ex}, ES lo hi W d v l → ES lo' hi' W d v l := by
  intro d
  induction d with
  | zero => intro v l h; exact h
  | succ d ih =>
    intro v l h
    rcases h with h | ⟨b, o, cap, rfl, hl, k1, k2, hc⟩
    · exact .inl h
    · refine .inr ⟨b, o, cap, rfl, hl, by omega, by omega, fun i hi => ?_⟩
      obtain ⟨kv, tv, hcs, hz, hk, ht⟩ := hc i hi
      exact ⟨kv, tv, hcs, hz, ih hk, ht.mono h1 h2⟩
theorem EV.kept {lo hi : Nat} {W W' : World} {d : Nat} {v : Value} {e : Ex} (h : EV lo hi W d v e) (hs : Same lo hi W W') : EV lo hi W' d v e := by
  obtain ⟨kv, tv, rfl, hz, hk, ht⟩ := h
  exact ⟨kv, tv, rfl, hz, hk.kept hs, ht.kept hs⟩
theorem EV.mono {lo hi lo' hi' : Nat} {W : World} {d : Nat} {v : Value} {e : Ex} (h : EV lo hi W d v e) (h1 : lo' ≤ lo) (h2 : hi ≤ hi') : EV lo' hi' W d v e := by
  obtain ⟨kv, tv, rfl, hz, hk, ht⟩ := h
  exact ⟨kv, tv, rfl, hz, hk.mono h1 h2, ht.mono h1 h2⟩
theorem same_below {lo hi : Nat} {W W' : World} (hb : Below W.heap.size W W') (h : hi ≤ W.heap.size) : Same lo hi W W' := fun b _ h2 => hb.block b (by omega)
theorem same_trans {lo hi : Nat} {A B C : World} (h : Same lo hi A B) (k : Same lo hi B C) : Same lo hi A C := fun b h1 h2 => (k b h1 h2).trans (h b h1 h2)
/-! ### size -/

theorem new5 (w : World) (a b c d e : Value) (t : TypeId) : (w.alloc (.cells #[a, b, c, d, e] t)).cell? ⟨w.heap.size, 0, none⟩ = some a ∧ (w.alloc (.cells #[a, b, c, d, e] t)).cell? ⟨w.heap.size, 1, none⟩ = some b ∧ (w.alloc (.cells #[a, b, c, d, e] t)).cell? ⟨w.heap.size, 2, none⟩ = some c ∧
    (w.alloc (.cells #[a, b, c, d, e] t)).cell? ⟨w.heap.size, 3, none⟩ = some d ∧ (w.alloc (.cells #[a, b, c, d, e] t)).cell? ⟨w.heap.size, 4, none⟩ = some e := by
  have e1 := (MapKept.heap_alloc w (.cells #[a, b, c, d, e] t)).1
  simp only [World.cell?]
  rw [e1]; simp
/-- a boxed expression, behind a call that kept what there was -/
theorem box5 (w w1 : World) (a b c d e : Value) (t : TypeId) (hb : Below (w.alloc (.cells #[a, b, c, d, e] t)).heap.size (w.alloc (.cells #[a, b, c, d, e] t)) w1) :
    w1.cell? ⟨w.heap.size, 0, none⟩ = some a ∧ w1.cell? ⟨w.heap.size, 1, none⟩ = some b ∧ w1.cell? ⟨w.heap.size, 2, none⟩ = some c ∧ w1.cell? ⟨w.heap.size, 3, none⟩ = some d ∧ w1.cell? ⟨w.heap.size, 4, none⟩ = some e ∧ Below w.heap.size w w1 := by
  obtain ⟨n0, n1, n2, n3, n4⟩ := new5 w a b c d e t
  exact ⟨(hb.cell (p := ⟨w.heap.size, 0, none⟩) (by simp)).trans n0, (hb.cell (p := ⟨w.heap.size, 1, none⟩) (by simp)).trans n1, (hb.cell (p := ⟨w.heap.size, 2, none⟩) (by simp)).trans n2, (hb.cell (p := ⟨w.heap.size, 3, none⟩) (by simp)).trans n3, (hb.cell (p := ⟨w.heap.size, 4, none⟩) (by simp)).trans n4,
    ((Below.refl _ w).alloc (Nat.le_refl _) _).trans (hb.mono (by simp))⟩
theorem below_alloc (w : World) (o : Obj) : Below w.heap.size w (w.alloc o) := (Below.refl _ _).alloc (Nat.le_refl _) o

end Go.Proofs.YtnchgeiinkaefaaGreatDoor.Rule
end

section
/-
  Expressions in memory: the copy.
-/
namespace Go.Proofs.YtnchgeiinkaefaaGreatDoor.Rule
set_option linter.unusedVariables false
open Go.RowKit Tiers


/-! ### the copy of expressions -/

/-- element i of the row in block g, whose cells are not frozen: five cells -/
def Cell5 (W : World) (g i : Nat) (a b c d e : Value) : Prop := W.cell? ⟨g, i * 5, none⟩ = some a ∧ W.cell? ⟨g, i * 5 + 1, none⟩ = some b ∧ W.cell? ⟨g, i * 5 + 2, none⟩ = some c ∧ W.cell? ⟨g, i * 5 + 3, none⟩ = some d ∧ W.cell? ⟨g, i * 5 + 4, none⟩ = some e
/-- the world with element k of the row in block g turned -/
def set5 (W : World) (g k : Nat) (a b c d e : Value) : World := ((((W.setCell ⟨g, k * 5, none⟩ a).setCell ⟨g, k * 5 + 1, none⟩ b).setCell ⟨g, k * 5 + 2, none⟩ c).setCell ⟨g, k * 5 + 3, none⟩ d).setCell ⟨g, k * 5 + 4, none⟩ e

theorem cell5_kept {W W' : World} {g i : Nat} {a b c d e : Value} (h : Cell5 W g i a b c d e) (hb : W'.heap[g]? = W.heap[g]?) : Cell5 W' g i a b c d e :=
  ⟨(World.cell?_of_block (w := W) hb).trans h.1, (World.cell?_of_block (w := W) hb).trans h.2.1, (World.cell?_of_block (w := W) hb).trans h.2.2.1, (World.cell?_of_block (w := W) hb).trans h.2.2.2.1, (World.cell?_of_block (w := W) hb).trans h.2.2.2.2⟩
theorem off_ne {g x y : Nat} (h : x ≠ y) : (⟨g, x, none⟩ : Addr) ≠ ⟨g, y, none⟩ := fun e => h (congrArg Addr.off e)
theorem set5_far {W : World} {g k x : Nat} {a b c d e : Value} (h : x < k * 5 ∨ k * 5 + 5 ≤ x) : (set5 W g k a b c d e).cell? ⟨g, x, none⟩ = W.cell? ⟨g, x, none⟩ := by
  unfold set5
  rw [World.cell?_setCell_other _ _ _ _ (off_ne (by omega)), World.cell?_setCell_other _ _ _ _ (off_ne (by omega)), World.cell?_setCell_other _ _ _ _ (off_ne (by omega)), World.cell?_setCell_other _ _ _ _ (off_ne (by omega)), World.cell?_setCell_other _ _ _ _ (off_ne (by omega))]
theorem set5_other {W : World} {g k i : Nat} {a b c d e a' b' c' d' e' : Value} (h : Cell5 W g i a b c d e) (hi : i ≠ k) : Cell5 (set5 W g k a' b' c' d' e') g i a b c d e :=
  ⟨(set5_far (by omega)).trans h.1, (set5_far (by omega)).trans h.2.1, (set5_far (by omega)).trans h.2.2.1, (set5_far (by omega)).trans h.2.2.2.1, (set5_far (by omega)).trans h.2.2.2.2⟩
theorem set5_at {W : World} {g k : Nat} {a b c d e a' b' c' d' e' : Value} (h : Cell5 W g k a b c d e) : Cell5 (set5 W g k a' b' c' d' e') g k a' b' c' d' e' := by
  obtain ⟨h0, h1, h2, h3, h4⟩ := h
  unfold Cell5 set5
  refine ⟨?_, ?_, ?_, ?_, ?_⟩
  · rw [World.cell?_setCell_other _ _ _ _ (off_ne (by omega)), World.cell?_setCell_other _ _ _ _ (off_ne (by omega)), World.cell?_setCell_other _ _ _ _ (off_ne (by omega)), World.cell?_setCell_other _ _ _ _ (off_ne (by omega))]
    exact World.cell?_setCell_same _ _ _ h0
  · rw [World.cell?_setCell_other _ _ _ _ (off_ne (by omega)), World.cell?_setCell_other _ _ _ _ (off_ne (by omega)), World.cell?_setCell_other _ _ _ _ (off_ne (by omega))]
    exact World.cell?_setCell_same _ _ _ (by rw [World.cell?_setCell_other _ _ _ _ (off_ne (by omega))]; exact h1)
  · rw [World.cell?_setCell_other _ _ _ _ (off_ne (by omega)), World.cell?_setCell_other _ _ _ _ (off_ne (by omega))]
    exact World.cell?_setCell_same _ _ _ (by rw [World.cell?_setCell_other _ _ _ _ (off_ne (by omega)), World.cell?_setCell_other _ _ _ _ (off_ne (by omega))]; exact h2)
  · rw [World.cell?_setCell_other _ _ _ _ (off_ne (by omega))]
    exact World.cell?_setCell_same _ _ _ (by rw [World.cell?_setCell_other _ _ _ _ (off_ne (by omega)), World.cell?_setCell_other _ _ _ _ (off_ne (by omega)), World.cell?_setCell_other _ _ _ _ (off_ne (by omega))]; exact h3)
  · exact World.cell?_setCell_same _ _ _ (by rw [World.cell?_setCell_other _ _ _ _ (off_ne (by omega)), World.cell?_setCell_other _ _ _ _ (off_ne (by omega)), World.cell?_setCell_other _ _ _ _ (off_ne (by omega)), World.cell?_setCell_other _ _ _ _ (off_ne (by omega))]; exact h4)
theorem set5_block (W : World) (g k : Nat) (a b c d e : Value) (j : Nat) (h : j ≠ g) : (set5 W g k a b c d e).heap[j]? = W.heap[j]? := by
  unfold set5
  rw [Below.heap_setCell _ _ _ _ (by simpa using h), Below.heap_setCell _ _ _ _ (by simpa using h), Below.heap_setCell _ _ _ _ (by simpa using h), Below.heap_setCell _ _ _ _ (by simpa using h), Below.heap_setCell _ _ _ _ (by simpa using h)]
theorem set5_frozen (W : World) (g k : Nat) (a b c d e : Value) (p : Addr) : (set5 W g k a b c d e).frozen? p = W.frozen? p := by
  unfold set5; simp only [World.frozen?_setCell]
theorem set5_size (W : World) (g k : Nat) (a b c d e : Value) : (set5 W g k a b c d e).heap.size = W.heap.size := by
  unfold set5; simp
/-- the row in block g of the copy, k elements of l being done -/
def ECopy (W : World) (g d k : Nat) (l : List Ex) : Prop := g < W.heap.size ∧ (∀ j, W.frozen? ⟨g, j, none⟩ = false) ∧ (∀ i, i < l.length → ∃ a b c d e, Cell5 W g i a b c d e) ∧
  ∀ i, i < k → ∃ kv tv, Cell5 W g i (.int .i64 (l.getD i E0).kind) (.int .i64 (l.getD i E0).num) (.string (l.getD i E0).meter) kv tv ∧ ((l.getD i E0).meter.size ≤ maxLen ∧ (l.getD i E0).tiers.length ≤ maxLen) ∧ ES (g + 1) W.heap.size W d kv (l.getD i E0).kids ∧ TL (g + 1) W.heap.size W tv (l.getD i E0).tiers

theorem ECopy.kept {W W' : World} {g d k : Nat} {l : List Ex} (h : ECopy W g d k l) (hb : Below W.heap.size W W') : ECopy W' g d k l := by
  obtain ⟨h1, h2, h3, h4⟩ := h
  have hg := hb.block g h1
  refine ⟨Nat.lt_of_lt_of_le h1 hb.size, fun j => (hb.frozen (p := ⟨g, j, none⟩) h1).trans (h2 j), fun i hi => ?_, fun i hi => ?_⟩
  · obtain ⟨a, b, c, d, e, h⟩ := h3 i hi
    exact ⟨a, b, c, d, e, cell5_kept h hg⟩
  · obtain ⟨kv, tv, hc, hz, hk, ht⟩ := h4 i hi
    exact ⟨kv, tv, cell5_kept hc hg, hz, (hk.kept (same_below hb (Nat.le_refl _))).mono (Nat.le_refl _) hb.size, (ht.kept (same_below hb (Nat.le_refl _))).mono (Nat.le_refl _) hb.size⟩

theorem ECopy.step {W : World} {g d k : Nat} {l : List Ex} {kv tv : Value} (h : ECopy W g d k l) (hk : k < l.length) (hz : (l.getD k E0).meter.size ≤ maxLen ∧ (l.getD k E0).tiers.length ≤ maxLen)
    (hK : ES (g + 1) W.heap.size W d kv (l.getD k E0).kids) (hT : TL (g + 1) W.heap.size W tv (l.getD k E0).tiers) :
    ECopy (set5 W g k (.int .i64 (l.getD k E0).kind) (.int .i64 (l.getD k E0).num) (.string (l.getD k E0).meter) kv tv) g d (k + 1) l := by
  obtain ⟨h1, h2, h3, h4⟩ := h
  have hs : Same (g + 1) W.heap.size W (set5 W g k (.int .i64 (l.getD k E0).kind) (.int .i64 (l.getD k E0).num) (.string (l.getD k E0).meter) kv tv) := fun j hj _ => set5_block _ _ _ _ _ _ _ _ j (by omega)
  refine ⟨by rw [set5_size]; exact h1, fun j => by rw [set5_frozen]; exact h2 j, fun i hi => ?_, fun i hi => ?_⟩
  · by_cases e : i = k
    · subst e
      obtain ⟨a, b, c, d, e, h⟩ := h3 i hi
      exact ⟨_, _, _, _, _, set5_at h⟩
    · obtain ⟨a, b, c, d, e', h⟩ := h3 i hi
      exact ⟨a, b, c, d, e', set5_other h e⟩
  · rw [set5_size]
    by_cases e : i = k
    · subst e
      obtain ⟨a, b, c, d, e, h⟩ := h3 i hk
      exact ⟨kv, tv, set5_at h, hz, hK.kept hs, hT.kept hs⟩
    · obtain ⟨kv', tv', hc, hz', hk', ht'⟩ := h4 i (by omega)
      exact ⟨kv', tv', set5_other hc e, hz', hk'.kept hs, ht'.kept hs⟩
theorem ECopy.done {W : World} {g d : Nat} {l : List Ex} (h : ECopy W g d l.length l) (hl : l.length ≤ maxLen) (cap : Nat) : ES g W.heap.size W (d + 1) (.slice (some ⟨g, 0, none⟩) l.length cap) l := by
  obtain ⟨h1, h2, h3, h4⟩ := h
  refine .inr ⟨g, 0, cap, rfl, hl, Nat.le_refl _, h1, fun i hi => ?_⟩
  obtain ⟨kv, tv, hc, hz, hk, ht⟩ := h4 i hi
  exact ⟨kv, tv, by simpa [Cell5] using hc, hz, hk.mono (by omega) (Nat.le_refl _), ht.mono (by omega) (Nat.le_refl _)⟩

theorem infoE : (Tryz.prog.info? 77).map (fun i => (i.zero, i.size, i.bytes)) = some (some (.agg #[.int .i64 0, .int .i64 0, .string ByteArray.empty, .slice none 0 0, .slice none 0 0]), 5, 80) := by kernel_rfl
def zero5 : Array Value := #[.int .i64 0, .int .i64 0, .string ByteArray.empty, .slice none 0 0, .slice none 0 0]
theorem makeE (n : Nat) (hn : n ≤ 1048576) (w : World) : (Instr.makeSlice 74 (.int .i64 (n : Int)) (.int .i64 (n : Int))).run Tryz.prog w = .ok (.slice (some ⟨w.heap.size, 0, none⟩) n n) (w.alloc (.cells (madeCells zero5 (n * 5)) 77)) := by
  obtain ⟨i, hi, h2⟩ := Option.map_eq_some_iff.1 infoE
  simp only [Prod.mk.injEq] at h2
  obtain ⟨hz, hs, hb⟩ := h2
  have := run_make (P := Tryz.prog) w 74 77 i _ Tryz.underlying74 hi hz .i64 .i64 n n (by omega) (by omega) (by rw [hb]; omega) (by omega)
  have e : (Value.agg #[.int .i64 0, .int .i64 0, .string ByteArray.empty, .slice none 0 0, .slice none 0 0]).cells = zero5 := rfl
  rw [hs, e] at this
  simpa using this
theorem ECopy.made (w : World) (l : List Ex) (d : Nat) (t : TypeId) : ECopy (w.alloc (.cells (madeCells zero5 (l.length * 5)) t)) w.heap.size d 0 l := by
  have e1 := (MapKept.heap_alloc w (.cells (madeCells zero5 (l.length * 5)) t)).1
  have hcell : ∀ x, x < l.length * 5 → ∃ v, (w.alloc (.cells (madeCells zero5 (l.length * 5)) t)).cell? ⟨w.heap.size, x, none⟩ = some v := fun x hx => by
    simp only [World.cell?]
    rw [e1]
    refine ⟨(madeCells zero5 (l.length * 5))[x]'(by rw [size_madeCells]; exact hx), ?_⟩
    simp [size_madeCells, hx]
  refine ⟨by simp, fun j => ?_, fun i hi => ?_, fun i hi => by omega⟩
  · simp only [World.frozen?]
    rw [e1]; simp
  · obtain ⟨a, ha⟩ := hcell (i * 5) (by omega)
    obtain ⟨b, hb⟩ := hcell (i * 5 + 1) (by omega)
    obtain ⟨c, hc⟩ := hcell (i * 5 + 2) (by omega)
    obtain ⟨d, hd⟩ := hcell (i * 5 + 3) (by omega)
    obtain ⟨e, he⟩ := hcell (i * 5 + 4) (by omega)
    exact ⟨a, b, c, d, e, ha, hb, hc, hd, he⟩
end Go.Proofs.YtnchgeiinkaefaaGreatDoor.Rule
end

section
/-
  toRuleExpr, toRuleExprS; eqRuleExpr, eqRuleExprS.
-/
namespace Go.Proofs.YtnchgeiinkaefaaGreatDoor.Rule
set_option linter.unusedVariables false
open Go.RowKit Tiers

/-- five cells of block b, none of them frozen -/
def At5 (W : World) (B : Nat) (a b c d e : Value) : Prop := (W.cell? ⟨B, 0, none⟩ = some a ∧ W.cell? ⟨B, 1, none⟩ = some b ∧ W.cell? ⟨B, 2, none⟩ = some c ∧ W.cell? ⟨B, 3, none⟩ = some d ∧ W.cell? ⟨B, 4, none⟩ = some e) ∧
  W.frozen? ⟨B, 0, none⟩ = false ∧ W.frozen? ⟨B, 1, none⟩ = false ∧ W.frozen? ⟨B, 2, none⟩ = false ∧ W.frozen? ⟨B, 3, none⟩ = false ∧ W.frozen? ⟨B, 4, none⟩ = false
theorem At5.kept {W W' : World} {B : Nat} {a b c d e : Value} (h : At5 W B a b c d e) (hb : W'.heap[B]? = W.heap[B]?) : At5 W' B a b c d e := by
  obtain ⟨⟨h0, h1, h2, h3, h4⟩, f0, f1, f2, f3, f4⟩ := h
  exact ⟨⟨(World.cell?_of_block (w := W) hb).trans h0, (World.cell?_of_block (w := W) hb).trans h1, (World.cell?_of_block (w := W) hb).trans h2, (World.cell?_of_block (w := W) hb).trans h3, (World.cell?_of_block (w := W) hb).trans h4⟩,
    (World.frozen?_of_block (w := W) hb).trans f0, (World.frozen?_of_block (w := W) hb).trans f1, (World.frozen?_of_block (w := W) hb).trans f2, (World.frozen?_of_block (w := W) hb).trans f3, (World.frozen?_of_block (w := W) hb).trans f4⟩
theorem At5.new (w : World) (a b c d e : Value) (t : TypeId) : At5 (w.alloc (.cells #[a, b, c, d, e] t)) w.heap.size a b c d e := by
  have e1 := (MapKept.heap_alloc w (.cells #[a, b, c, d, e] t)).1
  unfold At5
  simp only [World.cell?, World.frozen?]
  rw [e1]; simp
theorem At5.lt {W : World} {B : Nat} {a b c d e : Value} (h : At5 W B a b c d e) : B < W.heap.size := lt_of_cell h.1.1

theorem wtL_len (l : List Ex) : l.length ≤ wtL l := by rw [wtL_eq]; omega

end Go.Proofs.YtnchgeiinkaefaaGreatDoor.Rule
end

section
/-
  Steps that are right (spec.l2Tiers, impl.stepsRight).
-/
namespace Go.Proofs.YtnchgeiinkaefaaGreatDoor.Tiers
set_option linter.unusedVariables false
open Go.RowKit

def numB (x : Int) : Bool := decide (0 ≤ x ∧ x ≤ 1000000000)
/-- is step i of n right? -/
def okT (n i : Nat) (t : T) : Bool := (decide (i + 1 = n) == decide (t.1 = 0)) && numB t.1 && numB t.2
/-- are the steps right? -/
def rightB (l : List T) : Bool := decide (1 ≤ l.length ∧ l.length ≤ 6) && (List.range l.length).all fun i => okT l.length i (l.getD i T0)

theorem rightB_size {l : List T} (h : ¬ (1 ≤ l.length ∧ l.length ≤ 6)) : rightB l = false := by unfold rightB; rw [decide_eq_false h]; simp
theorem rightB_bad {l : List T} {k : Nat} (hk : k < l.length) (h : okT l.length k (l.getD k T0) = false) : rightB l = false := by
  have : ((List.range l.length).all fun i => okT l.length i (l.getD i T0)) = false := by
    rw [List.all_eq_false]
    exact ⟨k, List.mem_range.2 hk, by rw [h]; simp⟩
  unfold rightB; rw [this]; simp
theorem rightB_yes {l : List T} (h : 1 ≤ l.length ∧ l.length ≤ 6) (hd : ∀ i, i < l.length → okT l.length i (l.getD i T0) = true) : rightB l = true := by
  have : ((List.range l.length).all fun i => okT l.length i (l.getD i T0)) = true := by
    rw [List.all_eq_true]
    exact fun i hi => hd i (List.mem_range.1 hi)
  unfold rightB; rw [this, decide_eq_true h]; rfl
theorem rightB_len {l : List T} (h : rightB l = true) : 1 ≤ l.length ∧ l.length ≤ 6 := by
  by_cases h' : 1 ≤ l.length ∧ l.length ≤ 6
  · exact h'
  · rw [rightB_size h'] at h; cases h
theorem rightB_at {l : List T} (h : rightB l = true) {k : Nat} (hk : k < l.length) : okT l.length k (l.getD k T0) = true := by
  cases e : okT l.length k (l.getD k T0)
  · rw [rightB_bad hk e] at h; cases h
  · rfl
theorem okT_of {n i : Nat} {t : T} (h : okT n i t = true) : (i + 1 = n ↔ t.1 = 0) ∧ 0 ≤ t.1 ∧ t.1 ≤ 1000000000 ∧ 0 ≤ t.2 ∧ t.2 ≤ 1000000000 := by
  unfold okT numB at h
  simp only [Bool.and_eq_true, beq_iff_eq, decide_eq_decide, decide_eq_true_eq] at h
  exact ⟨h.1.1, h.1.2.1, h.1.2.2, h.2.1, h.2.2⟩
theorem okT_mk {n i : Nat} {t : T} (h : (i + 1 = n ↔ t.1 = 0) ∧ 0 ≤ t.1 ∧ t.1 ≤ 1000000000 ∧ 0 ≤ t.2 ∧ t.2 ≤ 1000000000) : okT n i t = true := by
  unfold okT numB
  simp only [Bool.and_eq_true, beq_iff_eq, decide_eq_decide, decide_eq_true_eq]
  exact ⟨⟨h.1, h.2.1, h.2.2.1⟩, h.2.2.2.1, h.2.2.2.2⟩

set_option maxHeartbeats 2000000 in
/-- spec.l2Tiers -/
theorem rightS (v : Value) (l : List T) (w : World) (h : TR w v l) (hl : l.length ≤ 1048576) :
    Calls Tryz.prog 113 #[v] w fun e w' => e = .returned (.bool (rightB l)) ∧ Below w.heap.size w w' := by
  by_cases hsz : 1 ≤ l.length ∧ l.length ≤ 6
  · rcases h with ⟨rfl, a, c, rfl⟩ | ⟨b, o, cap, rfl, hc⟩
    · simp at hsz
    obtain ⟨z1, z2⟩ := hsz
    have y1 : (1 : Int) ≤ (l.length : Int) := by omega
    have y2 : (l.length : Int) ≤ 6 := by omega
    generalize hr : rightB l = r
    have HR := hide hr
    have HC := hide hc
    clear hr hc
    go_enter Tryz.func113, Tryz.ntmps113
    go_wp2
    go_loop [3] (fun i => ∃ k : Nat, k ≤ l.length ∧ i = .int .i64 k ∧ Hid (∀ j, j < k → okT l.length j (l.getD j T0) = true)) (fun i => l.length - (intOf i).toNat)
    case atStart => exact ⟨0, Nat.zero_le _, rfl, hide (fun j hj => by omega)⟩
    case round =>
      obtain ⟨k, hk, rfl, hd⟩ := hrel
      by_cases hlt : k < l.length
      · obtain ⟨c0, c1⟩ := (unhide HC).2 k hlt
        have i1 : (0 : Int) ≤ (k : Int) := by omega
        have i2 : (k : Int) < (l.length : Int) := by omega
        cases ho : okT l.length k (l.getD k T0)
        · have hr : r = false := (unhide HR).symm.trans (rightB_bad hlt ho)
          subst hr
          have hno := mt okT_mk (by rw [ho]; simp)
          clear ho hd
          generalize (l.getD k T0).1 = x at *
          generalize (l.getD k T0).2 = y at *
          by_cases a1 : k + 1 = l.length
          all_goals by_cases a2 : x = 0
          all_goals by_cases x1 : x < 0
          all_goals by_cases x2 : 1000000000 < x
          all_goals by_cases q1 : y < 0
          all_goals by_cases q2 : 1000000000 < y
          all_goals first | (exfalso; omega) | skip
          all_goals clear hno
          all_goals first | (have b1 : ((k : Int) == (l.length : Int) - 1) = true := beq_iff_eq.2 (by omega)) | (have b1 : ((k : Int) == (l.length : Int) - 1) = false := beq_eq_false_iff_ne.2 (by omega))
          all_goals first | (have b2 : (x == 0) = true := beq_iff_eq.2 (by omega)) | (have b2 : (x == 0) = false := beq_eq_false_iff_ne.2 (by omega))
          all_goals clear a1 a2
          all_goals go_wp2
          all_goals go_ret
          all_goals exact ⟨rfl, Below.refl _ _⟩
        · obtain ⟨o1, o2, o3, o4, o5⟩ := okT_of ho
          have hd' : Hid (∀ j, j < k + 1 → okT l.length j (l.getD j T0) = true) := hide (fun j hj => by
            by_cases e : j < k
            · exact unhide hd j e
            · obtain rfl : j = k := by omega
              exact ho)
          clear ho hd
          generalize (l.getD k T0).1 = x at *
          generalize (l.getD k T0).2 = y at *
          by_cases a1 : k + 1 = l.length
          · have b1 : ((k : Int) == (l.length : Int) - 1) = true := beq_iff_eq.2 (by omega)
            have b2 : (x == 0) = true := beq_iff_eq.2 (o1.1 a1)
            clear a1 o1
            go_wp2
            exact ⟨⟨k + 1, by omega, by go_num, hd'⟩, by simp [intOf]; omega⟩
          · have b1 : ((k : Int) == (l.length : Int) - 1) = false := beq_eq_false_iff_ne.2 (by omega)
            have b2 : (x == 0) = false := beq_eq_false_iff_ne.2 (fun e => a1 (o1.2 e))
            clear a1 o1
            go_wp2
            exact ⟨⟨k + 1, by omega, by go_num, hd'⟩, by simp [intOf]; omega⟩
      · have hr : r = true := (unhide HR).symm.trans (rightB_yes ⟨z1, z2⟩ (fun i hi => unhide hd i (by omega)))
        subst hr
        go_wp2
        go_ret
        exact ⟨rfl, Below.refl _ _⟩
  · rw [rightB_size hsz]
    have e1 : ∃ a c, v = .slice a l.length c := by
      rcases h with ⟨rfl, a, c, rfl⟩ | ⟨b, o, cap, rfl, _⟩
      · exact ⟨_, _, rfl⟩
      · exact ⟨_, _, rfl⟩
    obtain ⟨a, c, rfl⟩ := e1
    clear h
    by_cases z1 : (l.length : Int) < 1
    · go_enter Tryz.func113, Tryz.ntmps113
      go_wp2
      go_ret
      exact ⟨rfl, Below.refl _ _⟩
    · have z2 : (6 : Int) < l.length := by omega
      go_enter Tryz.func113, Tryz.ntmps113
      go_wp2
      go_ret
      exact ⟨rfl, Below.refl _ _⟩
end Go.Proofs.YtnchgeiinkaefaaGreatDoor.Tiers
end
