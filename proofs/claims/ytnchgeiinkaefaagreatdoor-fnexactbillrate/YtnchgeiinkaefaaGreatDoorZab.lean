/-
  Texts of this proof laid together, in build order; each says of itself what it holds.
-/
import Derived.Shelf.Strings.Builder1
import Derived.Shelf.Strings.Builder2
import Derived.Shelf.Strings.OnBuilder
import Derived.Shelf.Small.Utf8
import Derived.Shelf.Small.Bits
import Derived.Shelf.Small.Strs
import Derived.Shelf.Small.Wraps
import Derived.Shelf.Strconv.Atoi
import Derived.Shelf.Strconv.Itoa0
import Derived.Shelf.Strconv.Itoa1
import Derived.Shelf.LaysM
import Derived.Shelf.Strconv.Itoa2
import Derived.Shelf.Strconv.Itoa3
import Derived.Shelf.Strconv.AtoiErrFast
import Derived.Shelf.Strconv.ParseIntEmpty
import Derived.Shelf.Strconv.AtoiFail
import Derived.Shelf.Strconv.Clone
import Derived.Shelf.Strconv.SyntaxError
import Derived.Shelf.LaysC
import Derived.Shelf.Strconv.ToError
import Derived.Shelf.Strconv.Lower
import Derived.Shelf.Strconv.ParseUint10
import Derived.Shelf.Strconv.ParseUint10Empty
import Derived.Shelf.Strconv.ParseUint10Any
import Derived.Shelf.Strconv.ParseInt10
import Derived.Shelf.Strconv.AtoiLong
import Derived.Shelf.Strconv.AtoiInnerAll
import Derived.Shelf.Strconv.RangeError
import Derived.Shelf.Strconv.ToErrorRange
import Derived.Shelf.Strconv.AtoiAll
import Derived.Shelf.Strconv.ErrVarAll
import Derived.Shelf.Strings.Search1
import Derived.Shelf.Strings.Search2
import Derived.Shelf.Strings.Cut
import Derived.Shelf.Strings.Shaped
import Derived.Shelf.Strings.Prefix
import Derived.Shelf.Strings.Fields
import Derived.Shelf.Unicode.Latin
import Derived.Shelf.Strings.Runes
import Derived.Shelf.Strings.IndexAny
import Derived.Shelf.Strings.AsciiSet
import Derived.Shelf.Strings.IndexAnyAll
import Derived.Shelf.Unicode.Is16White
import Derived.Shelf.Unicode.IsSpaceAny
import Derived.Shelf.Unicode.Is16WhiteD
import Derived.Shelf.Unicode.IsSpaceAnyD
import Derived.Shelf.Strings.FieldsAny
import Derived.Shelf.Strings.FieldsFuncAny
import Derived.Shelf.Unicode.Is16Any
import Derived.Shelf.Unicode.Is32Any
import Derived.Shelf.Unicode.ExclAny
import Derived.Ground.SlgmProg
import Derived.Shelf.SortM.Plain
import Derived.Shelf.SortM.SortNone
import Derived.Test.YtnchgeiinkaefaaGreatDoorProg
import Derived.Test.YtnchgeiinkaefaaGreatDoorZaa
import Derived.Lib.AtoiErrMem
import Derived.Lib.Strings
import Derived.WalkKit
import Derived.WalkLawsBesides
import Derived.Below
import Derived.Deep.QuietTactic
import Derived.BigQuiet
import Derived.Deep.OwnRows
import Derived.WalkMore
import Derived.Outline
import Derived.Deep.RegionHeld3
section
/-
  DERIVED: THE SHELF's CONTRACTS AT THIS DUMP, IN PLAIN WORDS (tools/lay-plain.mjs out of 'YtnchgeiinkaefaaGreatDoorShelfR.lean', which tools/lay-shelf.mjs wrote): THE SAME DECLARATIONS UNDER THE SAME NAMES: 'import', 'namespace', 'open', 'def', 'theorem' AND NOTHING ELSE: no command of the shelf's: FOR A HAND-IN. Each laying: the table of numbers ('.._ren') and one theorem, a field a fact of the dump's own or the kernel's comparison; each contract: ONE APPLICATION.
-/
namespace Go.Proofs
open Go.Shelf
def Tryz.laysC172_ren : Go.Shelf.Ren := ⟨fun | 172 => 135 | 244 => 164 | 245 => 165 | 247 => 190 | 279 => 191 | 280 => 192 | 281 => 193 | 282 => 194 | 287 => 206 | 316 => 207 | 171 => 209 | 205 => 208 | 321 => 215 | 322 => 216 | 243 => 217 | 246 => 218 | 283 => 219 | 284 => 220 | 285 => 221 | 286 => 222 | 129 => 157 | 317 => 223 | 318 => 224 | 319 => 225 | 320 => 226 | 337 => 227 | 338 => 228 | n => n, fun | 9 => 9 | 3 => 3 | 75 => 62 | 76 => 218 | 4 => 4 | 5 => 5 | 167 => 275 | 37 => 97 | 0 => 0 | 85 => 276 | 2 => 2 | 168 => 278 | 53 => 245 | 175 => 297 | 46 => 214 | 210 => 301 | 127 => 292 | 145 => 313 | 143 => 311 | 21 => 21 | 171 => 315 | 173 => 317 | 212 => 320 | 51 => 243 | 20 => 20 | 213 => 321 | 232 => 322 | 233 => 323 | 80 => 144 | n => n, fun | 15 => 4 | 16 => 5 | 17 => 6 | 18 => 7 | 19 => 8 | n => n⟩
theorem Tryz.laysC172 : Go.Proofs.LaysC.n172 Tryz.prog Tryz.laysC172_ren := {
  mixed := by kernel_rfl
  f129 := Tryz.func157.trans (congrArg some (by kernel_rfl))
  f171 := Tryz.func209.trans (congrArg some (by kernel_rfl))
  f172 := Tryz.func135.trans (congrArg some (by kernel_rfl))
  f205 := Tryz.func208.trans (congrArg some (by kernel_rfl))
  f243 := Tryz.func217.trans (congrArg some (by kernel_rfl))
  f244 := Tryz.func164.trans (congrArg some (by kernel_rfl))
  f245 := Tryz.func165.trans (congrArg some (by kernel_rfl))
  f246 := Tryz.func218.trans (congrArg some (by kernel_rfl))
  f247 := Tryz.func190.trans (congrArg some (by kernel_rfl))
  f279 := Tryz.func191.trans (congrArg some (by kernel_rfl))
  f280 := Tryz.func192.trans (congrArg some (by kernel_rfl))
  f281 := Tryz.func193.trans (congrArg some (by kernel_rfl))
  f282 := Tryz.func194.trans (congrArg some (by kernel_rfl))
  f283 := Tryz.func219.trans (congrArg some (by kernel_rfl))
  f284 := Tryz.func220.trans (congrArg some (by kernel_rfl))
  f285 := Tryz.func221.trans (congrArg some (by kernel_rfl))
  f286 := Tryz.func222.trans (congrArg some (by kernel_rfl))
  f287 := Tryz.func206.trans (congrArg some (by kernel_rfl))
  f316 := Tryz.func207.trans (congrArg some (by kernel_rfl))
  f317 := Tryz.func223.trans (congrArg some (by kernel_rfl))
  f318 := Tryz.func224.trans (congrArg some (by kernel_rfl))
  f319 := Tryz.func225.trans (congrArg some (by kernel_rfl))
  f320 := Tryz.func226.trans (congrArg some (by kernel_rfl))
  f321 := Tryz.func215.trans (congrArg some (by kernel_rfl))
  f322 := Tryz.func216.trans (congrArg some (by kernel_rfl))
  f337 := Tryz.func227.trans (congrArg some (by kernel_rfl))
  f338 := Tryz.func228.trans (congrArg some (by kernel_rfl))
  t0 := Tryz.underlying0
  a0 := Tryz.isAgg0
  z0 := Tryz.sizeOf0
  v0 := Tryz.zeroValue0
  t2 := Tryz.underlying2
  a2 := Tryz.isAgg2
  z2 := Tryz.sizeOf2
  v2 := Tryz.zeroValue2
  t3 := Tryz.underlying3
  a3 := Tryz.isAgg3
  z3 := Tryz.sizeOf3
  v3 := Tryz.zeroValue3
  t4 := Tryz.underlying4
  a4 := Tryz.isAgg4
  z4 := Tryz.sizeOf4
  v4 := Tryz.zeroValue4
  t5 := Tryz.underlying5
  a5 := Tryz.isAgg5
  z5 := Tryz.sizeOf5
  v5 := Tryz.zeroValue5
  t9 := Tryz.underlying9
  a9 := Tryz.isAgg9
  z9 := Tryz.sizeOf9
  v9 := Tryz.zeroValue9
  t20 := Tryz.underlying20
  a20 := Tryz.isAgg20
  z20 := Tryz.sizeOf20
  v20 := Tryz.zeroValue20
  t21 := Tryz.underlying21
  a21 := Tryz.isAgg21
  z21 := Tryz.sizeOf21
  v21 := Tryz.zeroValue21
  t37 := Tryz.underlying97
  a37 := Tryz.isAgg97
  z37 := Tryz.sizeOf97
  v37 := Tryz.zeroValue97
  t46 := Tryz.underlying214
  a46 := Tryz.isAgg214
  z46 := Tryz.sizeOf214
  v46 := Tryz.zeroValue214
  t51 := Tryz.underlying243
  a51 := Tryz.isAgg243
  z51 := Tryz.sizeOf243
  v51 := Tryz.zeroValue243
  t53 := Tryz.underlying245
  a53 := Tryz.isAgg245
  z53 := Tryz.sizeOf245
  v53 := Tryz.zeroValue245
  t75 := Tryz.underlying62
  a75 := Tryz.isAgg62
  z75 := Tryz.sizeOf62
  v75 := Tryz.zeroValue62
  t76 := Tryz.underlying218
  a76 := Tryz.isAgg218
  z76 := Tryz.sizeOf218
  v76 := Tryz.zeroValue218
  t85 := Tryz.underlying276
  a85 := Tryz.isAgg276
  z85 := Tryz.sizeOf276
  v85 := Tryz.zeroValue276
  t127 := Tryz.underlying292
  a127 := Tryz.isAgg292
  z127 := Tryz.sizeOf292
  v127 := Tryz.zeroValue292
  t143 := Tryz.underlying311
  a143 := Tryz.isAgg311
  z143 := Tryz.sizeOf311
  v143 := Tryz.zeroValue311
  t145 := Tryz.underlying313
  a145 := Tryz.isAgg313
  z145 := Tryz.sizeOf313
  v145 := Tryz.zeroValue313
  t167 := Tryz.underlying275
  a167 := Tryz.isAgg275
  z167 := Tryz.sizeOf275
  v167 := Tryz.zeroValue275
  t168 := Tryz.underlying278
  a168 := Tryz.isAgg278
  z168 := Tryz.sizeOf278
  v168 := Tryz.zeroValue278
  t171 := Tryz.underlying315
  a171 := Tryz.isAgg315
  z171 := Tryz.sizeOf315
  v171 := Tryz.zeroValue315
  t173 := Tryz.underlying317
  a173 := Tryz.isAgg317
  z173 := Tryz.sizeOf317
  v173 := Tryz.zeroValue317
  t175 := Tryz.underlying297
  a175 := Tryz.isAgg297
  z175 := Tryz.sizeOf297
  v175 := Tryz.zeroValue297
  t210 := Tryz.underlying301
  a210 := Tryz.isAgg301
  z210 := Tryz.sizeOf301
  v210 := Tryz.zeroValue301
  t212 := Tryz.underlying320
  a212 := Tryz.isAgg320
  z212 := Tryz.sizeOf320
  v212 := Tryz.zeroValue320
  t213 := Tryz.underlying321
  a213 := Tryz.isAgg321
  z213 := Tryz.sizeOf321
  t232 := Tryz.underlying322
  a232 := Tryz.isAgg322
  z232 := Tryz.sizeOf322
  v232 := Tryz.zeroValue322
  t233 := Tryz.underlying323
  a233 := Tryz.isAgg323
  z233 := Tryz.sizeOf323
  v233 := Tryz.zeroValue323
  g15 := by kernel_rfl
  g16 := by kernel_rfl
  g17 := by kernel_rfl
  g18 := by kernel_rfl
  g19 := by kernel_rfl
  t80 := Tryz.underlying144
  a80 := Tryz.isAgg144
  z80 := Tryz.sizeOf144
  v80 := Tryz.zeroValue144
  i0 := by kernel_rfl
  i2 := by kernel_rfl
  i3 := by kernel_rfl
  i4 := by kernel_rfl
  i5 := by kernel_rfl
  i9 := by kernel_rfl
  i20 := by kernel_rfl
  i21 := by kernel_rfl
  i37 := by kernel_rfl
  i46 := by kernel_rfl
  i51 := by kernel_rfl
  i53 := by kernel_rfl
  i75 := by kernel_rfl
  i76 := by kernel_rfl
  i80 := by kernel_rfl
  i85 := by kernel_rfl
  i127 := by kernel_rfl
  i143 := by kernel_rfl
  i145 := by kernel_rfl
  i167 := by kernel_rfl
  i168 := by kernel_rfl
  i171 := by kernel_rfl
  i173 := by kernel_rfl
  i175 := by kernel_rfl
  i210 := by kernel_rfl
  i212 := by kernel_rfl
  i232 := by kernel_rfl
  i233 := by kernel_rfl
  m15 := by kernel_rfl
  m16 := by kernel_rfl
  m17 := by kernel_rfl
  m18 := by kernel_rfl
  m19 := by kernel_rfl
  c0 := by kernel_rfl
  c2 := by kernel_rfl
  c3 := by kernel_rfl
  c4 := by kernel_rfl
  c5 := by kernel_rfl
  c9 := by kernel_rfl
  c20 := by kernel_rfl
  c21 := by kernel_rfl
  c37 := by kernel_rfl
  c46 := by kernel_rfl
  c51 := by kernel_rfl
  c53 := by kernel_rfl
  c75 := by kernel_rfl
  c76 := by kernel_rfl
  c80 := by kernel_rfl
  c85 := by kernel_rfl
  c127 := by kernel_rfl
  c143 := by kernel_rfl
  c145 := by kernel_rfl
  c167 := by kernel_rfl
  c168 := by kernel_rfl
  c171 := by kernel_rfl
  c173 := by kernel_rfl
  c175 := by kernel_rfl
  c210 := by kernel_rfl
  c212 := by kernel_rfl
  c213 := by kernel_rfl
  c232 := by kernel_rfl
  c233 := by kernel_rfl }
open Go.RowKit in
/-- strconv.Atoi, AT EVERY STRING THAT SPELLS AN int ('Lib.atoiAll .. = .ok v'; of whatever length: leading zeros count): v, AND NO ERROR. The world: as it was, or with the one new row that '[]byte(..)' lays. (LAID: no walk: one application.) -/
theorem Tryz.strconv_Atoi_ok (s : ByteArray) (hmax : s.size ≤ 9223372036854775806) (v : Int) (h : Lib.atoiAll s.data.toList = .ok v) (w : World) :
    Calls Tryz.prog 135 #[.string s] w fun e w' => e = .returned (.tuple #[.int .i64 v, .nilIface]) ∧ (w' = w ∨ ∃ t, w' = Lib.bytesWorld w 5 t) := Any.strconv_Atoi_ok Tryz.laysC172 s hmax v h w
open Go.RowKit in
theorem Tryz.strconv_Atoi_syntax_var (s : ByteArray) (hlim : s.size ≤ 281474976710656) (h : Lib.atoiAll s.data.toList = .«syntax») (tp : TypeId) (p : Value) (w : World) (hvar : w.var? Tryz.prog "strconv.ErrSyntax" = some #[.iface tp p]) :
    Calls Tryz.prog 135 #[.string s] w fun e w' => ∃ N, e = .returned (.tuple #[.int .i64 0, .iface 278 (.pointer (some ⟨N, 0, none⟩))]) ∧ w.heap.size ≤ N ∧ w'.heap[N]? = some (.cells #[.string ⟨#[65, 116, 111, 105]⟩, .string s, .iface tp p] 301 (0, 0)) ∧ Below w.heap.size w w' := Any.strconv_Atoi_syntax_var Tryz.laysC172 s hlim h tp p w hvar
open Go.RowKit in
theorem Tryz.strconv_Atoi_range_var (s : ByteArray) (hlim : s.size ≤ 281474976710656) (h : Lib.atoiAll s.data.toList = .range) (tp : TypeId) (p : Value) (w : World) (hvar : w.var? Tryz.prog "strconv.ErrRange" = some #[.iface tp p]) :
    Calls Tryz.prog 135 #[.string s] w fun e w' => ∃ N, e = .returned (.tuple #[.int .i64 (Lib.atoiSat s.data.toList), .iface 278 (.pointer (some ⟨N, 0, none⟩))]) ∧ w.heap.size ≤ N ∧ w'.heap[N]? = some (.cells #[.string ⟨#[65, 116, 111, 105]⟩, .string s, .iface tp p] 301 (0, 0)) ∧ Below w.heap.size w w' := Any.strconv_Atoi_range_var Tryz.laysC172 s hlim h tp p w hvar
def Tryz.lays145_ren : Go.Shelf.Ren := ⟨fun | 145 => 121 | 220 => 142 | 219 => 167 | 217 => 195 | 225 => 189 | 224 => 188 | 267 => 196 | 266 => 210 | 314 => 211 | n => n, fun | 9 => 9 | 4 => 4 | 59 => 198 | 3 => 3 | 5 => 5 | 46 => 214 | 146 => 303 | 51 => 243 | n => n, fun | 1 => 3 | n => n⟩
theorem Tryz.lays145 : Go.Proofs.Lays.n145 Tryz.prog Tryz.lays145_ren := {
  mixed := by kernel_rfl
  f145 := Tryz.func121.trans (congrArg some (by kernel_rfl))
  f217 := Tryz.func195.trans (congrArg some (by kernel_rfl))
  f219 := Tryz.func167.trans (congrArg some (by kernel_rfl))
  f220 := Tryz.func142.trans (congrArg some (by kernel_rfl))
  f224 := Tryz.func188.trans (congrArg some (by kernel_rfl))
  f225 := Tryz.func189.trans (congrArg some (by kernel_rfl))
  f266 := Tryz.func210.trans (congrArg some (by kernel_rfl))
  f267 := Tryz.func196.trans (congrArg some (by kernel_rfl))
  f314 := Tryz.func211.trans (congrArg some (by kernel_rfl))
  t3 := Tryz.underlying3
  a3 := Tryz.isAgg3
  z3 := Tryz.sizeOf3
  v3 := Tryz.zeroValue3
  t4 := Tryz.underlying4
  a4 := Tryz.isAgg4
  z4 := Tryz.sizeOf4
  v4 := Tryz.zeroValue4
  t5 := Tryz.underlying5
  a5 := Tryz.isAgg5
  z5 := Tryz.sizeOf5
  v5 := Tryz.zeroValue5
  t9 := Tryz.underlying9
  a9 := Tryz.isAgg9
  z9 := Tryz.sizeOf9
  v9 := Tryz.zeroValue9
  t46 := Tryz.underlying214
  a46 := Tryz.isAgg214
  z46 := Tryz.sizeOf214
  v46 := Tryz.zeroValue214
  t51 := Tryz.underlying243
  a51 := Tryz.isAgg243
  z51 := Tryz.sizeOf243
  v51 := Tryz.zeroValue243
  t59 := Tryz.underlying198
  a59 := Tryz.isAgg198
  z59 := Tryz.sizeOf198
  v59 := Tryz.zeroValue198
  t146 := Tryz.underlying303
  a146 := Tryz.isAgg303
  z146 := Tryz.sizeOf303
  v146 := Tryz.zeroValue303
  g1 := by kernel_rfl }
open Go.RowKit Go.Lib in
/-- strings.Cut: "Cut slices s around the first instance of sep, returning the text before and after sep. The found result reports whether sep appears in s. If sep does not appear in s, cut returns s, "", false.": IT RETURNS 'Lib.cut s sep'; the world is as it was but for the count of draws. (LAID: no walk: one application.) -/
theorem Tryz.strings_Cut (s sep : ByteArray) (m : Int) (w : World) (hs : s.size < 4294967281) (hm : w.cell? ⟨3, 0, none⟩ = some (.int .i64 m)) :
    Calls Tryz.prog 121 #[.string s, .string sep] w fun e w' => e = .returned (.tuple #[.string ⟨(Lib.cut s.data.toList sep.data.toList).1.toArray⟩, .string ⟨(Lib.cut s.data.toList sep.data.toList).2.1.toArray⟩, .bool (Lib.cut s.data.toList sep.data.toList).2.2]) ∧ ∃ n, w' = w.drewN n := Any.strings_Cut Tryz.lays145 s sep m w hs hm
def Tryz.laysM145_ren : Go.Shelf.Ren := ⟨fun | 145 => 121 | 220 => 142 | 219 => 167 | 217 => 195 | 225 => 189 | 224 => 188 | 267 => 196 | 266 => 210 | 314 => 211 | n => n, fun | 9 => 9 | 4 => 4 | 59 => 198 | 3 => 3 | 5 => 5 | 46 => 214 | 146 => 303 | 51 => 243 | n => n, fun | 1 => 3 | n => n⟩
theorem Tryz.laysM145 : Go.Proofs.LaysM.n145 Tryz.prog Tryz.laysM145_ren := {
  mixed := by kernel_rfl
  f145 := Tryz.func121.trans (congrArg some (by kernel_rfl))
  f217 := Tryz.func195.trans (congrArg some (by kernel_rfl))
  f219 := Tryz.func167.trans (congrArg some (by kernel_rfl))
  f220 := Tryz.func142.trans (congrArg some (by kernel_rfl))
  f224 := Tryz.func188.trans (congrArg some (by kernel_rfl))
  f225 := Tryz.func189.trans (congrArg some (by kernel_rfl))
  f266 := Tryz.func210.trans (congrArg some (by kernel_rfl))
  f267 := Tryz.func196.trans (congrArg some (by kernel_rfl))
  f314 := Tryz.func211.trans (congrArg some (by kernel_rfl))
  t3 := Tryz.underlying3
  a3 := Tryz.isAgg3
  z3 := Tryz.sizeOf3
  v3 := Tryz.zeroValue3
  t4 := Tryz.underlying4
  a4 := Tryz.isAgg4
  z4 := Tryz.sizeOf4
  v4 := Tryz.zeroValue4
  t5 := Tryz.underlying5
  a5 := Tryz.isAgg5
  z5 := Tryz.sizeOf5
  v5 := Tryz.zeroValue5
  t9 := Tryz.underlying9
  a9 := Tryz.isAgg9
  z9 := Tryz.sizeOf9
  v9 := Tryz.zeroValue9
  t46 := Tryz.underlying214
  a46 := Tryz.isAgg214
  z46 := Tryz.sizeOf214
  v46 := Tryz.zeroValue214
  t51 := Tryz.underlying243
  a51 := Tryz.isAgg243
  z51 := Tryz.sizeOf243
  v51 := Tryz.zeroValue243
  t59 := Tryz.underlying198
  a59 := Tryz.isAgg198
  z59 := Tryz.sizeOf198
  v59 := Tryz.zeroValue198
  t146 := Tryz.underlying303
  a146 := Tryz.isAgg303
  z146 := Tryz.sizeOf303
  v146 := Tryz.zeroValue303
  g1 := by kernel_rfl
  i3 := by kernel_rfl
  i4 := by kernel_rfl
  i5 := by kernel_rfl
  i9 := by kernel_rfl
  i46 := by kernel_rfl
  i51 := by kernel_rfl
  i59 := by kernel_rfl
  i146 := by kernel_rfl
  m1 := by kernel_rfl
  s1_3 := fun w h => Go.Proofs.cell_of_shapedOpen_int (zero := #[.int .i64 0]) (t := 3) h (of_decide_eq_true (by kernel_rfl)) (by kernel_rfl) rfl (by kernel_rfl) (by kernel_rfl) Tryz.underlying3 }
open Go.RowKit Go.Lib in
theorem Tryz.strings_Cut_shaped (s sep : ByteArray) (w : World) (h : w.ShapedOpen Tryz.prog) (hs : s.size < 4294967281) :
    Calls Tryz.prog 121 #[.string s, .string sep] w fun e w' => e = .returned (.tuple #[.string ⟨(Lib.cut s.data.toList sep.data.toList).1.toArray⟩, .string ⟨(Lib.cut s.data.toList sep.data.toList).2.1.toArray⟩, .bool (Lib.cut s.data.toList sep.data.toList).2.2]) ∧ ∃ n, w' = w.drewN n := Any.strings_Cut_shaped Tryz.laysM145 s sep w h hs
end Go.Proofs
end

section
/-
  CoinRead, the program's: the amount whose text it is, if there is one.
-/
namespace Go.Proofs.YtnchgeiinkaefaaGreatDoor.Text
set_option linter.unusedVariables false
open Go.RowKit Coin
open Dec (cat below2)

/-- what of the program's variables strconv and strings read -/
def Env (w : World) : Prop := Tens w ∧ (∃ m, w.cell? ⟨3, 0, none⟩ = some (.int .i64 m)) ∧ (∃ tp p, w.var? Tryz.prog "strconv.ErrSyntax" = some #[.iface tp p]) ∧ (∃ tp p, w.var? Tryz.prog "strconv.ErrRange" = some #[.iface tp p])

theorem cell_lt {w : World} {q : Addr} {v : Value} (h : w.cell? q = some v) : q.block < w.heap.size := by
  refine Nat.lt_of_not_le fun hn => ?_
  have h2 : w.heap[q.block]? = none := by simp; omega
  simp [World.cell?, h2] at h

theorem Env.kept {w w' : World} (h : Env w) (hb : Below w.heap.size w w') : Env w' := by
  obtain ⟨h1, ⟨m, h2⟩, ⟨t1, p1, h3⟩, ⟨t2, p2, h4⟩⟩ := h
  exact ⟨h1.kept hb, ⟨m, by rw [hb.cell (cell_lt h2)]; exact h2⟩, ⟨t1, p1, var_kept h3 hb⟩, ⟨t2, p2, var_kept h4 hb⟩⟩

theorem cut_len (s : List UInt8) : (Lib.cut s [46]).1.length + (Lib.cut s [46]).2.1.length ≤ s.length := by
  unfold Lib.cut
  split <;> simp <;> omega

theorem below_drew {w : World} (n : Nat) : Below w.heap.size w (w.drewN n) := ⟨rfl, rfl, rfl, Nat.le_refl _, fun _ _ => rfl⟩

end Go.Proofs.YtnchgeiinkaefaaGreatDoor.Text
end

section
/-
  What the listed package variables give: all that strconv and strings read.
-/
namespace Go.Proofs.YtnchgeiinkaefaaGreatDoor.Laid
open Go.RowKit

theorem gES : Tryz.prog.globalNamed "strconv.ErrSyntax" = some 4 := by kernel_rfl
theorem tES : (Tryz.prog.globals[4]?).map (·.type) = some 62 := by kernel_rfl
theorem gER : Tryz.prog.globalNamed "strconv.ErrRange" = some 5 := by kernel_rfl
theorem tER : (Tryz.prog.globals[5]?).map (·.type) = some 62 := by kernel_rfl
theorem cES : Tryz.prog.cellsOf 313 = 1 := by kernel_rfl
theorem cStr : Tryz.prog.cellsOf 9 = 1 := by kernel_rfl
theorem star : "*" ++ "errors.errorString" = "*errors.errorString" := by decide
theorem rowES (u : TypeId) (h : Tryz.prog.typeName? 3 u = some "*errors.errorString") : u = 311 :=
  typeName_ptr_named (nm := "errors.errorString") (by rw [star]; kernel_rfl) (by kernel_rfl) (by decide) u (by rw [star]; exact h)

theorem env5 {W : World} {x y : String × DataW Unit} {rest : List (String × DataW Unit)} (hsh : W.ShapedOpen Tryz.prog) (h : laidMet Tryz.prog (x :: y :: ("internal/strconv.uint64pow10", Rows.laid_internal_strconv_uint64pow10) :: ("strconv.ErrRange", Rows.laid_strconv_ErrRange) :: ("strconv.ErrSyntax", Rows.laid_strconv_ErrSyntax) :: rest) W) : Text.Env W := by
  have h3 := h.tail.tail.tail
  obtain ⟨a0, s0, hv0, -, -, -⟩ := laid_sentinel h3 gER tER Tryz.underlying62 rowES Tryz.underlying311 Tryz.underlying313 rfl rfl Tryz.underlying9 cES cStr
  obtain ⟨a1, s1, hv1, -, -, -⟩ := laid_sentinel h3.tail gES tES Tryz.underlying62 rowES Tryz.underlying311 Tryz.underlying313 rfl rfl Tryz.underlying9 cES cStr
  exact ⟨tens3 h, Tryz.laysM145.s1_3 W hsh, ⟨_, _, hv1⟩, ⟨_, _, hv0⟩⟩
end Go.Proofs.YtnchgeiinkaefaaGreatDoor.Laid
end

section
/-
  DERIVED: THE SHELF's CONTRACTS AT THIS DUMP, IN PLAIN WORDS (tools/lay-plain.mjs out of 'YtnchgeiinkaefaaGreatDoorShelfX.lean', which tools/lay-shelf.mjs wrote): THE SAME DECLARATIONS UNDER THE SAME NAMES: 'import', 'namespace', 'open', 'def', 'theorem' AND NOTHING ELSE: no command of the shelf's: FOR A HAND-IN. Each laying: the table of numbers ('.._ren') and one theorem, a field a fact of the dump's own or the kernel's comparison; each contract: ONE APPLICATION.
-/
namespace Go.Proofs
open Go.Shelf
def Tryz.lays119_ren : Go.Shelf.Ren := ⟨fun | 119 => 187 | n => n, fun | 21 => 21 | 4 => 4 | n => n, fun | n => n⟩
theorem Tryz.lays119 : Go.Proofs.Lays.n119 Tryz.prog Tryz.lays119_ren := {
  mixed := by kernel_rfl
  f119 := Tryz.func187.trans (congrArg some (by kernel_rfl))
  t4 := Tryz.underlying4
  a4 := Tryz.isAgg4
  z4 := Tryz.sizeOf4
  v4 := Tryz.zeroValue4
  t21 := Tryz.underlying21
  a21 := Tryz.isAgg21
  z21 := Tryz.sizeOf21
  v21 := Tryz.zeroValue21 }
/-- utf8.ValidRune: "ValidRune reports whether r can be legally encoded as UTF-8. Code points that are out of range or a surrogate half are illegal.": IT RETURNS 'Lib.validRune r'; the world is as it was. (LAID: no walk: one application.) -/
theorem Tryz.utf8_ValidRune (r : Int) (w : World) :
    Calls Tryz.prog 187 #[.int .i32 r] w fun e w' => e = .returned (.bool (Lib.validRune r)) ∧ w' = w := Any.utf8_ValidRune Tryz.lays119 r w
def Tryz.lays137_ren : Go.Shelf.Ren := ⟨fun | 137 => 186 | 217 => 195 | 266 => 210 | n => n, fun | 9 => 9 | 5 => 5 | 3 => 3 | n => n, fun | n => n⟩
theorem Tryz.lays137 : Go.Proofs.Lays.n137 Tryz.prog Tryz.lays137_ren := {
  mixed := by kernel_rfl
  f137 := Tryz.func186.trans (congrArg some (by kernel_rfl))
  f217 := Tryz.func195.trans (congrArg some (by kernel_rfl))
  f266 := Tryz.func210.trans (congrArg some (by kernel_rfl))
  t3 := Tryz.underlying3
  a3 := Tryz.isAgg3
  z3 := Tryz.sizeOf3
  v3 := Tryz.zeroValue3
  t5 := Tryz.underlying5
  a5 := Tryz.isAgg5
  z5 := Tryz.sizeOf5
  v5 := Tryz.zeroValue5
  t9 := Tryz.underlying9
  a9 := Tryz.isAgg9
  z9 := Tryz.sizeOf9
  v9 := Tryz.zeroValue9 }
open Go.RowKit in
/-- strings.IndexByte: "IndexByte returns the index of the first instance of c in s, or -1 if c is not present in s.": IT RETURNS 'Lib.indexByte s c'; the world is as it was. (LAID: no walk: one application.) -/
theorem Tryz.strings_IndexByte (s : ByteArray) (c : Int) (w : World) :
    Calls Tryz.prog 186 #[.string s, .int .u8 c] w fun e w' => e = .returned (.int .i64 (Lib.indexByte s.data.toList c.toNat.toUInt8)) ∧ w' = w := Any.strings_IndexByte Tryz.lays137 s c w
def Tryz.lays152_ren : Go.Shelf.Ren := ⟨fun | 152 => 160 | 137 => 186 | 119 => 187 | 224 => 188 | 225 => 189 | 217 => 195 | 266 => 210 | n => n, fun | 9 => 9 | 21 => 21 | 3 => 3 | 4 => 4 | 5 => 5 | 0 => 0 | 46 => 214 | n => n, fun | n => n⟩
theorem Tryz.lays152 : Go.Proofs.Lays.n152 Tryz.prog Tryz.lays152_ren := {
  mixed := by kernel_rfl
  f119 := Tryz.func187.trans (congrArg some (by kernel_rfl))
  f137 := Tryz.func186.trans (congrArg some (by kernel_rfl))
  f152 := Tryz.func160.trans (congrArg some (by kernel_rfl))
  f217 := Tryz.func195.trans (congrArg some (by kernel_rfl))
  f224 := Tryz.func188.trans (congrArg some (by kernel_rfl))
  f225 := Tryz.func189.trans (congrArg some (by kernel_rfl))
  f266 := Tryz.func210.trans (congrArg some (by kernel_rfl))
  t0 := Tryz.underlying0
  a0 := Tryz.isAgg0
  z0 := Tryz.sizeOf0
  v0 := Tryz.zeroValue0
  t3 := Tryz.underlying3
  a3 := Tryz.isAgg3
  z3 := Tryz.sizeOf3
  v3 := Tryz.zeroValue3
  t4 := Tryz.underlying4
  a4 := Tryz.isAgg4
  z4 := Tryz.sizeOf4
  v4 := Tryz.zeroValue4
  t5 := Tryz.underlying5
  a5 := Tryz.isAgg5
  z5 := Tryz.sizeOf5
  v5 := Tryz.zeroValue5
  t9 := Tryz.underlying9
  a9 := Tryz.isAgg9
  z9 := Tryz.sizeOf9
  v9 := Tryz.zeroValue9
  t21 := Tryz.underlying21
  a21 := Tryz.isAgg21
  z21 := Tryz.sizeOf21
  v21 := Tryz.zeroValue21
  t46 := Tryz.underlying214
  a46 := Tryz.isAgg214
  z46 := Tryz.sizeOf214
  v46 := Tryz.zeroValue214 }
open Go.RowKit Go.Lib in
theorem Tryz.strings_IndexRune_ascii (s : ByteArray) (r : Int) (w : World) (h0 : 0 ≤ r) (h1 : r < 128) :
    Calls Tryz.prog 160 #[.string s, .int .i32 r] w fun e w' => e = .returned (.int .i64 (Lib.indexByte s.data.toList r.toNat.toUInt8)) ∧ w' = w := Any.strings_IndexRune_ascii Tryz.lays152 s r w h0 h1
def Tryz.lays226_ren : Go.Shelf.Ren := ⟨fun | 226 => 161 | n => n, fun | 3 => 3 | 4 => 4 | n => n, fun | n => n⟩
theorem Tryz.lays226 : Go.Proofs.Lays.n226 Tryz.prog Tryz.lays226_ren := {
  mixed := by kernel_rfl
  f226 := Tryz.func161.trans (congrArg some (by kernel_rfl))
  t3 := Tryz.underlying3
  a3 := Tryz.isAgg3
  z3 := Tryz.sizeOf3
  v3 := Tryz.zeroValue3
  t4 := Tryz.underlying4
  a4 := Tryz.isAgg4
  z4 := Tryz.sizeOf4
  v4 := Tryz.zeroValue4 }
open Go.RowKit Go.Lib in
theorem Tryz.strings_shouldUseASCIISet (n : Int) (w : World) :
    Calls Tryz.prog 161 #[.int .i64 n] w fun e w' => e = .returned (.bool (decide (8 < n))) ∧ w' = w := Any.strings_shouldUseASCIISet Tryz.lays226 n w
def Tryz.lays153_ren : Go.Shelf.Ren := ⟨fun | 153 => 134 | 152 => 160 | 226 => 161 | 227 => 162 | 228 => 163 | 137 => 186 | 119 => 187 | 224 => 188 | 225 => 189 | 217 => 195 | 266 => 210 | n => n, fun | 9 => 9 | 3 => 3 | 4 => 4 | 5 => 5 | 21 => 21 | 117 => 250 | 116 => 249 | 0 => 0 | 46 => 214 | 124 => 274 | n => n, fun | n => n⟩
theorem Tryz.lays153 : Go.Proofs.Lays.n153 Tryz.prog Tryz.lays153_ren := {
  mixed := by kernel_rfl
  f119 := Tryz.func187.trans (congrArg some (by kernel_rfl))
  f137 := Tryz.func186.trans (congrArg some (by kernel_rfl))
  f152 := Tryz.func160.trans (congrArg some (by kernel_rfl))
  f153 := Tryz.func134.trans (congrArg some (by kernel_rfl))
  f217 := Tryz.func195.trans (congrArg some (by kernel_rfl))
  f224 := Tryz.func188.trans (congrArg some (by kernel_rfl))
  f225 := Tryz.func189.trans (congrArg some (by kernel_rfl))
  f226 := Tryz.func161.trans (congrArg some (by kernel_rfl))
  f227 := Tryz.func162.trans (congrArg some (by kernel_rfl))
  f228 := Tryz.func163.trans (congrArg some (by kernel_rfl))
  f266 := Tryz.func210.trans (congrArg some (by kernel_rfl))
  t0 := Tryz.underlying0
  a0 := Tryz.isAgg0
  z0 := Tryz.sizeOf0
  v0 := Tryz.zeroValue0
  t3 := Tryz.underlying3
  a3 := Tryz.isAgg3
  z3 := Tryz.sizeOf3
  v3 := Tryz.zeroValue3
  t4 := Tryz.underlying4
  a4 := Tryz.isAgg4
  z4 := Tryz.sizeOf4
  v4 := Tryz.zeroValue4
  t5 := Tryz.underlying5
  a5 := Tryz.isAgg5
  z5 := Tryz.sizeOf5
  v5 := Tryz.zeroValue5
  t9 := Tryz.underlying9
  a9 := Tryz.isAgg9
  z9 := Tryz.sizeOf9
  v9 := Tryz.zeroValue9
  t21 := Tryz.underlying21
  a21 := Tryz.isAgg21
  z21 := Tryz.sizeOf21
  v21 := Tryz.zeroValue21
  t46 := Tryz.underlying214
  a46 := Tryz.isAgg214
  z46 := Tryz.sizeOf214
  v46 := Tryz.zeroValue214
  t116 := Tryz.underlying249
  a116 := Tryz.isAgg249
  z116 := Tryz.sizeOf249
  t117 := Tryz.underlying250
  a117 := Tryz.isAgg250
  z117 := Tryz.sizeOf250
  v117 := Tryz.zeroValue250
  t124 := Tryz.underlying274
  a124 := Tryz.isAgg274
  z124 := Tryz.sizeOf274
  v124 := Tryz.zeroValue274 }
open Go.RowKit Go.Lib in
theorem Tryz.strings_IndexAny_long (hv116 : ∀ w, (zeroValue 249).run Tryz.prog w = .ok (.agg (Array.replicate 256 (.bool false))) w) (s chars : ByteArray) (w : World) (h2 : 2 ≤ chars.size) (h8 : 8 < s.size) (hs : s.size < 4294967281) (hcs : chars.size < 4294967281) (hascii : ∀ (j : Nat) b, chars.data.toList[j]? = some b → b.toNat < 128) :
    Calls Tryz.prog 134 #[.string s, .string chars] w fun e w' => e = .returned (.int .i64 (Lib.indexAny s.data.toList chars.data.toList)) ∧ w' = ((w.alloc (.cells (Lib.setCells chars.data.toList) 249)).alloc (.cells (Lib.setCells chars.data.toList) 249)) := Any.strings_IndexAny_long Tryz.lays153 hv116 (by kernel_rfl) s chars w h2 h8 hs hcs hascii
open Go.RowKit Go.Lib in
/-- strings.IndexAny ON ASCII BYTES: the four roads under one statement. (LAID: no walk: one application.) -/
theorem Tryz.strings_IndexAny (hv116 : ∀ w, (zeroValue 249).run Tryz.prog w = .ok (.agg (Array.replicate 256 (.bool false))) w) (s chars : ByteArray) (w : World) (hs : s.size < 4294967281) (hcs : chars.size < 4294967281) (has : ∀ (j : Nat) b, s.data.toList[j]? = some b → b.toNat < 128) (hac : ∀ (j : Nat) b, chars.data.toList[j]? = some b → b.toNat < 128) :
    Calls Tryz.prog 134 #[.string s, .string chars] w fun e w' => e = .returned (.int .i64 (Lib.indexAny s.data.toList chars.data.toList)) ∧ Below w.heap.size w w' := Any.strings_IndexAny Tryz.lays153 hv116 (by kernel_rfl) s chars w hs hcs has hac
end Go.Proofs
end

section
/-
  Slices of steps (two numbers) in memory, and the laws' own helpers on them: size, copy, compare.
-/
namespace Go.Proofs.YtnchgeiinkaefaaGreatDoor.Tiers
set_option linter.unusedVariables false
open Go.RowKit

theorem hide {p : Prop} (h : p) : Hid p := h
theorem unhide {p : Prop} (h : Hid p) : p := h

abbrev T := Int × Int
abbrev T0 : T := (0, 0)

/-- from o on block b holds the steps l -/
def TC (W : World) (b o : Nat) (l : List T) : Prop := b < W.heap.size ∧ ∀ i, i < l.length → W.cell? ⟨b, o + i * 2, none⟩ = some (.int .i64 (l.getD i T0).1) ∧ W.cell? ⟨b, o + i * 2 + 1, none⟩ = some (.int .i64 (l.getD i T0).2)

/-- the slice v holds the steps l -/
def TR (W : World) (v : Value) (l : List T) : Prop :=
  (l = [] ∧ ∃ a c, v = .slice a 0 c) ∨ ∃ b o cap, v = .slice (some ⟨b, o, none⟩) l.length cap ∧ TC W b o l

theorem TC.kept {W W' : World} {b o : Nat} {l : List T} (h : TC W b o l) (hb : Below W.heap.size W W') : TC W' b o l :=
  ⟨Nat.lt_of_lt_of_le h.1 hb.size, fun i hi => ⟨(hb.cell (p := ⟨b, o + i * 2, none⟩) h.1).trans (h.2 i hi).1, (hb.cell (p := ⟨b, o + i * 2 + 1, none⟩) h.1).trans (h.2 i hi).2⟩⟩
theorem TR.kept {W W' : World} {v : Value} {l : List T} (h : TR W v l) (hb : Below W.heap.size W W') : TR W' v l := by
  rcases h with h | ⟨b, o, cap, rfl, hc⟩
  · exact .inl h
  · exact .inr ⟨b, o, cap, rfl, hc.kept hb⟩
theorem below_trans {w w1 w2 : World} (h : Below w.heap.size w w1) (k : Below w1.heap.size w1 w2) : Below w.heap.size w w2 := h.trans (k.mono h.size)

/-! ### The copy -/

/-- a row of steps of the call's own: block b holds l, nothing of it is frozen -/
def TOwn (W : World) (b : Nat) (l : List T) : Prop := TC W b 0 l ∧ ∀ j, W.frozen? ⟨b, j, none⟩ = false

theorem TOwn.set {W : World} {b : Nat} {l : List T} (h : TOwn W b l) {k : Nat} (hk : k < l.length) (x : T) :
    TOwn ((W.setCell ⟨b, 0 + k * 2, none⟩ (.int .i64 x.1)).setCell ⟨b, 0 + k * 2 + 1, none⟩ (.int .i64 x.2)) b (l.set k x) := by
  refine ⟨⟨by simpa using h.1.1, fun i hi => ?_⟩, fun j => by simpa [World.frozen?_setCell] using h.2 j⟩
  have hi' : i < l.length := by simpa using hi
  obtain ⟨c0, c1⟩ := h.1.2 i hi'
  by_cases e : i = k
  · subst e
    rw [List.getD_eq_getElem?_getD, List.getElem?_set_self hi']
    refine ⟨?_, ?_⟩
    · rw [World.cell?_setCell_other _ _ _ _ (by simp)]
      exact World.cell?_setCell_same _ _ _ c0
    · exact World.cell?_setCell_same _ _ _ (by rw [World.cell?_setCell_other _ _ _ _ (by simp)]; exact c1)
  · rw [World.cell?_setCell_other _ _ _ _ (by simp), World.cell?_setCell_other _ _ _ _ (by simp), World.cell?_setCell_other _ _ _ _ (by simp), World.cell?_setCell_other _ _ _ _ (by simp), c0, c1, List.getD_eq_getElem?_getD, List.getD_eq_getElem?_getD, List.getElem?_set_ne (by omega)]
    exact ⟨rfl, rfl⟩

theorem TOwn.kept {W W' : World} {b : Nat} {l : List T} (h : TOwn W b l) (hb : Below W.heap.size W W') : TOwn W' b l :=
  ⟨h.1.kept hb, fun j => (hb.frozen (p := ⟨b, j, none⟩) h.1.1).trans (h.2 j)⟩

theorem infoT : (Tryz.prog.info? 184).map (fun i => (i.zero, i.size, i.bytes)) = some (some (.agg #[.int .i64 0, .int .i64 0]), 2, 16) := by kernel_rfl

theorem makeT (n : Nat) (hn : n ≤ 1048576) (w : World) : (Instr.makeSlice 75 (.int .i64 (n : Int)) (.int .i64 (n : Int))).run Tryz.prog w = .ok (.slice (some ⟨w.heap.size, 0, none⟩) n n) (w.alloc (.cells (madeCells #[.int .i64 0, .int .i64 0] (n * 2)) 184)) := by
  obtain ⟨i, hi, h2⟩ := Option.map_eq_some_iff.1 infoT
  simp only [Prod.mk.injEq] at h2
  obtain ⟨hz, hs, hb⟩ := h2
  have := run_make (P := Tryz.prog) w 75 184 i _ Tryz.underlying75 hi hz .i64 .i64 n n (by omega) (by omega) (by rw [hb]; omega) (by omega)
  have e : (Value.agg #[.int .i64 0, .int .i64 0]).cells = #[.int .i64 0, .int .i64 0] := rfl
  rw [hs, e] at this
  simpa using this

theorem TOwn.made (w : World) (n : Nat) (t : TypeId) : TOwn (w.alloc (.cells (madeCells #[.int .i64 0, .int .i64 0] (n * 2)) t)) w.heap.size (List.replicate n T0) := by
  have e1 := (MapKept.heap_alloc w (.cells (madeCells #[.int .i64 0, .int .i64 0] (n * 2)) t)).1
  refine ⟨⟨by simp, fun i hi => ?_⟩, fun j => ?_⟩
  · have hi' : i < n := by simpa using hi
    have m0 : i * 2 % 2 = 0 := by omega
    have m1 : (i * 2 + 1) % 2 = 1 := by omega
    have l0 : i * 2 < n * 2 := by omega
    have l1 : i * 2 + 1 < n * 2 := by omega
    simp only [World.cell?]
    rw [e1]
    constructor
    · simp [madeCells, hi', l0, m0]
    · simp [madeCells, hi', l1, m1]
  · simp only [World.frozen?]
    rw [e1]; simp

theorem copy_step (l : List T) (k : Nat) (h : k < l.length) : (l.take k ++ List.replicate (l.length - k) T0).set k (l.getD k T0) = l.take (k + 1) ++ List.replicate (l.length - (k + 1)) T0 := by
  have e : l.length - k = (l.length - (k + 1)) + 1 := by omega
  rw [e, List.replicate_succ, List.set_append_right _ _ (by simp; omega)]
  have e2 : k - (l.take k).length = 0 := by simp; omega
  rw [e2, List.set_cons_zero]
  have e3 : l.take (k + 1) = l.take k ++ [l.getD k T0] := by rw [List.take_add_one, List.getElem?_eq_getElem h]; simp [List.getD, h]
  rw [e3, List.append_assoc]; rfl

theorem below_drewN' {B : Nat} {a w : World} (h : Below B a w) (k : Nat) : Below B a (w.drewN k) := ⟨h.os, h.tape, h.output, h.size, h.block⟩
theorem below_of_drew {B : Nat} {a w : World} (h : Below B a.drew w) : Below B a w := ⟨h.os, h.tape, h.output, h.size, h.block⟩
theorem below_of_drewN {B : Nat} {a w : World} {k : Nat} (h : Below B (a.drewN k) w) : Below B a w := ⟨h.os, h.tape, h.output, h.size, h.block⟩

end Go.Proofs.YtnchgeiinkaefaaGreatDoor.Tiers
end

section
/-
  Expressions of tariffs as plain data; no program in it.
-/
namespace Go.Proofs.YtnchgeiinkaefaaGreatDoor.Rule
set_option linter.unusedVariables false

/-- an expression -/
inductive Ex where
  | mk (kind num : Int) (meter : ByteArray) (kids : List Ex) (tiers : List (Int × Int))

namespace Ex
def kind : Ex → Int | .mk k _ _ _ _ => k
def num : Ex → Int | .mk _ n _ _ _ => n
def meter : Ex → ByteArray | .mk _ _ m _ _ => m
def kids : Ex → List Ex | .mk _ _ _ ks _ => ks
def tiers : Ex → List (Int × Int) | .mk _ _ _ _ ts => ts
end Ex

def E0 : Ex := .mk 0 0 ByteArray.empty [] []

mutual
/-- how many expressions -/
def cnt : Ex → Nat | .mk _ _ _ ks _ => 1 + cntL ks
def cntL : List Ex → Nat | [] => 0 | e :: es => cnt e + cntL es
end
mutual
/-- how deep -/
def dep : Ex → Nat | .mk _ _ _ ks _ => depL ks + 1
def depL : List Ex → Nat | [] => 0 | e :: es => max (dep e) (depL es)
end
mutual
/-- how much of it there is: letters, kids and steps -/
def wt : Ex → Nat | .mk _ _ m ks ts => m.size + wtL ks + ts.length
def wtS : List Ex → Nat | [] => 0 | e :: es => wt e + wtS es
/-- .. of a list: its elements count, too -/
def wtL : List Ex → Nat | [] => 0 | e :: es => 1 + wt e + wtL es
end

theorem cnt_eq (e : Ex) : cnt e = 1 + cntL e.kids := by cases e; rfl
theorem dep_eq (e : Ex) : dep e = depL e.kids + 1 := by cases e; rfl
theorem wt_eq (e : Ex) : wt e = e.meter.size + wtL e.kids + e.tiers.length := by cases e; rfl
theorem wtL_eq : ∀ l : List Ex, wtL l = l.length + wtS l
  | [] => rfl
  | e :: es => by rw [wtL, wtS, wtL_eq es]; simp; omega

theorem take_at {l : List Ex} {k : Nat} (h : k < l.length) : l.take (k + 1) = l.take k ++ [l.getD k E0] := by
  rw [List.take_add_one, List.getElem?_eq_getElem h]; simp [List.getD, h]
theorem wtS_append : ∀ a b : List Ex, wtS (a ++ b) = wtS a + wtS b
  | [], b => by simp [wtS]
  | e :: es, b => by rw [List.cons_append, wtS, wtS, wtS_append es b]; omega
theorem wtS_take {l : List Ex} {k : Nat} (h : k < l.length) : wtS (l.take (k + 1)) = wtS (l.take k) + wt (l.getD k E0) := by
  rw [take_at h, wtS_append]; simp [wtS]
theorem wtS_le (l : List Ex) (k : Nat) : wtS (l.take k) ≤ wtS l := by
  have h := wtS_append (l.take k) (l.drop k)
  rw [List.take_append_drop] at h
  omega
theorem wt_at {l : List Ex} {k : Nat} (h : k < l.length) : wt (l.getD k E0) + l.length ≤ wtL l := by
  have h1 := wtS_take h
  have h2 := wtS_le l (k + 1)
  rw [wtL_eq]; omega
theorem cntL_append : ∀ a b : List Ex, cntL (a ++ b) = cntL a + cntL b
  | [], b => by simp [cntL]
  | e :: es, b => by rw [List.cons_append, cntL, cntL, cntL_append es b]; omega
theorem cntL_take {l : List Ex} {k : Nat} (h : k < l.length) : cntL (l.take (k + 1)) = cntL (l.take k) + cnt (l.getD k E0) := by
  rw [take_at h, cntL_append]; simp [cntL]
theorem cntL_le (l : List Ex) (k : Nat) : cntL (l.take k) ≤ cntL l := by
  have h := cntL_append (l.take k) (l.drop k)
  rw [List.take_append_drop] at h
  omega
theorem depL_append : ∀ a b : List Ex, depL (a ++ b) = max (depL a) (depL b)
  | [], b => by simp [depL]
  | e :: es, b => by rw [List.cons_append, depL, depL, depL_append es b]; omega
theorem depL_take {l : List Ex} {k : Nat} (h : k < l.length) : depL (l.take (k + 1)) = max (depL (l.take k)) (dep (l.getD k E0)) := by
  rw [take_at h, depL_append]; simp [depL]
theorem depL_le (l : List Ex) (k : Nat) : depL (l.take k) ≤ depL l := by
  have h := depL_append (l.take k) (l.drop k)
  rw [List.take_append_drop] at h
  omega
mutual
theorem cnt_wt : ∀ e : Ex, cnt e ≤ 1 + wt e
  | .mk k n m ks ts => by rw [cnt, wt]; have := cntL_wt ks; omega
theorem cntL_wt : ∀ l : List Ex, cntL l ≤ wtL l
  | [] => by simp [cntL, wtL]
  | e :: es => by rw [cntL, wtL]; have := cnt_wt e; have := cntL_wt es; omega
end
mutual
theorem dep_cnt : ∀ e : Ex, dep e ≤ cnt e
  | .mk k n m ks ts => by rw [cnt, dep]; have := depL_cnt ks; omega
theorem depL_cnt : ∀ l : List Ex, depL l ≤ cntL l
  | [] => by simp [cntL, depL]
  | e :: es => by rw [cntL, depL]; have := dep_cnt e; have := depL_cnt es; omega
end
end Go.Proofs.YtnchgeiinkaefaaGreatDoor.Rule
end

section
/-
  Expressions in memory, and the laws' own helpers on them: size, copy, compare.
-/
namespace Go.Proofs.YtnchgeiinkaefaaGreatDoor.Rule
set_option linter.unusedVariables false
open Go.RowKit Tiers

/-- the slice v holds the steps l, in a block from lo on and below hi -/
def TL (lo hi : Nat) (W : World) (v : Value) (l : List T) : Prop :=
  (l = [] ∧ ∃ a c, v = .slice a 0 c) ∨ ∃ b o cap, v = .slice (some ⟨b, o, none⟩) l.length cap ∧ lo ≤ b ∧ b < hi ∧ ∀ i, i < l.length → W.cell? ⟨b, o + i * 2, none⟩ = some (.int .i64 (l.getD i T0).1) ∧ W.cell? ⟨b, o + i * 2 + 1, none⟩ = some (.int .i64 (l.getD i T0).2)

theorem lt_of_cell {W : World} {b o : Nat} {v : Value} (h : W.cell? ⟨b, o, none⟩ = some v) : b < W.heap.size := by
  refine Nat.lt_of_not_le fun hn => ?_
  have h2 : W.heap[b]? = none := by simp; omega
  simp [World.cell?, h2] at h
theorem TL.toTR {lo hi : Nat} {W : World} {v : Value} {l : List T} (h : TL lo hi W v l) : TR W v l := by
  rcases h with h | ⟨b, o, cap, rfl, _, _, hc⟩
  · exact .inl h
  · by_cases h0 : l.length = 0
    · exact .inl ⟨List.length_eq_zero_iff.1 h0, _, cap, by rw [h0]⟩
    · exact .inr ⟨b, o, cap, rfl, lt_of_cell (hc 0 (by omega)).1, hc⟩
/-- W' is as W was from block lo on and below hi -/
def Same (lo hi : Nat) (W W' : World) : Prop := ∀ b, lo ≤ b → b < hi → W'.heap[b]? = W.heap[b]?
theorem TL.kept {lo hi : Nat} {W W' : World} {v : Value} {l : List T} (h : TL lo hi W v l) (hs : Same lo hi W W') : TL lo hi W' v l := by
  rcases h with h | ⟨b, o, cap, rfl, h1, h2, hc⟩
  · exact .inl h
  · exact .inr ⟨b, o, cap, rfl, h1, h2, fun i hi => ⟨(World.cell?_of_block (w := W) (hs b h1 h2)).trans (hc i hi).1, (World.cell?_of_block (w := W) (hs b h1 h2)).trans (hc i hi).2⟩⟩
theorem TL.mono {lo hi lo' hi' : Nat} {W : World} {v : Value} {l : List T} (h : TL lo hi W v l) (h1 : lo' ≤ lo) (h2 : hi ≤ hi') : TL lo' hi' W v l := by
  rcases h with h | ⟨b, o, cap, rfl, k1, k2, hc⟩
  · exact .inl h
  · exact .inr ⟨b, o, cap, rfl, by omega, by omega, hc⟩

/-- the slice v holds the expressions l: d deep at most, all in blocks from lo on and below hi -/
def ES (lo hi : Nat) (W : World) : Nat → Value → List Ex → Prop
  | 0, v, l => l = [] ∧ ∃ a c, v = .slice a 0 c
  | d + 1, v, l => (l = [] ∧ ∃ a c, v = .slice a 0 c) ∨ ∃ b o cap, v = .slice (some ⟨b, o, none⟩) l.length cap ∧ l.length ≤ maxLen ∧ lo ≤ b ∧ b < hi ∧ ∀ i, i < l.length →
      ∃ kv tv, (W.cell? ⟨b, o + i * 5, none⟩ = some (.int .i64 (l.getD i E0).kind) ∧ W.cell? ⟨b, o + i * 5 + 1, none⟩ = some (.int .i64 (l.getD i E0).num) ∧ W.cell? ⟨b, o + i * 5 + 2, none⟩ = some (.string (l.getD i E0).meter) ∧
        W.cell? ⟨b, o + i * 5 + 3, none⟩ = some kv ∧ W.cell? ⟨b, o + i * 5 + 4, none⟩ = some tv) ∧
        ((l.getD i E0).meter.size ≤ maxLen ∧ (l.getD i E0).tiers.length ≤ maxLen) ∧ ES lo hi W d kv (l.getD i E0).kids ∧ TL lo hi W tv (l.getD i E0).tiers
/-- the value v is the expression e -/
def EV (lo hi : Nat) (W : World) (d : Nat) (v : Value) (e : Ex) : Prop :=
  ∃ kv tv, v = .agg #[.int .i64 e.kind, .int .i64 e.num, .string e.meter, kv, tv] ∧ (e.meter.size ≤ maxLen ∧ e.tiers.length ≤ maxLen) ∧ ES lo hi W d kv e.kids ∧ TL lo hi W tv e.tiers

theorem ES.form {lo hi : Nat} {W : World} {d : Nat} {v : Value} {l : List Ex} (h : ES lo hi W d v l) : ∃ a c, v = .slice a l.length c ∧ l.length ≤ maxLen := by
  cases d with
  | zero => obtain ⟨rfl, a, c, rfl⟩ := h; exact ⟨a, c, rfl, by simp⟩
  | succ d =>
    rcases h with ⟨rfl, a, c, rfl⟩ | ⟨b, o, cap, rfl, hl, _⟩
    · exact ⟨a, c, rfl, by simp⟩
    · exact ⟨_, _, rfl, hl⟩
theorem ES.kept {lo hi : Nat} {W W' : World} (hs : Same lo hi W W') : ∀ {d : Nat} {v : Value} {l : List Ex}, ES lo hi W d v l → ES lo hi W' d v l := by
  intro d
  induction d with
  | zero => intro v l h; exact h
  | succ d ih =>
    intro v l h
    rcases h with h | ⟨b, o, cap, rfl, hl, h1, h2, hc⟩
    · exact .inl h
    · refine .inr ⟨b, o, cap, rfl, hl, h1, h2, fun i hi => ?_⟩
      obtain ⟨kv, tv, ⟨c0, c1, c2, c3, c4⟩, hz, hk, ht⟩ := hc i hi
      have hb := hs b h1 h2
      exact ⟨kv, tv, ⟨(World.cell?_of_block (w := W) hb).trans c0, (World.cell?_of_block (w := W) hb).trans c1, (World.cell?_of_block (w := W) hb).trans c2, (World.cell?_of_block (w := W) hb).trans c3, (World.cell?_of_block (w := W) hb).trans c4⟩, hz, ih hk, ht.kept hs⟩
theorem ES.mono {lo hi lo' hi' : Nat} {W : World} (h1 : lo' ≤ lo) (h2 : hi ≤ hi') : ∀ {d : Nat} {v : Value} {l : List Ex}, ES lo hi W d v l → ES lo' hi' W d v l := by
  intro d
  induction d with
  | zero => intro v l h; exact h
  | succ d ih =>
    intro v l h
    rcases h with h | ⟨b, o, cap, rfl, hl, k1, k2, hc⟩
    · exact .inl h
    · refine .inr ⟨b, o, cap, rfl, hl, by omega, by omega, fun i hi => ?_⟩
      obtain ⟨kv, tv, hcs, hz, hk, ht⟩ := hc i hi
      exact ⟨kv, tv, hcs, hz, ih hk, ht.mono h1 h2⟩
theorem EV.kept {lo hi : Nat} {W W' : World} {d : Nat} {v : Value} {e : Ex} (h : EV lo hi W d v e) (hs : Same lo hi W W') : EV lo hi W' d v e := by
  obtain ⟨kv, tv, rfl, hz, hk, ht⟩ := h
  exact ⟨kv, tv, rfl, hz, hk.kept hs, ht.kept hs⟩
theorem EV.mono {lo hi lo' hi' : Nat} {W : World} {d : Nat} {v : Value} {e : Ex} (h : EV lo hi W d v e) (h1 : lo' ≤ lo) (h2 : hi ≤ hi') : EV lo' hi' W d v e := by
  obtain ⟨kv, tv, rfl, hz, hk, ht⟩ := h
  exact ⟨kv, tv, rfl, hz, hk.mono h1 h2, ht.mono h1 h2⟩
theorem same_below {lo hi : Nat} {W W' : World} (hb : Below W.heap.size W W') (h : hi ≤ W.heap.size) : Same lo hi W W' := fun b _ h2 => hb.block b (by omega)
theorem same_trans {lo hi : Nat} {A B C : World} (h : Same lo hi A B) (k : Same lo hi B C) : Same lo hi A C := fun b h1 h2 => (k b h1 h2).trans (h b h1 h2)
theorem same_set {lo hi : Nat} (W : World) (g o : Nat) (u : Value) (h : g < lo) : Same lo hi W (W.setCell ⟨g, o, none⟩ u) := fun b h1 _ => Below.heap_setCell W ⟨g, o, none⟩ u b (by simp; omega)

/-! ### size -/

theorem new5 (w : World) (a b c d e : Value) (t : TypeId) : (w.alloc (.cells #[a, b, c, d, e] t)).cell? ⟨w.heap.size, 0, none⟩ = some a ∧ (w.alloc (.cells #[a, b, c, d, e] t)).cell? ⟨w.heap.size, 1, none⟩ = some b ∧ (w.alloc (.cells #[a, b, c, d, e] t)).cell? ⟨w.heap.size, 2, none⟩ = some c ∧
    (w.alloc (.cells #[a, b, c, d, e] t)).cell? ⟨w.heap.size, 3, none⟩ = some d ∧ (w.alloc (.cells #[a, b, c, d, e] t)).cell? ⟨w.heap.size, 4, none⟩ = some e := by
  have e1 := (MapKept.heap_alloc w (.cells #[a, b, c, d, e] t)).1
  simp only [World.cell?]
  rw [e1]; simp
/-- a boxed expression, behind a call that kept what there was -/
theorem box5 (w w1 : World) (a b c d e : Value) (t : TypeId) (hb : Below (w.alloc (.cells #[a, b, c, d, e] t)).heap.size (w.alloc (.cells #[a, b, c, d, e] t)) w1) :
    w1.cell? ⟨w.heap.size, 0, none⟩ = some a ∧ w1.cell? ⟨w.heap.size, 1, none⟩ = some b ∧ w1.cell? ⟨w.heap.size, 2, none⟩ = some c ∧ w1.cell? ⟨w.heap.size, 3, none⟩ = some d ∧ w1.cell? ⟨w.heap.size, 4, none⟩ = some e ∧ Below w.heap.size w w1 := by
  obtain ⟨n0, n1, n2, n3, n4⟩ := new5 w a b c d e t
  exact ⟨(hb.cell (p := ⟨w.heap.size, 0, none⟩) (by simp)).trans n0, (hb.cell (p := ⟨w.heap.size, 1, none⟩) (by simp)).trans n1, (hb.cell (p := ⟨w.heap.size, 2, none⟩) (by simp)).trans n2, (hb.cell (p := ⟨w.heap.size, 3, none⟩) (by simp)).trans n3, (hb.cell (p := ⟨w.heap.size, 4, none⟩) (by simp)).trans n4,
    ((Below.refl _ w).alloc (Nat.le_refl _) _).trans (hb.mono (by simp))⟩
theorem below_alloc (w : World) (o : Obj) : Below w.heap.size w (w.alloc o) := (Below.refl _ _).alloc (Nat.le_refl _) o

end Go.Proofs.YtnchgeiinkaefaaGreatDoor.Rule
end

section
/-
  Expressions in memory: the copy.
-/
namespace Go.Proofs.YtnchgeiinkaefaaGreatDoor.Rule
set_option linter.unusedVariables false
open Go.RowKit Tiers


/-! ### the copy of expressions -/

/-- element i of the row in block g, whose cells are not frozen: five cells -/
def Cell5 (W : World) (g i : Nat) (a b c d e : Value) : Prop := W.cell? ⟨g, i * 5, none⟩ = some a ∧ W.cell? ⟨g, i * 5 + 1, none⟩ = some b ∧ W.cell? ⟨g, i * 5 + 2, none⟩ = some c ∧ W.cell? ⟨g, i * 5 + 3, none⟩ = some d ∧ W.cell? ⟨g, i * 5 + 4, none⟩ = some e
/-- the world with element k of the row in block g turned -/
def set5 (W : World) (g k : Nat) (a b c d e : Value) : World := ((((W.setCell ⟨g, k * 5, none⟩ a).setCell ⟨g, k * 5 + 1, none⟩ b).setCell ⟨g, k * 5 + 2, none⟩ c).setCell ⟨g, k * 5 + 3, none⟩ d).setCell ⟨g, k * 5 + 4, none⟩ e

theorem cell5_kept {W W' : World} {g i : Nat} {a b c d e : Value} (h : Cell5 W g i a b c d e) (hb : W'.heap[g]? = W.heap[g]?) : Cell5 W' g i a b c d e :=
  ⟨(World.cell?_of_block (w := W) hb).trans h.1, (World.cell?_of_block (w := W) hb).trans h.2.1, (World.cell?_of_block (w := W) hb).trans h.2.2.1, (World.cell?_of_block (w := W) hb).trans h.2.2.2.1, (World.cell?_of_block (w := W) hb).trans h.2.2.2.2⟩
theorem off_ne {g x y : Nat} (h : x ≠ y) : (⟨g, x, none⟩ : Addr) ≠ ⟨g, y, none⟩ := fun e => h (congrArg Addr.off e)
theorem set5_far {W : World} {g k x : Nat} {a b c d e : Value} (h : x < k * 5 ∨ k * 5 + 5 ≤ x) : (set5 W g k a b c d e).cell? ⟨g, x, none⟩ = W.cell? ⟨g, x, none⟩ := by
  unfold set5
  rw [World.cell?_setCell_other _ _ _ _ (off_ne (by omega)), World.cell?_setCell_other _ _ _ _ (off_ne (by omega)), World.cell?_setCell_other _ _ _ _ (off_ne (by omega)), World.cell?_setCell_other _ _ _ _ (off_ne (by omega)), World.cell?_setCell_other _ _ _ _ (off_ne (by omega))]
theorem set5_other {W : World} {g k i : Nat} {a b c d e a' b' c' d' e' : Value} (h : Cell5 W g i a b c d e) (hi : i ≠ k) : Cell5 (set5 W g k a' b' c' d' e') g i a b c d e :=
  ⟨(set5_far (by omega)).trans h.1, (set5_far (by omega)).trans h.2.1, (set5_far (by omega)).trans h.2.2.1, (set5_far (by omega)).trans h.2.2.2.1, (set5_far (by omega)).trans h.2.2.2.2⟩
theorem set5_at {W : World} {g k : Nat} {a b c d e a' b' c' d' e' : Value} (h : Cell5 W g k a b c d e) : Cell5 (set5 W g k a' b' c' d' e') g k a' b' c' d' e' := by
  obtain ⟨h0, h1, h2, h3, h4⟩ := h
  unfold Cell5 set5
  refine ⟨?_, ?_, ?_, ?_, ?_⟩
  · rw [World.cell?_setCell_other _ _ _ _ (off_ne (by omega)), World.cell?_setCell_other _ _ _ _ (off_ne (by omega)), World.cell?_setCell_other _ _ _ _ (off_ne (by omega)), World.cell?_setCell_other _ _ _ _ (off_ne (by omega))]
    exact World.cell?_setCell_same _ _ _ h0
  · rw [World.cell?_setCell_other _ _ _ _ (off_ne (by omega)), World.cell?_setCell_other _ _ _ _ (off_ne (by omega)), World.cell?_setCell_other _ _ _ _ (off_ne (by omega))]
    exact World.cell?_setCell_same _ _ _ (by rw [World.cell?_setCell_other _ _ _ _ (off_ne (by omega))]; exact h1)
  · rw [World.cell?_setCell_other _ _ _ _ (off_ne (by omega)), World.cell?_setCell_other _ _ _ _ (off_ne (by omega))]
    exact World.cell?_setCell_same _ _ _ (by rw [World.cell?_setCell_other _ _ _ _ (off_ne (by omega)), World.cell?_setCell_other _ _ _ _ (off_ne (by omega))]; exact h2)
  · rw [World.cell?_setCell_other _ _ _ _ (off_ne (by omega))]
    exact World.cell?_setCell_same _ _ _ (by rw [World.cell?_setCell_other _ _ _ _ (off_ne (by omega)), World.cell?_setCell_other _ _ _ _ (off_ne (by omega)), World.cell?_setCell_other _ _ _ _ (off_ne (by omega))]; exact h3)
  · exact World.cell?_setCell_same _ _ _ (by rw [World.cell?_setCell_other _ _ _ _ (off_ne (by omega)), World.cell?_setCell_other _ _ _ _ (off_ne (by omega)), World.cell?_setCell_other _ _ _ _ (off_ne (by omega)), World.cell?_setCell_other _ _ _ _ (off_ne (by omega))]; exact h4)
theorem set5_block (W : World) (g k : Nat) (a b c d e : Value) (j : Nat) (h : j ≠ g) : (set5 W g k a b c d e).heap[j]? = W.heap[j]? := by
  unfold set5
  rw [Below.heap_setCell _ _ _ _ (by simpa using h), Below.heap_setCell _ _ _ _ (by simpa using h), Below.heap_setCell _ _ _ _ (by simpa using h), Below.heap_setCell _ _ _ _ (by simpa using h), Below.heap_setCell _ _ _ _ (by simpa using h)]
theorem set5_frozen (W : World) (g k : Nat) (a b c d e : Value) (p : Addr) : (set5 W g k a b c d e).frozen? p = W.frozen? p := by
  unfold set5; simp only [World.frozen?_setCell]
theorem set5_size (W : World) (g k : Nat) (a b c d e : Value) : (set5 W g k a b c d e).heap.size = W.heap.size := by
  unfold set5; simp
theorem set5_below {B : Nat} {w W : World} (h : Below B w W) (g k : Nat) (a b c d e : Value) (hg : B ≤ g) : Below B w (set5 W g k a b c d e) := by
  unfold set5
  exact ((((h.setCell (p := ⟨g, k * 5, none⟩) hg _).setCell (p := ⟨g, k * 5 + 1, none⟩) hg _).setCell (p := ⟨g, k * 5 + 2, none⟩) hg _).setCell (p := ⟨g, k * 5 + 3, none⟩) hg _).setCell (p := ⟨g, k * 5 + 4, none⟩) hg _

/-- the row in block g of the copy, k elements of l being done -/
def ECopy (W : World) (g d k : Nat) (l : List Ex) : Prop := g < W.heap.size ∧ (∀ j, W.frozen? ⟨g, j, none⟩ = false) ∧ (∀ i, i < l.length → ∃ a b c d e, Cell5 W g i a b c d e) ∧
  ∀ i, i < k → ∃ kv tv, Cell5 W g i (.int .i64 (l.getD i E0).kind) (.int .i64 (l.getD i E0).num) (.string (l.getD i E0).meter) kv tv ∧ ((l.getD i E0).meter.size ≤ maxLen ∧ (l.getD i E0).tiers.length ≤ maxLen) ∧ ES (g + 1) W.heap.size W d kv (l.getD i E0).kids ∧ TL (g + 1) W.heap.size W tv (l.getD i E0).tiers

theorem ECopy.kept {W W' : World} {g d k : Nat} {l : List Ex} (h : ECopy W g d k l) (hb : Below W.heap.size W W') : ECopy W' g d k l := by
  obtain ⟨h1, h2, h3, h4⟩ := h
  have hg := hb.block g h1
  refine ⟨Nat.lt_of_lt_of_le h1 hb.size, fun j => (hb.frozen (p := ⟨g, j, none⟩) h1).trans (h2 j), fun i hi => ?_, fun i hi => ?_⟩
  · obtain ⟨a, b, c, d, e, h⟩ := h3 i hi
    exact ⟨a, b, c, d, e, cell5_kept h hg⟩
  · obtain ⟨kv, tv, hc, hz, hk, ht⟩ := h4 i hi
    exact ⟨kv, tv, cell5_kept hc hg, hz, (hk.kept (same_below hb (Nat.le_refl _))).mono (Nat.le_refl _) hb.size, (ht.kept (same_below hb (Nat.le_refl _))).mono (Nat.le_refl _) hb.size⟩

theorem ECopy.step {W : World} {g d k : Nat} {l : List Ex} {kv tv : Value} (h : ECopy W g d k l) (hk : k < l.length) (hz : (l.getD k E0).meter.size ≤ maxLen ∧ (l.getD k E0).tiers.length ≤ maxLen)
    (hK : ES (g + 1) W.heap.size W d kv (l.getD k E0).kids) (hT : TL (g + 1) W.heap.size W tv (l.getD k E0).tiers) :
    ECopy (set5 W g k (.int .i64 (l.getD k E0).kind) (.int .i64 (l.getD k E0).num) (.string (l.getD k E0).meter) kv tv) g d (k + 1) l := by
  obtain ⟨h1, h2, h3, h4⟩ := h
  have hs : Same (g + 1) W.heap.size W (set5 W g k (.int .i64 (l.getD k E0).kind) (.int .i64 (l.getD k E0).num) (.string (l.getD k E0).meter) kv tv) := fun j hj _ => set5_block _ _ _ _ _ _ _ _ j (by omega)
  refine ⟨by rw [set5_size]; exact h1, fun j => by rw [set5_frozen]; exact h2 j, fun i hi => ?_, fun i hi => ?_⟩
  · by_cases e : i = k
    · subst e
      obtain ⟨a, b, c, d, e, h⟩ := h3 i hi
      exact ⟨_, _, _, _, _, set5_at h⟩
    · obtain ⟨a, b, c, d, e', h⟩ := h3 i hi
      exact ⟨a, b, c, d, e', set5_other h e⟩
  · rw [set5_size]
    by_cases e : i = k
    · subst e
      obtain ⟨a, b, c, d, e, h⟩ := h3 i hk
      exact ⟨kv, tv, set5_at h, hz, hK.kept hs, hT.kept hs⟩
    · obtain ⟨kv', tv', hc, hz', hk', ht'⟩ := h4 i (by omega)
      exact ⟨kv', tv', set5_other hc e, hz', hk'.kept hs, ht'.kept hs⟩
theorem ECopy.done {W : World} {g d : Nat} {l : List Ex} (h : ECopy W g d l.length l) (hl : l.length ≤ maxLen) (cap : Nat) : ES g W.heap.size W (d + 1) (.slice (some ⟨g, 0, none⟩) l.length cap) l := by
  obtain ⟨h1, h2, h3, h4⟩ := h
  refine .inr ⟨g, 0, cap, rfl, hl, Nat.le_refl _, h1, fun i hi => ?_⟩
  obtain ⟨kv, tv, hc, hz, hk, ht⟩ := h4 i hi
  exact ⟨kv, tv, by simpa [Cell5] using hc, hz, hk.mono (by omega) (Nat.le_refl _), ht.mono (by omega) (Nat.le_refl _)⟩

theorem infoE : (Tryz.prog.info? 77).map (fun i => (i.zero, i.size, i.bytes)) = some (some (.agg #[.int .i64 0, .int .i64 0, .string ByteArray.empty, .slice none 0 0, .slice none 0 0]), 5, 80) := by kernel_rfl
def zero5 : Array Value := #[.int .i64 0, .int .i64 0, .string ByteArray.empty, .slice none 0 0, .slice none 0 0]
theorem makeE (n : Nat) (hn : n ≤ 1048576) (w : World) : (Instr.makeSlice 74 (.int .i64 (n : Int)) (.int .i64 (n : Int))).run Tryz.prog w = .ok (.slice (some ⟨w.heap.size, 0, none⟩) n n) (w.alloc (.cells (madeCells zero5 (n * 5)) 77)) := by
  obtain ⟨i, hi, h2⟩ := Option.map_eq_some_iff.1 infoE
  simp only [Prod.mk.injEq] at h2
  obtain ⟨hz, hs, hb⟩ := h2
  have := run_make (P := Tryz.prog) w 74 77 i _ Tryz.underlying74 hi hz .i64 .i64 n n (by omega) (by omega) (by rw [hb]; omega) (by omega)
  have e : (Value.agg #[.int .i64 0, .int .i64 0, .string ByteArray.empty, .slice none 0 0, .slice none 0 0]).cells = zero5 := rfl
  rw [hs, e] at this
  simpa using this
theorem ECopy.made (w : World) (l : List Ex) (d : Nat) (t : TypeId) : ECopy (w.alloc (.cells (madeCells zero5 (l.length * 5)) t)) w.heap.size d 0 l := by
  have e1 := (MapKept.heap_alloc w (.cells (madeCells zero5 (l.length * 5)) t)).1
  have hcell : ∀ x, x < l.length * 5 → ∃ v, (w.alloc (.cells (madeCells zero5 (l.length * 5)) t)).cell? ⟨w.heap.size, x, none⟩ = some v := fun x hx => by
    simp only [World.cell?]
    rw [e1]
    refine ⟨(madeCells zero5 (l.length * 5))[x]'(by rw [size_madeCells]; exact hx), ?_⟩
    simp [size_madeCells, hx]
  refine ⟨by simp, fun j => ?_, fun i hi => ?_, fun i hi => by omega⟩
  · simp only [World.frozen?]
    rw [e1]; simp
  · obtain ⟨a, ha⟩ := hcell (i * 5) (by omega)
    obtain ⟨b, hb⟩ := hcell (i * 5 + 1) (by omega)
    obtain ⟨c, hc⟩ := hcell (i * 5 + 2) (by omega)
    obtain ⟨d, hd⟩ := hcell (i * 5 + 3) (by omega)
    obtain ⟨e, he⟩ := hcell (i * 5 + 4) (by omega)
    exact ⟨a, b, c, d, e, ha, hb, hc, hd, he⟩
end Go.Proofs.YtnchgeiinkaefaaGreatDoor.Rule
end
