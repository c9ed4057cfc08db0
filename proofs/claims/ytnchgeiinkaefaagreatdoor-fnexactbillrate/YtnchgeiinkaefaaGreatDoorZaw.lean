/-
  Texts of this proof laid together, in build order; each says of itself what it holds.
-/
import Derived.Test.YtnchgeiinkaefaaGreatDoorZav
import Derived.Shelf.SlIter.Nil
import Derived.Shelf.SortM.Plain
import Derived.Shelf.SortM.SortNone
import Derived.Ground.GgzProg
import Derived.Ground.SlgmProg
import Derived.Test.YtnchgeiinkaefaaGreatDoorProg
import Derived.RangeFuncNested
import Derived.RangeFuncBound
import Derived.RangeFuncCalls
import Derived.RangeFuncLeaves
import Derived.Shelf.Abstract
import Derived.Shelf.RegionOpen
import Derived.OwnWalkIn
import Derived.TacticsInMore
import Derived.LoopNIn
import Derived.LoopIn
import Derived.ArgAppend
import Derived.Deep.AppendLies
import Derived.Test.YtnchgeiinkaefaaGreatDoorZal
import Derived.Test.YtnchgeiinkaefaaGreatDoorZaf
section
/-
  Events in a map by their Ids: the methods 'put' and 'fix'.
-/
namespace Go.Proofs.YtnchgeiinkaefaaGreatDoor.Evs
set_option linter.unusedVariables false
open Go.RowKit Go.Maps MapM

/-- the event of that Id, and whether there is one -/
def lookE (l : List E) (s : ByteArray) : E × Bool := match l.find? (fun x => decide (x.1 = s)) with | some x => (x, true) | none => (E0, false)

theorem kb_inj {a : E} {s : ByteArray} (h : kb keyE a = s.data.toList) : a.1 = s := by
  have h1 : a.1.data = s.data := Array.toList_inj.1 h
  cases ha : a.1; cases s; rw [ha] at h1; simp only at h1; rw [h1]
theorem lookE_cases (l : List E) (s : ByteArray) : (∃ k, ∃ hk : k < l.length, l[k].1 = s ∧ lookE l s = (l[k], true)) ∨ ((∀ a ∈ l, a.1 ≠ s) ∧ lookE l s = (E0, false)) := by
  cases hf : l.find? (fun x => decide (x.1 = s)) with
  | some x =>
    refine .inl ?_
    have hm := List.mem_of_find?_eq_some hf
    have hx := List.find?_some hf
    obtain ⟨k, hk, rfl⟩ := List.getElem_of_mem hm
    exact ⟨k, hk, by simpa using hx, by unfold lookE; rw [hf]⟩
  | none =>
    refine .inr ⟨fun a ha he => ?_, by unfold lookE; rw [hf]⟩
    have := List.find?_eq_none.1 hf a ha
    simp [he] at this
theorem lookE_key {l : List E} {s : ByteArray} {x : E} (h : lookE l s = (x, true)) : x.1 = s := by
  rcases lookE_cases l s with ⟨k, hk, h1, e⟩ | ⟨_, e⟩
  · rw [e] at h
    simp only [Prod.mk.injEq, and_true] at h
    rw [← h]; exact h1
  · rw [e] at h; simp at h
theorem ext_toList {s t : ByteArray} (h : s.toList = t.toList) : s = t := by
  rw [Lib.toList_data, Lib.toList_data] at h
  cases s; cases t
  simp only at h
  rw [Array.toList_inj.1 h]
theorem look_DE {l : List E} (ha : Asc keyE l) (s : ByteArray) : (DE l).atKey (.string s.data.toList) (.held (eV E0)) = .held (eV (lookE l s).1) ∧ Maps.has (DE l) (.string s.data.toList) = (lookE l s).2 := by
  rcases lookE_cases l s with ⟨k, hk, rfl, e⟩ | ⟨hn, e⟩
  · rw [e]
    exact ⟨atKey_hit keyE eV _ l k hk ha, has_hit keyE eV l ⟨l[k], List.getElem_mem hk, rfl⟩⟩
  · rw [e]
    have : ∀ a ∈ l, kb keyE a ≠ s.data.toList := fun a hm he => hn a hm (kb_inj he)
    exact ⟨atKey_miss keyE eV _ l this, has_miss keyE eV l this⟩

theorem zeroE (w : World) : (zeroValue 59).run Tryz.prog w = .ok (eV E0) w := by kernel_rfl

/-- 'v, ok := m[k]' -/
theorem wpList_look {w : World} {ops : Array Oper} {rest : List Oper} {o : Oper} {a : Act} {Q : Exit → Act → World → Prop} (hg : o.guard = none) (m x : Operand) (t : TypeId) (hop : o.op = Op.lookup t m x true)
    (ht : Tryz.prog.underlying t = some (.map 9 59)) (b : Nat) (l : List E) (hm : a.eval m = .map (some b)) (h : EM w b l) (ha : Asc keyE l) (s : ByteArray) (hx : a.eval x = .string s) (hs : s.size ≤ maxLen) (r : E × Bool) (hr : lookE l s = r)
    (hK : wpList Tryz.prog ops Q rest (a.put o.dst (.tuple #[eV r.1, .bool r.2])) w) : wpList Tryz.prog ops Q (o :: rest) a w := by
  refine wpList_lookup_own_ok w hg m x t hop 9 59 law ht RV (zeroE w) _ _ rfl b _ _ hm h (.string s) (.string s.data.toList) hx (WideMaps.keyOf_string_mk Tryz.underlying9 hs) ?_
  intro v ps hv
  have h1 := (look_DE ha s).1
  have h2 := (look_DE ha s).2
  rw [h2]
  rw [h1] at hv
  simp only [RV, Option.some.injEq, Prod.mk.injEq, DataW.held.injEq] at hv
  rw [hv.1, hr]
  exact hK
/-- 'm[k]' -/
theorem wpList_look1 {w : World} {ops : Array Oper} {rest : List Oper} {o : Oper} {a : Act} {Q : Exit → Act → World → Prop} (hg : o.guard = none) (m x : Operand) (t : TypeId) (hop : o.op = Op.lookup t m x false)
    (ht : Tryz.prog.underlying t = some (.map 9 59)) (b : Nat) (l : List E) (hm : a.eval m = .map (some b)) (h : EM w b l) (ha : Asc keyE l) (s : ByteArray) (hx : a.eval x = .string s) (hs : s.size ≤ maxLen)
    (hK : wpList Tryz.prog ops Q rest (a.put o.dst (eV (lookE l s).1)) w) : wpList Tryz.prog ops Q (o :: rest) a w := by
  refine wpList_plain hg fun K' hK' => ?_
  obtain ⟨v, ps, hrun, hv⟩ := World.ownsMap.lookup h law ht (zeroE w) (zd := .held (eV E0)) (zp := []) rfl (key := .string s) (WideMaps.keyOf_string_mk Tryz.underlying9 hs)
  rw [(look_DE ha s).1] at hv
  simp only [RV, Option.some.injEq, Prod.mk.injEq, DataW.held.injEq] at hv
  rw [hv.1] at hrun
  unfold Oper.wp
  simp [execOp, hop, hm, hx, hrun, Result.andThen]
  exact hK' _ _ hK

/-- 'len(m)' -/
theorem wpList_lenE {w : World} {ops : Array Oper} {rest : List Oper} {o : Oper} {a : Act} {Q : Exit → Act → World → Prop} (hg : o.guard = none) (m : Operand) (t : TypeId) (hop : o.op = Op.call { callee := Callee.builtin Builtin.len, args := #[m], argTypes := #[t] })
    (ht : Tryz.prog.underlying t = some (.map 9 59)) (b : Nat) (l : List E) (hm : a.eval m = .map (some b)) (h : EM w b l)
    (hK : wpList Tryz.prog ops Q rest (a.put o.dst (.int .i64 (l.length : Int))) w) : wpList Tryz.prog ops Q (o :: rest) a w := by
  refine wpList_len_own w hg m t hop 9 59 ht RV b _ _ hm h ?_
  rw [size_DM]
  exact hK

/-- UsePut's code -/
def putC (l : List E) (e : E) : Int := if rightE e = false then 4 else if (lookE l e.1).2 = true then (if (lookE l e.1).1 = e then 1 else 2) else if 20 ≤ l.length then 3 else 0
/-- the events behind it -/
def putL (l : List E) (e : E) : List E := if putC l e = 0 then l.take (pos keyE (kb keyE e) l) ++ e :: l.drop (pos keyE (kb keyE e) l) else l

theorem EM.grown {W W' : World} {b : Nat} {l : List E} {r : Option Nat} (h : EM W b l) (hg : W.grownBy W' r) (hne : some b ≠ r) : EM W' b l := World.ownsMap.kept h hg hne
theorem below_grown {a b : World} (h : Below a.heap.size a b) (r : Option Nat) : a.grownBy b r := ⟨h.os, h.tape, h.output, h.size, fun j hj _ => h.block j hj⟩
theorem grown_trans {a b c : World} {r : Option Nat} (h : a.grownBy b r) (k : b.grownBy c r) : a.grownBy c r :=
  ⟨k.os.trans h.os, k.tape.trans h.tape, k.output.trans h.output, Nat.le_trans h.size k.size, fun j hj hne => (k.block j (Nat.lt_of_lt_of_le hj h.size) hne).trans (h.block j hj hne)⟩

theorem putL_new {l : List E} {e : E} (hr : rightE e = true) (hk : (lookE l e.1).2 = false) (hl : ¬ 20 ≤ l.length) : putC l e = 0 ∧ putL l e = l.take (pos keyE (kb keyE e) l) ++ e :: l.drop (pos keyE (kb keyE e) l) ∧ (DE l).put (.string e.1.data.toList) (.held (eV e)) = DE (putL l e) ∧ (putL l e).length = l.length + 1 := by
  have h0 : putC l e = 0 := by unfold putC; rw [if_neg (by rw [hr]; simp), if_neg (by rw [hk]; simp), if_neg hl]
  have h1 : putL l e = l.take (pos keyE (kb keyE e) l) ++ e :: l.drop (pos keyE (kb keyE e) l) := by unfold putL; rw [if_pos h0]
  refine ⟨h0, h1, ?_, ?_⟩
  · rw [h1]
    refine put_new keyE eV l e (fun a ha he => ?_)
    rcases lookE_cases l e.1 with ⟨k, hk', _, e2⟩ | ⟨hn, _⟩
    · rw [e2] at hk; simp at hk
    · exact hn a ha (kb_inj he)
  · rw [h1]
    have := pos_le keyE (kb keyE e) l
    simp
    omega
theorem putL_old {l : List E} {e : E} (h : putC l e ≠ 0) : putL l e = l := by unfold putL; rw [if_neg h]

end Go.Proofs.YtnchgeiinkaefaaGreatDoor.Evs
end

section
/-
  Events in a map by their Ids: the method 'fix'.
-/
namespace Go.Proofs.YtnchgeiinkaefaaGreatDoor.Evs
set_option linter.unusedVariables false
open Go.RowKit Go.Maps MapM

/-- UseFix's code -/
def fixC (l : List E) (id : ByteArray) (q : Int) : Int := if decide (0 ≤ q ∧ q ≤ 1000000000) = false then 4 else if (lookE l id).2 = false then 5 else if (lookE l id).1.2.2 = q then 1 else 0
/-- the events behind it -/
def fixL (l : List E) (id : ByteArray) (q : Int) : List E := if fixC l id q = 0 then l.set (pos keyE id.data.toList l) (id, (lookE l id).1.2.1, q) else l
theorem fixL_old {l : List E} {id : ByteArray} {q : Int} (h : fixC l id q ≠ 0) : fixL l id q = l := by unfold fixL; rw [if_neg h]

theorem pos_hit {l : List E} (ha : Asc keyE l) {k : Nat} (hk : k < l.length) : pos keyE (kb keyE l[k]) l = k :=
  pos_of keyE (Nat.le_of_lt hk) (fun i hi hik => List.pairwise_iff_getElem.1 ha i k hi hk hik) (fun _ => List.lt_irrefl _)

theorem fixL_new {l : List E} {id : ByteArray} {q : Int} {x : E} (ha : Asc keyE l) (hq : decide (0 ≤ q ∧ q ≤ 1000000000) = true) (hk : lookE l id = (x, true)) (hx : x.2.2 ≠ q) : fixC l id q = 0 ∧ (DE l).put (.string id.data.toList) (.held (eV (id, x.2.1, q))) = DE (fixL l id q) ∧ (fixL l id q).length = l.length := by
  have h0 : fixC l id q = 0 := by unfold fixC; rw [if_neg (by rw [hq]; simp), if_neg (by rw [hk]; simp), if_neg (by rw [hk]; exact hx)]
  have h1 : fixL l id q = l.set (pos keyE id.data.toList l) (id, x.2.1, q) := by unfold fixL; rw [if_pos h0, hk]
  refine ⟨h0, ?_, by rw [h1]; simp⟩
  rcases lookE_cases l id with ⟨k, hk', e1, e2⟩ | ⟨_, e2⟩
  · have hp : pos keyE id.data.toList l = k := by rw [← e1]; exact pos_hit ha hk'
    rw [h1, hp]
    exact put_old keyE eV l (id, x.2.1, q) k hk' ha (by show l[k].1.data.toList = id.data.toList; rw [e1])
  · rw [e2] at hk; simp at hk

theorem ownsMap_tight {W : World} {b n n' : Nat} {D : DataW Value} (h : W.ownsMap Tryz.prog 9 RV b n D) (hn : Maps.size D = n') : W.ownsMap Tryz.prog 9 RV b n' D := by
  obtain ⟨es, clock, hb, F, hs, rfl⟩ := h
  refine ⟨es, clock, hb, F, ?_, rfl⟩
  rw [← hn, Maps.size_eq, length_read]
  exact Nat.le_refl _

end Go.Proofs.YtnchgeiinkaefaaGreatDoor.Evs
end

section
/-
  DERIVED: THE SHELF's CONTRACTS AT THIS DUMP, IN PLAIN WORDS (tools/lay-plain.mjs out of 'YtnchgeiinkaefaaGreatDoorIter.lean', which tools/lay-shelf.mjs wrote): THE SAME DECLARATIONS UNDER THE SAME NAMES: 'import', 'namespace', 'open', 'def', 'theorem' AND NOTHING ELSE: no command of the shelf's: FOR A HAND-IN. Each laying: the table of numbers ('.._ren') and one theorem, a field a fact of the dump's own or the kernel's comparison; each contract: ONE APPLICATION.
-/
namespace Go.Proofs
open Go.Shelf
def Tryz.keys101_ren : Go.Shelf.Ren := ⟨fun | 7 => 101 | 10 => 128 | n => n, fun | 23 => 116 | 26 => 9 | 3 => 3 | 28 => 161 | 0 => 0 | 27 => 160 | 33 => 98 | 4 => 4 | n => n, fun | n => n⟩
theorem Tryz.keys101 : Go.Proofs.SlLaysZ.n7 Tryz.prog Tryz.keys101_ren := {
  mixed := by kernel_rfl
  f7 := ⟨Tryz.f101.name, by decide, Tryz.func101.trans (congrArg some (by kernel_rfl))⟩
  f10 := ⟨Tryz.f128.name, by decide, Tryz.func128.trans (congrArg some (by kernel_rfl))⟩
  t0 := Tryz.underlying0
  a0 := Tryz.isAgg0
  z0 := Tryz.sizeOf0
  v0 := Tryz.zeroValue0
  t4 := Tryz.underlying4
  a4 := Tryz.isAgg4
  z4 := Tryz.sizeOf4
  v4 := Tryz.zeroValue4
  t23 := Tryz.underlying116
  a23 := Tryz.isAgg116
  z23 := Tryz.sizeOf116
  v23 := Tryz.zeroValue116
  t26 := Tryz.underlying9
  a26 := Tryz.isAgg9
  z26 := Tryz.sizeOf9
  v26 := Tryz.zeroValue9
  t27 := Tryz.underlying160
  a27 := Tryz.isAgg160
  z27 := Tryz.sizeOf160
  v27 := Tryz.zeroValue160
  t28 := Tryz.underlying161
  a28 := Tryz.isAgg161
  z28 := Tryz.sizeOf161
  v28 := Tryz.zeroValue161
  t33 := Tryz.underlying98
  a33 := Tryz.isAgg98
  z33 := Tryz.sizeOf98
  v33 := Tryz.zeroValue98 }
def Tryz.sorted100_ren : Go.Shelf.Ren := ⟨fun | 6 => 100 | 8 => 126 | 9 => 127 | 11 => 146 | 13 => 130 | 12 => 147 | 23 => 156 | 24 => 157 | 14 => 172 | 15 => 173 | 16 => 174 | 17 => 175 | 18 => 176 | 19 => 177 | 20 => 178 | 21 => 179 | 22 => 180 | 25 => 201 | 26 => 182 | 27 => 183 | 28 => 202 | 29 => 203 | 30 => 204 | 31 => 214 | n => n, fun | 26 => 9 | 28 => 161 | 24 => 158 | 0 => 0 | 3 => 3 | 37 => 214 | 48 => 243 | 50 => 245 | 4 => 4 | 40 => 237 | 39 => 236 | 45 => 50 | 5 => 5 | 9 => 9 | 51 => 268 | 55 => 204 | 57 => 295 | 58 => 93 | 33 => 98 | n => n, fun | n => n⟩
theorem Tryz.sorted100 : Go.Proofs.SlLaysZ.n6 Tryz.prog Tryz.sorted100_ren := {
  mixed := by kernel_rfl
  f6 := ⟨Tryz.f100.name, by decide, Tryz.func100.trans (congrArg some (by kernel_rfl))⟩
  f8 := ⟨Tryz.f126.name, by decide, Tryz.func126.trans (congrArg some (by kernel_rfl))⟩
  f11 := ⟨Tryz.f146.name, by decide, Tryz.func146.trans (congrArg some (by kernel_rfl))⟩
  t0 := Tryz.underlying0
  a0 := Tryz.isAgg0
  z0 := Tryz.sizeOf0
  v0 := Tryz.zeroValue0
  t24 := Tryz.underlying158
  a24 := Tryz.isAgg158
  z24 := Tryz.sizeOf158
  v24 := Tryz.zeroValue158
  t26 := Tryz.underlying9
  a26 := Tryz.isAgg9
  z26 := Tryz.sizeOf9
  v26 := Tryz.zeroValue9
  t28 := Tryz.underlying161
  a28 := Tryz.isAgg161
  z28 := Tryz.sizeOf161
  v28 := Tryz.zeroValue161
  i26 := by kernel_rfl }
def Tryz.sort127_ren : Go.Shelf.Ren := ⟨fun | 6 => 127 | 8 => 130 | 9 => 147 | 19 => 156 | 20 => 157 | 21 => 172 | 22 => 173 | 23 => 174 | 24 => 175 | 25 => 176 | 26 => 177 | 27 => 178 | 28 => 179 | 29 => 180 | 36 => 201 | 31 => 182 | 32 => 183 | 37 => 202 | 38 => 203 | 39 => 204 | 41 => 214 | n => n, fun | 27 => 158 | 29 => 9 | 3 => 3 | 32 => 214 | 26 => 158 | 0 => 0 | 44 => 243 | 46 => 245 | 4 => 4 | 36 => 237 | 35 => 236 | 41 => 50 | 5 => 5 | 9 => 9 | 53 => 268 | 57 => 204 | 63 => 295 | 64 => 93 | n => n, fun | n => n⟩
theorem Tryz.sort127 : Go.Proofs.SlLaysM.n6 Tryz.prog Tryz.sort127_ren := {
  mixed := by kernel_rfl
  f6 := ⟨Tryz.f127.name, by decide, Tryz.func127.trans (congrArg some (by kernel_rfl))⟩
  f8 := Tryz.func130.trans (congrArg some (by kernel_rfl))
  f9 := ⟨Tryz.f147.name, by decide, Tryz.func147.trans (congrArg some (by kernel_rfl))⟩
  f19 := Tryz.func156.trans (congrArg some (by kernel_rfl))
  f20 := Tryz.func157.trans (congrArg some (by kernel_rfl))
  f21 := ⟨Tryz.f172.name, by decide, Tryz.func172.trans (congrArg some (by kernel_rfl))⟩
  f22 := ⟨Tryz.f173.name, by decide, Tryz.func173.trans (congrArg some (by kernel_rfl))⟩
  f23 := ⟨Tryz.f174.name, by decide, Tryz.func174.trans (congrArg some (by kernel_rfl))⟩
  f24 := ⟨Tryz.f175.name, by decide, Tryz.func175.trans (congrArg some (by kernel_rfl))⟩
  f25 := ⟨Tryz.f176.name, by decide, Tryz.func176.trans (congrArg some (by kernel_rfl))⟩
  f26 := ⟨Tryz.f177.name, by decide, Tryz.func177.trans (congrArg some (by kernel_rfl))⟩
  f27 := ⟨Tryz.f178.name, by decide, Tryz.func178.trans (congrArg some (by kernel_rfl))⟩
  f28 := ⟨Tryz.f179.name, by decide, Tryz.func179.trans (congrArg some (by kernel_rfl))⟩
  f29 := ⟨Tryz.f180.name, by decide, Tryz.func180.trans (congrArg some (by kernel_rfl))⟩
  f31 := Tryz.func182.trans (congrArg some (by kernel_rfl))
  f32 := Tryz.func183.trans (congrArg some (by kernel_rfl))
  f36 := ⟨Tryz.f201.name, by decide, Tryz.func201.trans (congrArg some (by kernel_rfl))⟩
  f37 := ⟨Tryz.f202.name, by decide, Tryz.func202.trans (congrArg some (by kernel_rfl))⟩
  f38 := ⟨Tryz.f203.name, by decide, Tryz.func203.trans (congrArg some (by kernel_rfl))⟩
  f39 := ⟨Tryz.f204.name, by decide, Tryz.func204.trans (congrArg some (by kernel_rfl))⟩
  f41 := ⟨Tryz.f214.name, by decide, Tryz.func214.trans (congrArg some (by kernel_rfl))⟩
  t0 := Tryz.underlying0
  a0 := Tryz.isAgg0
  z0 := Tryz.sizeOf0
  v0 := Tryz.zeroValue0
  t3 := Tryz.underlying3
  a3 := Tryz.isAgg3
  z3 := Tryz.sizeOf3
  v3 := Tryz.zeroValue3
  t4 := Tryz.underlying4
  a4 := Tryz.isAgg4
  z4 := Tryz.sizeOf4
  v4 := Tryz.zeroValue4
  t5 := Tryz.underlying5
  a5 := Tryz.isAgg5
  z5 := Tryz.sizeOf5
  v5 := Tryz.zeroValue5
  t9 := Tryz.underlying9
  a9 := Tryz.isAgg9
  z9 := Tryz.sizeOf9
  v9 := Tryz.zeroValue9
  t26 := Tryz.underlying158
  a26 := Tryz.isAgg158
  z26 := Tryz.sizeOf158
  v26 := Tryz.zeroValue158
  t27 := Tryz.underlying158
  a27 := Tryz.isAgg158
  z27 := Tryz.sizeOf158
  v27 := Tryz.zeroValue158
  t29 := Tryz.underlying9
  a29 := Tryz.isAgg9
  z29 := Tryz.sizeOf9
  v29 := Tryz.zeroValue9
  t32 := Tryz.underlying214
  a32 := Tryz.isAgg214
  z32 := Tryz.sizeOf214
  v32 := Tryz.zeroValue214
  t35 := Tryz.underlying236
  a35 := Tryz.isAgg236
  z35 := Tryz.sizeOf236
  v35 := Tryz.zeroValue236
  t36 := Tryz.underlying237
  a36 := Tryz.isAgg237
  z36 := Tryz.sizeOf237
  v36 := Tryz.zeroValue237
  t41 := Tryz.underlying50
  a41 := Tryz.isAgg50
  z41 := Tryz.sizeOf50
  v41 := Tryz.zeroValue50
  t44 := Tryz.underlying243
  a44 := Tryz.isAgg243
  z44 := Tryz.sizeOf243
  v44 := Tryz.zeroValue243
  t46 := Tryz.underlying245
  a46 := Tryz.isAgg245
  z46 := Tryz.sizeOf245
  v46 := Tryz.zeroValue245
  t53 := Tryz.underlying268
  a53 := Tryz.isAgg268
  z53 := Tryz.sizeOf268
  v53 := Tryz.zeroValue268
  t57 := Tryz.underlying204
  a57 := Tryz.isAgg204
  z57 := Tryz.sizeOf204
  v57 := Tryz.zeroValue204
  t63 := Tryz.underlying295
  a63 := Tryz.isAgg295
  z63 := Tryz.sizeOf295
  v63 := Tryz.zeroValue295
  t64 := Tryz.underlying93
  a64 := Tryz.isAgg93
  z64 := Tryz.sizeOf93
  v64 := Tryz.zeroValue93 }
open Go.RowKit Go.Maps Go.Sort Go.Shelf

/-- slices.Sort's two contracts at this dump, at the fence that asks nothing. -/
theorem Tryz.sorts100 (m : Nat) : AnyZ.SortsIn Tryz.prog Tryz.sorted100_ren Fence.wide m :=
  ⟨fun blk off cap ss W hH hblk hsz => callsIn_wide.2 (AnyM.slices_Sort_string Tryz.sort127 blk off cap ss W hH hblk hsz),
   fun p cap W => callsIn_wide.2 (AnyM.slices_Sort_string_none Tryz.sort127 p cap W)⟩

/-- **maps.Keys[map[string]int,string,int], at whatever map, the nil one too:** a function value over ONE NEW BLOCK, which holds the map. -/
theorem Tryz.maps_Keys_101 (mb : Option Nat) (W : World) : CallsIn Fence.wide 5 Tryz.prog 101 #[.map mb] W fun e w' => e = .returned (.func (.func 128) #[] #[.pointer (some ⟨W.heap.size, 0, none⟩)]) ∧ w' = W.alloc (.cells #[.map mb] 116) :=
  AnyZ.keys_in Tryz.keys101 Fence.wide 5 trivial rfl mb W

set_option maxHeartbeats 1000000 in
/-- **slices.Sorted[string] AT WHAT maps.Keys[map[string]int,string,int] HANDED BACK FOR A MAP THAT IS NOT nil** ('w': the world AHEAD of maps.Keys' call): A NEW SLICE THAT HOLDS THE MAP's KEYS, SORTED; nil just where it has none; nothing that lay before has turned. -/
theorem Tryz.slices_Sorted_keys_100_101 {H : Type} (b nn : Nat) (D0 : DataW H) (R : Value → Option (DataW H × List MemPlace)) (w : World) (hown : w.ownsMap Tryz.prog 9 R b nn D0) (hmax : Maps.size D0 ≤ maxLen) (hbytes : Maps.size D0 * 16 ≤ 140737488355328) :
    CallsIn Fence.wide 5 Tryz.prog 100 #[.func (.func 128) #[] #[.pointer (some ⟨w.heap.size, 0, none⟩)]] (w.alloc (.cells #[.map (some b)] 116)) fun e w' => ∃ (v : Value) (ss : List (List UInt8)), e = .returned v ∧ ss.Perm (strKeys D0) ∧
      w'.ownsRow (w.alloc (.cells #[.map (some b)] 116)).heap.size 9 1 v ss.length ((ss.mergeSort (fun x y => decide (x ≤ y))).map encStr) ∧ (v = .slice none 0 0 ↔ ss = []) ∧ Below (w.alloc (.cells #[.map (some b)] 116)).heap.size (w.alloc (.cells #[.map (some b)] 116)) w' := by
  have hbl := hown.lt
  have hseq : SeqGives Fence.wide 2 Tryz.prog 128 #[.pointer (some ⟨w.heap.size, 0, none⟩)] encStr (fun ss => ss.Perm (strKeys D0)) (Maps.size D0) (w.alloc (.cells #[.map (some b)] 116)) :=
    AnyZ.keys_gives (ρ := Tryz.keys101_ren) { Tryz.keys101 with } Fence.wide _ trivial rfl (by omega) w.heap.size b nn D0 _ (by simp) (by simp) (by
      obtain ⟨es, clock, hb, Ft, hs, hD⟩ := hown
      exact ⟨es, clock, (Below.heap_alloc _ _ b hbl).trans hb, Ft, hs, hD⟩)
  exact AnyZ.sorted_in Tryz.sorted100 Fence.wide 5 trivial trivial trivial trivial rfl (by omega) (Tryz.sorts100 _) (enters_of Tryz.func127 (by kernel_rfl) rfl) 128 #[.pointer (some ⟨w.heap.size, 0, none⟩)] trivial (enters_of Tryz.func128 (by kernel_rfl) rfl) _ _ hmax hbytes _ hseq

set_option maxHeartbeats 1000000 in
/-- **.. AND FOR THE nil MAP: nil.** -/
theorem Tryz.slices_Sorted_keys_nil_100_101 (w : World) :
    CallsIn Fence.wide 5 Tryz.prog 100 #[.func (.func 128) #[] #[.pointer (some ⟨w.heap.size, 0, none⟩)]] (w.alloc (.cells #[.map none] 116)) fun e w' => ∃ (v : Value) (ss : List (List UInt8)), e = .returned v ∧ ss = [] ∧
      w'.ownsRow (w.alloc (.cells #[.map none] 116)).heap.size 9 1 v ss.length ((ss.mergeSort (fun x y => decide (x ≤ y))).map encStr) ∧ (v = .slice none 0 0 ↔ ss = []) ∧ Below (w.alloc (.cells #[.map none] 116)).heap.size (w.alloc (.cells #[.map none] 116)) w' := by
  have hseq : SeqGives Fence.wide 2 Tryz.prog 128 #[.pointer (some ⟨w.heap.size, 0, none⟩)] encStr (fun ss : List (List UInt8) => ss = []) 0 (w.alloc (.cells #[.map none] 116)) :=
    AnyZ.keys_gives_nil (ρ := Tryz.keys101_ren) { Tryz.keys101 with } Fence.wide _ trivial rfl w.heap.size _ (by simp) (by simp)
  exact AnyZ.sorted_in Tryz.sorted100 Fence.wide 5 trivial trivial trivial trivial rfl (by omega) (Tryz.sorts100 _) (enters_of Tryz.func127 (by kernel_rfl) rfl) 128 #[.pointer (some ⟨w.heap.size, 0, none⟩)] trivial (enters_of Tryz.func128 (by kernel_rfl) rfl) _ 0 (Nat.zero_le _) (by omega) _ hseq
end Go.Proofs
end

section
/-
  What impl.ascending hands out for a map of events: the events in the order of their Ids, for every loop body that keeps what it must.
-/
namespace Go.Proofs.YtnchgeiinkaefaaGreatDoor.Evs
set_option linter.unusedVariables false
open Go.RowKit Go.Maps MapM Go.Shelf

attribute [local go_sem] Oper.semAt_some

/-- what a round keeps: all that lies below B, and every row of cells from B + 2 on -/
structure KpB (B : Nat) (W W' : World) : Prop where
  os : W'.os = W.os
  tape : W'.tape = W.tape
  output : W'.output = W.output
  size : W.heap.size ≤ W'.heap.size
  same : ∀ (j : Nat) (o : Obj), W.heap[j]? = some o → (j < B ∨ B + 2 ≤ j ∧ o.isCells = true) → W'.heap[j]? = some o
theorem KpB.trans {B : Nat} {A C D : World} (h : KpB B A C) (k : KpB B C D) : KpB B A D :=
  ⟨k.os.trans h.os, k.tape.trans h.tape, k.output.trans h.output, Nat.le_trans h.size k.size, fun j o hj ho => k.same j o (h.same j o hj ho) ho⟩
theorem KpB.put {B : Nat} {n : Nat} (hn : B ≤ n) (W : World) (l : Nat) (o o' : Obj) (hl : n ≤ l) (h : W.heap[l]? = some o) (hc : o.isCells = false) (_ : o.isWalk = false) : KpB B W (W.putObj l o') := by
  have hg := grownBy_putObj' W l o'
  refine ⟨hg.os, hg.tape, hg.output, hg.size, fun j x hj hx => ?_⟩
  have hjs : j < W.heap.size := by
    refine Nat.lt_of_not_le fun hle => ?_
    rw [Array.getElem?_eq_none hle] at hj; simp at hj
  have hne : some j ≠ some l := by
    intro e
    simp only [Option.some.injEq] at e
    subst e
    rw [hj] at h
    simp only [Option.some.injEq] at h
    subst h
    rcases hx with hx | ⟨_, hx⟩
    · omega
    · rw [hc] at hx; simp at hx
  exact (hg.block j hjs hne).trans hj
theorem KpB.cell {B : Nat} {W W' : World} (h : KpB B W W') {j o : Nat} {v : Value} (hc : W.cell? ⟨j, o, none⟩ = some v) (hj : j < B ∨ B + 2 ≤ j) : W'.cell? ⟨j, o, none⟩ = some v := by
  obtain ⟨x, hx, hxc⟩ := cells_of_cell hc
  have := h.same j x hx (hj.imp id (fun e => ⟨e, hxc⟩))
  exact (World.cell?_of_block (this.trans hx.symm)).trans hc
theorem EM.keptK {B : Nat} {W W' : World} {b : Nat} {l : List E} (h : EM W b l) (hk : KpB B W W') (hb : b < B) : EM W' b l := by
  obtain ⟨es, clock, hb', F, hs, hD⟩ := h
  exact ⟨es, clock, hk.same b _ hb' (.inl hb), F, hs, hD⟩

/-- the keys in memory -/
def KC (W : World) (bk : Nat) (l : List E) : Prop := ∀ i, i < l.length → W.cell? ⟨bk, i, none⟩ = some (.string (l.getD i E0).1)

theorem enc_key (s : ByteArray) : encStr s.data.toList = .string s := by cases s; simp [encStr]
theorem keys_row {W : World} {base : Nat} {v : Value} {l : List E} (ha : Asc keyE l) {ss : List (List UInt8)} (hp : ss.Perm (strKeys (DE l))) (h : W.ownsRow base 9 1 v ss.length ((ss.mergeSort (fun x y => decide (x ≤ y))).map encStr)) :
    (l = [] ∧ v = .slice none 0 0) ∨ ∃ bk cap, v = .slice (some ⟨bk, 0, none⟩) l.length cap ∧ base ≤ bk ∧ bk < W.heap.size ∧ KC W bk l := by
  rw [keys_DM] at hp
  rw [sorted_keys keyE ha hp] at h
  have hlen : ss.length = l.length := by have := hp.length_eq; simpa using this
  obtain ⟨h1, h2⟩ := h
  rcases h2 with ⟨rfl, hn⟩ | ⟨g, cap, cur, rfl, hb, hg, hc1, hc2, hc3, hc4⟩
  · refine .inl ⟨List.length_eq_zero_iff.1 (by omega), rfl⟩
  · refine .inr ⟨g, cap, by rw [hlen], hb, ?_, fun i hi => ?_⟩
    · refine Nat.lt_of_not_le fun hle => ?_
      rw [Array.getElem?_eq_none hle] at hg; simp at hg
    · have e2 : cur[i]? = some (encStr (kb keyE (l.getD i E0))) := by
        have e1 : (cur.toList.take (ss.length * 1))[i]? = some (encStr (kb keyE (l.getD i E0))) := by
          rw [hc4]
          simp [List.getD, hi]
        rw [List.getElem?_take_of_lt (by omega)] at e1
        simpa using e1
      simp only [World.cell?, hg]
      rw [← enc_key]
      simpa using e2
theorem grown_alloc (w : World) (o : Obj) : w.grownBy (w.alloc o) none := ⟨rfl, rfl, rfl, by simp, fun j hj _ => Below.heap_alloc w o j hj⟩

theorem lookE_at {l : List E} (ha : Asc keyE l) {k : Nat} (hk : k < l.length) : lookE l (l.getD k E0).1 = (l.getD k E0, true) := by
  have hg : l.getD k E0 = l[k] := by simp [List.getD, hk]
  rw [hg]
  rcases lookE_cases l l[k].1 with ⟨k', hk', e1, e2⟩ | ⟨hn, _⟩
  · have : k' = k := by
      rcases Nat.lt_trichotomy k' k with h | h | h
      · have := List.pairwise_iff_getElem.1 ha k' k hk' hk h
        simp only [kb, keyE] at this
        rw [e1] at this
        exact absurd this (List.lt_irrefl _)
      · exact h
      · have := List.pairwise_iff_getElem.1 ha k k' hk hk' h
        simp only [kb, keyE] at this
        rw [e1] at this
        exact absurd this (List.lt_irrefl _)
    subst this
    exact e2
  · exact absurd rfl (hn _ (List.getElem_mem hk))
theorem look1_run {w : World} {b : Nat} {l : List E} {t : TypeId} {s : ByteArray} (ht : Tryz.prog.underlying t = some (.map 9 59)) (h : EM w b l) (ha : Asc keyE l) (hs : s.size ≤ maxLen) :
    (Instr.lookup t (.map (some b)) (.string s) false).run Tryz.prog w = .ok (eV (lookE l s).1) w := by
  obtain ⟨v, ps, hrun, hv⟩ := World.ownsMap.lookup h law ht (zeroE w) (zd := .held (eV E0)) (zp := []) rfl (key := .string s) (WideMaps.keyOf_string_mk Tryz.underlying9 hs)
  rw [(look_DE ha s).1] at hv
  simp only [RV, Option.some.injEq, Prod.mk.injEq, DataW.held.injEq] at hv
  rw [hv.1] at hrun
  exact hrun
theorem take_step {l : List E} {k : Nat} (hk : k < l.length) : l.take k ++ [l.getD k E0] = l.take (k + 1) := by
  rw [List.take_add_one, List.getElem?_eq_getElem hk]; simp [List.getD, hk]

end Go.Proofs.YtnchgeiinkaefaaGreatDoor.Evs
end

section
/-
  Events in a map by their Ids: the method 'list' tells them in their order, in new memory.
-/
namespace Go.Proofs.YtnchgeiinkaefaaGreatDoor.Evs
set_option linter.unusedVariables false
open Go.RowKit Go.Maps MapM Go.Shelf

attribute [local go_sem] Oper.semAt_some

theorem new1 (w : World) (a : Value) (t : TypeId) : (w.alloc (.cells #[a] t)).cell? ⟨w.heap.size, 0, none⟩ = some a ∧ (w.alloc (.cells #[a] t)).frozen? ⟨w.heap.size, 0, none⟩ = false := by
  have e1 := (MapKept.heap_alloc w (.cells #[a] t)).1
  simp only [World.cell?, World.frozen?]
  rw [e1]; simp
theorem EOwn.keptR {W W' : World} {b : Nat} {L : List E} {row : Option Nat} (h : EOwn W b L) (hL : 0 < L.length) (hg : W.grownBy W' row) (hr : ∀ r, row = some r → ∃ o : Obj, W.heap[r]? = some o ∧ o.isCells = false) : EOwn W' b L := by
  obtain ⟨o, ho, hc⟩ := cells_of_cell (h.1.2 0 hL).1
  have hk := grownBy_keeps_cells hg hr ho hc
  refine ⟨⟨Nat.lt_of_lt_of_le h.1.1 hg.size, fun i hi => ?_⟩, fun j => ?_⟩
  · obtain ⟨c0, c1, c2⟩ := h.1.2 i hi
    have key : ∀ o : Nat, W'.cell? ⟨b, o, none⟩ = W.cell? ⟨b, o, none⟩ := fun o => World.cell?_of_block hk
    exact ⟨(key _).trans c0, (key _).trans c1, (key _).trans c2⟩
  · have key : W'.frozen? ⟨b, j, none⟩ = W.frozen? ⟨b, j, none⟩ := World.frozen?_of_block hk
    exact key.trans (h.2 j)
theorem EOwn.other {W : World} {b : Nat} {L : List E} (h : EOwn W b L) {j : Nat} (hj : b ≠ j) (o : Nat) (u : Value) : EOwn (W.setCell ⟨j, o, none⟩ u) b L := by
  have hne : ∀ o' : Nat, (⟨j, o, none⟩ : Addr) ≠ ⟨b, o', none⟩ := fun o' e => hj (by simp only [Addr.mk.injEq] at e; exact e.1.symm)
  refine ⟨⟨by simpa using h.1.1, fun i hi => ?_⟩, fun k => by simpa [World.frozen?_setCell] using h.2 k⟩
  obtain ⟨c0, c1, c2⟩ := h.1.2 i hi
  exact ⟨(World.cell?_setCell_other _ _ _ _ (hne _)).trans c0, (World.cell?_setCell_other _ _ _ _ (hne _)).trans c1, (World.cell?_setCell_other _ _ _ _ (hne _)).trans c2⟩
theorem set_grown (w : World) (b o : Nat) (u : Value) : w.grownBy (w.setCell ⟨b, o, none⟩ u) (some b) := by
  refine ⟨rfl, rfl, rfl, ?_, ?_⟩
  · simp
  · intro j hj hne
    exact Below.heap_setCell w ⟨b, o, none⟩ u j (fun e => hne (by rw [e]))
theorem KpB.grown {B : Nat} {W W' : World} {r : Option Nat} (hg : W.grownBy W' r) (hr : r = none ∨ r = some B ∨ r = some (B + 1)) : KpB B W W' :=
  ⟨hg.os, hg.tape, hg.output, hg.size, fun j o hj ho => by
    have hjs : j < W.heap.size := by
      refine Nat.lt_of_not_le fun hle => ?_
      rw [Array.getElem?_eq_none hle] at hj; simp at hj
    refine (hg.block j hjs ?_).trans hj
    rcases hr with rfl | rfl | rfl
    · simp
    · intro e; simp only [Option.some.injEq] at e; omega
    · intro e; simp only [Option.some.injEq] at e; omega⟩

/-- the row while it is filled -/
def padE (n : Nat) (pre : List E) : List E := pre ++ List.replicate (n - pre.length) E0
theorem padE_len {n : Nat} {pre : List E} (h : pre.length ≤ n) : (padE n pre).length = n := by unfold padE; simp; omega
theorem padE_pos {n : Nat} (pre : List E) (h : 0 < n) : 0 < (padE n pre).length := by unfold padE; simp; omega
theorem padE_step {n : Nat} {pre : List E} (h : pre.length < n) (x : E) : (padE n pre).set pre.length x = padE n (pre ++ [x]) := by
  unfold padE
  have e : n - pre.length = (n - (pre.length + 1)) + 1 := by omega
  rw [e, List.replicate_succ, List.set_append_right _ _ (Nat.le_refl _), Nat.sub_self, List.set_cons_zero]
  simp
theorem padE_full {n : Nat} {pre : List E} (h : pre.length = n) : padE n pre = pre := by unfold padE; simp [h]

/-- one more, where there is room -/
theorem app_run {W : World} {S n : Nat} {pre : List E} (s m : ByteArray) (q : Int) (h : EOwn W S (padE n pre)) (hp : pre.length < n) (ty : TypeId) :
    (Builtin.append_ #[31, 31] ty #[.slice (some ⟨S, 0, none⟩) pre.length n, .slice (some ⟨W.heap.size, 0, none⟩) 1 1]).run Tryz.prog (W.alloc (.cells #[.string s, .string m, .int .i64 q] 59)) =
      .ok (.slice (some ⟨S, 0, none⟩) (pre.length + 1) n) ((((W.alloc (.cells #[.string s, .string m, .int .i64 q] 59)).setCell ⟨S, pre.length * 3, none⟩ (.string s)).setCell ⟨S, pre.length * 3 + 1, none⟩ (.string m)).setCell ⟨S, pre.length * 3 + 2, none⟩ (.int .i64 q)) := by
  obtain ⟨i, hi, h2⟩ := Option.map_eq_some_iff.1 infoE
  simp only [Prod.mk.injEq] at h2
  obtain ⟨hz, hs, hb⟩ := h2
  have hk := h.kept ((Below.refl W.heap.size W).alloc (Nat.le_refl _) (.cells #[.string s, .string m, .int .i64 q] 59))
  have hlt : pre.length < (padE n pre).length := by rw [padE_len (by omega)]; exact hp
  obtain ⟨c0, c1, c2⟩ := hk.1.2 pre.length hlt
  rw [Nat.zero_add] at c0 c1 c2
  have e1 := (MapKept.heap_alloc W (.cells #[.string s, .string m, .int .i64 q] 59)).1
  have := run_append_room_cells (P := Tryz.prog) (W.alloc (.cells #[.string s, .string m, .int .i64 q] 59)) 31 ty 59 i Tryz.underlying31 hi S 0 pre.length n ⟨W.heap.size, 0, none⟩ 1 1 [.string s, .string m, .int .i64 q] (by rw [hs]; rfl)
    (World.news_of_block e1)
    (by simp [Value.oneCell']) (by omega)
    (fun j hj => by
      rw [hs]
      match j, hj with
      | 0, _ => simp [c0]
      | 1, _ => simp [c1]
      | 2, _ => simp [c2]
      | j + 3, hj => simp only [List.length_cons, List.length_nil] at hj; omega)
    (fun j _ => hk.2 _)
  rw [hs, Nat.zero_add] at this
  exact this

/-- an append whose run is known, inside a fence -/
theorem wpListIn_app {F : Fence} {nF : Nat} {w w' : World} {ops : Array Oper} {rest : List Oper} {o : Oper} {a : Act} {Q : Exit → Act → World → Prop} (hgd : o.guard = none) (s x : Operand) (t : TypeId)
    (ho : o.op = .call { callee := .builtin .append, args := #[s, x], argTypes := #[t, t] }) (sv xv v : Value) (hs : a.eval s = sv) (hx : a.eval x = xv) (hr : ∀ ty, (Builtin.append_ #[t, t] ty #[sv, xv]).run Tryz.prog w = .ok v w')
    (h : wpListIn F nF Tryz.prog ops Q rest (a.put o.dst v) w') : wpListIn F nF Tryz.prog ops Q (o :: rest) a w := by
  refine wpListIn_plain hgd fun K hK => ?_
  unfold Oper.wpIn
  refine ⟨by simp [Oper.about, ho, resolve, Target.leads, Sem.run_pure], ?_⟩
  rw [Oper.semAt_plain F _ _ (by rw [ho]; intro c hc'; cases hc')]
  simp [execOp, ho, resolve, invoke, builtin, hs, hx, hr, Result.andThen]
  exact hK _ _ h

end Go.Proofs.YtnchgeiinkaefaaGreatDoor.Evs
end

section
/-
  impl.UsePut and impl.UseFix: what they answer.
-/
namespace Go.Proofs.YtnchgeiinkaefaaGreatDoor.Evs
set_option linter.unusedVariables false
open Go.RowKit Go.Maps MapM

theorem asc_put {l : List E} {e : E} (ha : Asc keyE l) (h : ∀ a ∈ l, kb keyE a ≠ kb keyE e) : Asc keyE (l.take (pos keyE (kb keyE e) l) ++ e :: l.drop (pos keyE (kb keyE e) l)) := by
  have hp := pos_le keyE (kb keyE e) l
  have htake : ∀ a ∈ l.take (pos keyE (kb keyE e) l), kb keyE a < kb keyE e := by
    intro a hm
    obtain ⟨i, hi, rfl⟩ := List.getElem_of_mem hm
    rw [List.getElem_take]
    exact (pos_spec keyE (kb keyE e) l i (by simp at hi; omega)).1 (by simp at hi; omega)
  have hdrop : ∀ a ∈ l.drop (pos keyE (kb keyE e) l), kb keyE e < kb keyE a := by
    intro a hm
    obtain ⟨i, hi, rfl⟩ := List.getElem_of_mem hm
    rw [List.getElem_drop]
    have hi' : pos keyE (kb keyE e) l + i < l.length := by simp at hi; omega
    have hpl : pos keyE (kb keyE e) l < l.length := by omega
    have h1 : kb keyE e < kb keyE l[pos keyE (kb keyE e) l] := lt_tri ((pos_spec keyE (kb keyE e) l _ hpl).2 rfl) (h _ (List.getElem_mem hpl))
    by_cases h0 : i = 0
    · subst h0; exact h1
    · exact List.lt_trans h1 (List.pairwise_iff_getElem.1 ha _ _ hpl hi' (by omega))
  refine List.pairwise_append.2 ⟨List.Pairwise.sublist (List.take_sublist _ _) ha, List.pairwise_cons.2 ⟨hdrop, List.Pairwise.sublist (List.drop_sublist _ _) ha⟩, ?_⟩
  intro a hm b hb
  rcases List.mem_cons.1 hb with rfl | hb
  · exact htake a hm
  · exact List.lt_trans (htake a hm) (hdrop b hb)
theorem asc_set {l : List E} {e : E} {k : Nat} (ha : Asc keyE l) (hk : k < l.length) (h : kb keyE l[k] = kb keyE e) : Asc keyE (l.set k e) := by
  refine List.pairwise_iff_getElem.2 (fun i j hi hj hij => ?_)
  have hi' : i < l.length := by simpa using hi
  have hj' : j < l.length := by simpa using hj
  have hlt := List.pairwise_iff_getElem.1 ha i j hi' hj' hij
  rw [List.getElem_set, List.getElem_set]
  by_cases e1 : k = i
  · subst e1
    rw [if_pos rfl, if_neg (by omega), ← h]
    exact hlt
  · rw [if_neg e1]
    by_cases e2 : k = j
    · subst e2
      rw [if_pos rfl, ← h]
      exact hlt
    · rw [if_neg e2]
      exact hlt
theorem putL_asc {l : List E} {e : E} (ha : Asc keyE l) : Asc keyE (putL l e) := by
  by_cases h : putC l e = 0
  · have hk : (lookE l e.1).2 = false := by
      cases hk : (lookE l e.1).2 with
      | false => rfl
      | true =>
        unfold putC at h
        rw [hk] at h
        split at h
        · simp at h
        · simp only [if_true] at h
          split at h <;> simp at h
    unfold putL
    rw [if_pos h]
    refine asc_put ha (fun a hm he => ?_)
    rcases lookE_cases l e.1 with ⟨k, hk', _, e2⟩ | ⟨hn, _⟩
    · rw [e2] at hk; simp at hk
    · exact hn a hm (kb_inj he)
  · rw [putL_old h]; exact ha
theorem putL_mem {l : List E} {e u : E} (h : u ∈ putL l e) : u ∈ l ∨ u = e := by
  unfold putL at h
  split at h
  · rcases List.mem_append.1 h with h | h
    · exact .inl (List.mem_of_mem_take h)
    · rcases List.mem_cons.1 h with h | h
      · exact .inr h
      · exact .inl (List.mem_of_mem_drop h)
  · exact .inl h
theorem putL_len {l : List E} {e : E} : (putL l e).length ≤ l.length + 1 := by
  unfold putL
  split
  · have := pos_le keyE (kb keyE e) l
    simp
    omega
  · omega
theorem fixC_hit {l : List E} {id : ByteArray} {q : Int} (h : fixC l id q = 0) : ∃ k, ∃ hk : k < l.length, l[k].1 = id ∧ lookE l id = (l[k], true) ∧ (0 ≤ q ∧ q ≤ 1000000000) ∧ l[k].2.2 ≠ q := by
  unfold fixC at h
  split at h
  · simp at h
  · rename_i hq
    split at h
    · simp at h
    · rename_i hk
      split at h
      · simp at h
      · rename_i hx
        rcases lookE_cases l id with ⟨k, hk', e1, e2⟩ | ⟨_, e2⟩
        · rw [e2] at hx
          exact ⟨k, hk', e1, e2, by simpa using hq, hx⟩
        · rw [e2] at hk; simp at hk
theorem fixL_set {l : List E} {id : ByteArray} {q : Int} (ha : Asc keyE l) {k : Nat} (hk : k < l.length) (e1 : l[k].1 = id) (e2 : lookE l id = (l[k], true)) (h : fixC l id q = 0) : fixL l id q = l.set k (id, l[k].2.1, q) := by
  unfold fixL
  rw [if_pos h, e2]
  have hp : pos keyE id.data.toList l = k := by rw [← e1]; exact pos_hit ha hk
  rw [hp]
theorem fixL_asc {l : List E} {id : ByteArray} {q : Int} (ha : Asc keyE l) : Asc keyE (fixL l id q) := by
  by_cases h : fixC l id q = 0
  · obtain ⟨k, hk, e1, e2, _, _⟩ := fixC_hit h
    rw [fixL_set ha hk e1 e2 h]
    exact asc_set ha hk (by show l[k].1.data.toList = id.data.toList; rw [e1])
  · rw [fixL_old h]; exact ha
theorem fixL_len {l : List E} {id : ByteArray} {q : Int} : (fixL l id q).length = l.length := by
  unfold fixL
  split
  · simp
  · rfl
theorem fixL_size {l : List E} {id : ByteArray} {q : Int} (ha : Asc keyE l) (hs : ∀ u ∈ l, u.1.size ≤ maxLen ∧ u.2.1.size ≤ maxLen) : ∀ u ∈ fixL l id q, u.1.size ≤ maxLen ∧ u.2.1.size ≤ maxLen := by
  intro u hu
  by_cases h : fixC l id q = 0
  · obtain ⟨k, hk, e1, e2, _, _⟩ := fixC_hit h
    rw [fixL_set ha hk e1 e2 h] at hu
    rcases List.mem_or_eq_of_mem_set hu with hu | hu
    · exact hs u hu
    · have hk2 := hs _ (List.getElem_mem hk)
      rw [hu, ← e1]
      exact hk2
  · rw [fixL_old h] at hu; exact hs u hu

/-- UsePut's answer -/
def putO (l : List E) (e : E) : List E := if okB l = true then putL l e else []
def putD (l : List E) (e : E) : Int := if okB l = true then putC l e else 4
/-- UseFix's answer -/
def fixO (l : List E) (id : ByteArray) (q : Int) : List E := if okB l = true then fixL l id q else []
def fixD (l : List E) (id : ByteArray) (q : Int) : Int := if okB l = true then fixC l id q else 4

theorem grown_below {w w1 w2 : World} {b : Nat} (h : Below w.heap.size w w1) (hg : w1.grownBy w2 (some b)) (hb : w.heap.size ≤ b) : Below w.heap.size w w2 := h.grown hg h.size (fun j hj => by cases hj; exact hb)

end Go.Proofs.YtnchgeiinkaefaaGreatDoor.Evs
end

section
/-
  Lists of events that are right: the loops of spec.UseOk.
-/
namespace Go.Proofs.YtnchgeiinkaefaaGreatDoor.Evs
set_option linter.unusedVariables false
open Go.RowKit RegIn

set_option maxHeartbeats 2000000 in
/-- spec.UseOk -/
theorem okS (v : Value) (l : List E) (w : World) (h : ER w v l) (hl : l.length ≤ 1048576) (hs : ∀ u ∈ l, u.1.size ≤ maxLen ∧ u.2.1.size ≤ maxLen) :
    Calls Tryz.prog 20 #[v] w fun e w' => e = .returned (.bool (okB l)) ∧ Below w.heap.size w w' := by
  by_cases h20 : 20 < l.length
  · rw [okB_long h20]
    obtain ⟨a, c, rfl⟩ := h.slice
    have y : (20 : Int) < l.length := by omega
    clear h
    go_enter Tryz.func20, Tryz.ntmps20
    go_wp2
    go_ret
    exact ⟨rfl, Below.refl _ _⟩
  have y : (l.length : Int) ≤ 20 := by omega
  rcases h with ⟨rfl, a, c, rfl⟩ | ⟨b, o, cap, rfl, hc⟩
  · go_enter Tryz.func20, Tryz.ntmps20
    go_wp2
    refine wp_loop_rounds 1 ?_
    rw [rounds_succ]
    go_wp2
    go_ret
    exact ⟨rfl, Below.refl _ _⟩
  · have HC := hide hc
    have hbs := hc.1
    clear hc
    generalize hr : okB l = r
    have HR := hide hr; clear hr
    go_enter Tryz.func20, Tryz.ntmps20
    go_wp2
    go_loopw [3] (fun i wr => ∃ k : Nat, k ≤ l.length ∧ i = .int .i64 k ∧ Hid (∀ j, j < k → badAt l j = false) ∧ Hid (Below w.heap.size w wr)) (fun i _ => l.length - (intOf i).toNat)
    case atStart => exact ⟨0, Nat.zero_le _, rfl, hide (fun j hj => by omega), hide (Below.refl _ _)⟩
    case round =>
      obtain ⟨k, hk, rfl, hd, hb⟩ := hrel
      by_cases hlt : k < l.length
      · obtain ⟨c0, c1, c2⟩ := ((unhide HC).kept (unhide hb)).2 k hlt
        obtain ⟨hsz, hmz⟩ : (l.getD k E0).1.size ≤ maxLen ∧ (l.getD k E0).2.1.size ≤ maxLen := hs _ (by simp [List.getD, hlt])
        have i1 : (0 : Int) ≤ (k : Int) := by omega
        have i2 : (k : Int) < (l.length : Int) := by omega
        have z1 : b < wr.heap.size := Nat.lt_of_lt_of_le hbs (unhide hb).size
        have HBA : Hid (badAt l k = (!rightE (l.getD k E0) || (decide (0 < k) && !ltS (l.getD (k - 1) E0).1 (l.getD k E0).1))) := hide rfl
        have k1 : k - 1 < l.length := by omega
        obtain ⟨p0, _, _⟩ := ((unhide HC).kept (unhide hb)).2 (k - 1) k1
        generalize hx : l.getD k E0 = x at *
        generalize hp : (l.getD (k - 1) E0).1 = t at *
        clear hx hp
        obtain ⟨s, m, q⟩ := x
        simp only at c0 c1 c2 hsz hmz
        have HCA : Hid (∀ W : World, Calls Tryz.prog 34 #[.agg #[.string s, .string m, .int .i64 q]] W fun x w' => x = .returned (.bool (rightE (s, m, q))) ∧ Below W.heap.size W w') := hide (fun W => rightS (s, m, q) W hsz hmz)
        generalize hR : rightE (s, m, q) = rt at *
        clear hR
        have HK : Hid (∀ w2 w3 : World, (w2.cell? ⟨b, o + k * 3, none⟩ = some (.string s) ∧ w2.cell? ⟨b, o + k * 3 + 1, none⟩ = some (.string m) ∧ w2.cell? ⟨b, o + k * 3 + 2, none⟩ = some (.int .i64 q) ∧ w2.cell? ⟨b, o + (k - 1) * 3, none⟩ = some (.string t) ∧ b < w2.heap.size ∧ b < w2.heap.size ∧ Below w.heap.size w w2) → Below w2.heap.size w2 w3 → (w3.cell? ⟨b, o + k * 3, none⟩ = some (.string s) ∧ w3.cell? ⟨b, o + k * 3 + 1, none⟩ = some (.string m) ∧ w3.cell? ⟨b, o + k * 3 + 2, none⟩ = some (.int .i64 q) ∧ w3.cell? ⟨b, o + (k - 1) * 3, none⟩ = some (.string t) ∧ b < w3.heap.size ∧ b < w3.heap.size ∧ Below w.heap.size w w3)) := hide (fun w2 w3 ⟨a1, a2, a3, a4, a5, a6, a7⟩ hb => ⟨(hb.cell (p := ⟨b, o + k * 3, none⟩) a6).trans a1, (hb.cell (p := ⟨b, o + k * 3 + 1, none⟩) a6).trans a2, (hb.cell (p := ⟨b, o + k * 3 + 2, none⟩) a6).trans a3, (hb.cell (p := ⟨b, o + (k - 1) * 3, none⟩) a6).trans a4, Nat.lt_of_lt_of_le a5 hb.size, Nat.lt_of_lt_of_le a6 hb.size, below_trans a7 hb⟩)
        generalize hS : (fun w2 : World => w2.cell? ⟨b, o + k * 3, none⟩ = some (.string s) ∧ w2.cell? ⟨b, o + k * 3 + 1, none⟩ = some (.string m) ∧ w2.cell? ⟨b, o + k * 3 + 2, none⟩ = some (.int .i64 q) ∧ w2.cell? ⟨b, o + (k - 1) * 3, none⟩ = some (.string t) ∧ b < w2.heap.size ∧ b < w2.heap.size ∧ Below w.heap.size w w2) = S
        have HSI : Hid (∀ w2 : World, (w2.cell? ⟨b, o + k * 3, none⟩ = some (.string s) ∧ w2.cell? ⟨b, o + k * 3 + 1, none⟩ = some (.string m) ∧ w2.cell? ⟨b, o + k * 3 + 2, none⟩ = some (.int .i64 q) ∧ w2.cell? ⟨b, o + (k - 1) * 3, none⟩ = some (.string t) ∧ b < w2.heap.size ∧ b < w2.heap.size ∧ Below w.heap.size w w2) → S w2) := hide (fun w2 h => by rw [← hS]; exact h)
        have HSE : Hid (∀ w2 : World, S w2 → (w2.cell? ⟨b, o + k * 3, none⟩ = some (.string s) ∧ w2.cell? ⟨b, o + k * 3 + 1, none⟩ = some (.string m) ∧ w2.cell? ⟨b, o + k * 3 + 2, none⟩ = some (.int .i64 q) ∧ w2.cell? ⟨b, o + (k - 1) * 3, none⟩ = some (.string t) ∧ b < w2.heap.size ∧ b < w2.heap.size ∧ Below w.heap.size w w2)) := hide (fun w2 h => by rw [← hS] at h; exact h)
        clear hS
        have g0 : ∀ g : In S, g.x.cell? ⟨b, o + k * 3, none⟩ = some (.string s) := fun g => (unhide HSE _ g.h).1
        have g1 : ∀ g : In S, g.x.cell? ⟨b, o + k * 3 + 1, none⟩ = some (.string m) := fun g => (unhide HSE _ g.h).2.1
        have g2 : ∀ g : In S, g.x.cell? ⟨b, o + k * 3 + 2, none⟩ = some (.int .i64 q) := fun g => (unhide HSE _ g.h).2.2.1
        have g3 : ∀ g : In S, g.x.cell? ⟨b, o + (k - 1) * 3, none⟩ = some (.string t) := fun g => (unhide HSE _ g.h).2.2.2.1
        have HCB : Hid (∀ g : In S, Calls Tryz.prog 34 #[.agg #[.string s, .string m, .int .i64 q]] g.x fun x w' => x = .returned (.bool rt) ∧ S w') := hide (fun g => (unhide HCA g.x).mono (fun x w' ⟨hx, hb⟩ => ⟨hx, unhide HSI _ (unhide HK _ _ (unhide HSE _ g.h) hb)⟩))
        clear HCA
        cases rt with
        | false =>
          have hr : r = false := (unhide HR).symm.trans (okB_bad hlt ((unhide HBA).trans (by simp)))
          subst hr
          go_wp2
          refine wp_region_in S (by kernel_rfl) (by kernel_rfl) (unhide HSI _ ⟨?_, ?_, ?_, ?_, ?_, ?_, ?_⟩) ?_
          · go_keep
          · go_keep
          · go_keep
          · go_keep
          · exact z1
          · exact z1
          · exact below_drewN' (unhide hb) 1
          intro hne
          repeat (go_big_quiet_step (exact call_in _ (unhide HCB _)))
          refine wpQuiet_nil ?_
          rintro _ ⟨g, rfl⟩
          have HG := hide (unhide HSE _ g.h).2.2.2.2.2.2
          go_wp2
          go_ret
          exact ⟨rfl, unhide HG⟩
        | true =>
          by_cases k0 : k = 0
          · have hd' : Hid (∀ j, j < k + 1 → badAt l j = false) := hide (bad_next (unhide hd) ((unhide HBA).trans (by simp [k0])))
            have kn : decide (0 < k) = false := by simp [k0]
            clear k0
            go_wp2
            refine wp_region_in S (by kernel_rfl) (by kernel_rfl) (unhide HSI _ ⟨?_, ?_, ?_, ?_, ?_, ?_, ?_⟩) ?_
            · go_keep
            · go_keep
            · go_keep
            · go_keep
            · exact z1
            · exact z1
            · exact below_drewN' (unhide hb) 1
            intro hne
            repeat (go_big_quiet_step (exact call_in _ (unhide HCB _)))
            refine wpQuiet_nil ?_
            rintro _ ⟨g, rfl⟩
            have HG := hide (unhide HSE _ g.h).2.2.2.2.2.2
            go_wp2
            exact ⟨⟨k + 1, by omega, by go_num, hd', HG⟩, by simp [intOf]; omega⟩
          · have kn : 0 < k := by omega
            have kk : (0 : Int) < (k : Int) := by omega
            have j1 : (0 : Int) ≤ (k : Int) - 1 := by omega
            have j2 : (k : Int) - 1 < (l.length : Int) := by omega
            have hwr : IntKind.i64.wrap ((k : Int) - 1) = (k : Int) - 1 := IntWalk.i64_in _ ⟨by omega, by omega⟩
            have htn : ((k : Int) - 1).toNat = k - 1 := by omega
            have hcmp := ltS_total t s
            cases hlx : ltS t s with
            | false =>
              have hr : r = false := (unhide HR).symm.trans (okB_bad hlt ((unhide HBA).trans (by simp [kn, hlx])))
              subst hr
              rw [hlx] at hcmp
              simp only [ltS, Bool.not_false] at hcmp
              go_wp2
              refine wp_region_in S (by kernel_rfl) (by kernel_rfl) (unhide HSI _ ⟨?_, ?_, ?_, ?_, ?_, ?_, ?_⟩) ?_
              · go_keep
              · go_keep
              · go_keep
              · go_keep
              · exact z1
              · exact z1
              · exact below_drewN' (unhide hb) 1
              intro hne
              repeat (go_big_quiet_step (exact call_in _ (unhide HCB _)))
              refine wpQuiet_nil ?_
              rintro _ ⟨g, rfl⟩
              have HG := hide (unhide HSE _ g.h).2.2.2.2.2.2
              go_wp2
              go_ret
              exact ⟨rfl, unhide HG⟩
            | true =>
              have hd' : Hid (∀ j, j < k + 1 → badAt l j = false) := hide (bad_next (unhide hd) ((unhide HBA).trans (by simp [kn, hlx])))
              rw [hlx] at hcmp
              simp only [ltS, Bool.not_true] at hcmp
              go_wp2
              refine wp_region_in S (by kernel_rfl) (by kernel_rfl) (unhide HSI _ ⟨?_, ?_, ?_, ?_, ?_, ?_, ?_⟩) ?_
              · go_keep
              · go_keep
              · go_keep
              · go_keep
              · exact z1
              · exact z1
              · exact below_drewN' (unhide hb) 1
              intro hne
              repeat (go_big_quiet_step (exact call_in _ (unhide HCB _)))
              refine wpQuiet_nil ?_
              rintro _ ⟨g, rfl⟩
              have HG := hide (unhide HSE _ g.h).2.2.2.2.2.2
              go_wp2
              exact ⟨⟨k + 1, by omega, by go_num, hd', HG⟩, by simp [intOf]; omega⟩
      · have hr : r = true := (unhide HR).symm.trans (okB_true (by omega) (fun j hj => unhide hd j (by omega)))
        subst hr
        go_wp2
        go_ret
        exact ⟨rfl, unhide hb⟩
end Go.Proofs.YtnchgeiinkaefaaGreatDoor.Evs
end
