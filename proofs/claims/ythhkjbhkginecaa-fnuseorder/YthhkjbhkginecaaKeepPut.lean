/-
  Events in a map by their Ids: the methods 'put' and 'fix'.
-/
import Derived.Test.YthhkjbhkginecaaKeep
namespace Go.Proofs.Ythhkjbhkginecaa.Evs
set_option linter.unusedVariables false
open Go.RowKit Go.Maps MapM

/-- the event of that Id, and whether there is one -/
def lookE (l : List E) (s : ByteArray) : E × Bool := match l.find? (fun x => decide (x.1 = s)) with | some x => (x, true) | none => (E0, false)

theorem kb_inj {a : E} {s : ByteArray} (h : kb keyE a = s.data.toList) : a.1 = s := by
  have h1 : a.1.data = s.data := Array.toList_inj.1 h
  cases ha : a.1; cases s; rw [ha] at h1; simp only at h1; rw [h1]
theorem lookE_cases (l : List E) (s : ByteArray) : (∃ k, ∃ hk : k < l.length, l[k].1 = s ∧ lookE l s = (l[k], true)) ∨ ((∀ a ∈ l, a.1 ≠ s) ∧ lookE l s = (E0, false)) := by
  cases hf : l.find? (fun x => decide (x.1 = s)) with
  | some x =>
    refine .inl ?_
    have hm := List.mem_of_find?_eq_some hf
    have hx := List.find?_some hf
    obtain ⟨k, hk, rfl⟩ := List.getElem_of_mem hm
    exact ⟨k, hk, by simpa using hx, by unfold lookE; rw [hf]⟩
  | none =>
    refine .inr ⟨fun a ha he => ?_, by unfold lookE; rw [hf]⟩
    have := List.find?_eq_none.1 hf a ha
    simp [he] at this
theorem lookE_key {l : List E} {s : ByteArray} {x : E} (h : lookE l s = (x, true)) : x.1 = s := by
  rcases lookE_cases l s with ⟨k, hk, h1, e⟩ | ⟨_, e⟩
  · rw [e] at h
    simp only [Prod.mk.injEq, and_true] at h
    rw [← h]; exact h1
  · rw [e] at h; simp at h
theorem ext_toList {s t : ByteArray} (h : s.toList = t.toList) : s = t := by
  rw [Lib.toList_data, Lib.toList_data] at h
  cases s; cases t
  simp only at h
  rw [Array.toList_inj.1 h]
theorem look_DE {l : List E} (ha : Asc keyE l) (s : ByteArray) : (DE l).atKey (.string s.data.toList) (.held (eV E0)) = .held (eV (lookE l s).1) ∧ Maps.has (DE l) (.string s.data.toList) = (lookE l s).2 := by
  rcases lookE_cases l s with ⟨k, hk, rfl, e⟩ | ⟨hn, e⟩
  · rw [e]
    exact ⟨atKey_hit keyE eV _ l k hk ha, has_hit keyE eV l ⟨l[k], List.getElem_mem hk, rfl⟩⟩
  · rw [e]
    have : ∀ a ∈ l, kb keyE a ≠ s.data.toList := fun a hm he => hn a hm (kb_inj he)
    exact ⟨atKey_miss keyE eV _ l this, has_miss keyE eV l this⟩

theorem zeroE (w : World) : (zeroValue 31).run Try.prog w = .ok (eV E0) w := by kernel_rfl

/-- 'v, ok := m[k]' -/
theorem wpList_look {w : World} {ops : Array Oper} {rest : List Oper} {o : Oper} {a : Act} {Q : Exit → Act → World → Prop} (hg : o.guard = none) (m x : Operand) (t : TypeId) (hop : o.op = Op.lookup t m x true)
    (ht : Try.prog.underlying t = some (.map 9 31)) (b : Nat) (l : List E) (hm : a.eval m = .map (some b)) (h : EM w b l) (ha : Asc keyE l) (s : ByteArray) (hx : a.eval x = .string s) (hs : s.size ≤ maxLen) (r : E × Bool) (hr : lookE l s = r)
    (hK : wpList Try.prog ops Q rest (a.put o.dst (.tuple #[eV r.1, .bool r.2])) w) : wpList Try.prog ops Q (o :: rest) a w := by
  refine wpList_lookup_own_ok w hg m x t hop 9 31 law ht RV (zeroE w) _ _ rfl b _ _ hm h (.string s) (.string s.data.toList) hx (WideMaps.keyOf_string_mk Try.underlying9 hs) ?_
  intro v ps hv
  have h1 := (look_DE ha s).1
  have h2 := (look_DE ha s).2
  rw [h2]
  rw [h1] at hv
  simp only [RV, Option.some.injEq, Prod.mk.injEq, DataW.held.injEq] at hv
  rw [hv.1, hr]
  exact hK
/-- 'm[k]' -/
theorem wpList_look1 {w : World} {ops : Array Oper} {rest : List Oper} {o : Oper} {a : Act} {Q : Exit → Act → World → Prop} (hg : o.guard = none) (m x : Operand) (t : TypeId) (hop : o.op = Op.lookup t m x false)
    (ht : Try.prog.underlying t = some (.map 9 31)) (b : Nat) (l : List E) (hm : a.eval m = .map (some b)) (h : EM w b l) (ha : Asc keyE l) (s : ByteArray) (hx : a.eval x = .string s) (hs : s.size ≤ maxLen)
    (hK : wpList Try.prog ops Q rest (a.put o.dst (eV (lookE l s).1)) w) : wpList Try.prog ops Q (o :: rest) a w := by
  refine wpList_plain hg fun K' hK' => ?_
  obtain ⟨v, ps, hrun, hv⟩ := World.ownsMap.lookup h law ht (zeroE w) (zd := .held (eV E0)) (zp := []) rfl (key := .string s) (WideMaps.keyOf_string_mk Try.underlying9 hs)
  rw [(look_DE ha s).1] at hv
  simp only [RV, Option.some.injEq, Prod.mk.injEq, DataW.held.injEq] at hv
  rw [hv.1] at hrun
  unfold Oper.wp
  simp [execOp, hop, hm, hx, hrun, Result.andThen]
  exact hK' _ _ hK

/-- 'len(m)' -/
theorem wpList_lenE {w : World} {ops : Array Oper} {rest : List Oper} {o : Oper} {a : Act} {Q : Exit → Act → World → Prop} (hg : o.guard = none) (m : Operand) (t : TypeId) (hop : o.op = Op.call { callee := Callee.builtin Builtin.len, args := #[m], argTypes := #[t] })
    (ht : Try.prog.underlying t = some (.map 9 31)) (b : Nat) (l : List E) (hm : a.eval m = .map (some b)) (h : EM w b l)
    (hK : wpList Try.prog ops Q rest (a.put o.dst (.int .i64 (l.length : Int))) w) : wpList Try.prog ops Q (o :: rest) a w := by
  refine wpList_len_own w hg m t hop 9 31 ht RV b _ _ hm h ?_
  rw [size_DM]
  exact hK

/-- UsePut's code -/
def putC (l : List E) (e : E) : Int := if rightE e = false then 4 else if (lookE l e.1).2 = true then (if (lookE l e.1).1 = e then 1 else 2) else if 20 ≤ l.length then 3 else 0
/-- the events behind it -/
def putL (l : List E) (e : E) : List E := if putC l e = 0 then l.take (pos keyE (kb keyE e) l) ++ e :: l.drop (pos keyE (kb keyE e) l) else l

theorem EM.grown {W W' : World} {b : Nat} {l : List E} {r : Option Nat} (h : EM W b l) (hg : W.grownBy W' r) (hne : some b ≠ r) : EM W' b l := World.ownsMap.kept h hg hne
theorem below_grown {a b : World} (h : Below a.heap.size a b) (r : Option Nat) : a.grownBy b r := ⟨h.os, h.tape, h.output, h.size, fun j hj _ => h.block j hj⟩
theorem grown_trans {a b c : World} {r : Option Nat} (h : a.grownBy b r) (k : b.grownBy c r) : a.grownBy c r :=
  ⟨k.os.trans h.os, k.tape.trans h.tape, k.output.trans h.output, Nat.le_trans h.size k.size, fun j hj hne => (k.block j (Nat.lt_of_lt_of_le hj h.size) hne).trans (h.block j hj hne)⟩

theorem putL_new {l : List E} {e : E} (hr : rightE e = true) (hk : (lookE l e.1).2 = false) (hl : ¬ 20 ≤ l.length) : putC l e = 0 ∧ putL l e = l.take (pos keyE (kb keyE e) l) ++ e :: l.drop (pos keyE (kb keyE e) l) ∧ (DE l).put (.string e.1.data.toList) (.held (eV e)) = DE (putL l e) ∧ (putL l e).length = l.length + 1 := by
  have h0 : putC l e = 0 := by unfold putC; rw [if_neg (by rw [hr]; simp), if_neg (by rw [hk]; simp), if_neg hl]
  have h1 : putL l e = l.take (pos keyE (kb keyE e) l) ++ e :: l.drop (pos keyE (kb keyE e) l) := by unfold putL; rw [if_pos h0]
  refine ⟨h0, h1, ?_, ?_⟩
  · rw [h1]
    refine put_new keyE eV l e (fun a ha he => ?_)
    rcases lookE_cases l e.1 with ⟨k, hk', _, e2⟩ | ⟨hn, _⟩
    · rw [e2] at hk; simp at hk
    · exact hn a ha (kb_inj he)
  · rw [h1]
    have := pos_le keyE (kb keyE e) l
    simp
    omega
theorem putL_old {l : List E} {e : E} (h : putC l e ≠ 0) : putL l e = l := by unfold putL; rw [if_neg h]

set_option maxRecDepth 20000 in
set_option maxHeartbeats 1000000 in
/-- (impl.eventsById).put -/
theorem putI (b : Nat) (l : List E) (e : E) (w : World) (h : EM w b l) (ha : Asc keyE l) (hl : l.length ≤ 20) (h1 : e.1.size ≤ maxLen) (h2 : e.2.1.size ≤ maxLen) :
    Calls Try.prog 38 #[.map (some b), eV e] w fun x w' => x = .returned (.int .i64 (putC l e)) ∧ EM w' b (putL l e) ∧ w.grownBy w' (some b) := by
  obtain ⟨s, m, q⟩ := e
  have HC := hide (rightI (s, m, q))
  generalize hpc : putC l (s, m, q) = pc
  generalize hpl : putL l (s, m, q) = pl
  have HPC := hide hpc; have HPL := hide hpl
  clear hpc hpl
  simp only at h1 h2
  have HM := hide (World.ownsMap.alloc h (.cells #[.string s, .string m, .int .i64 q] 31))
  have HA := hide ha
  have hbl := h.lt
  have HH := hide h
  clear h ha
  generalize hlk : lookE l s = lk
  have HLK := hide hlk
  clear hlk
  obtain ⟨⟨xs, xm, xq⟩, ok⟩ := lk
  generalize hrt : rightE (s, m, q) = rt at *
  have HRT := hide hrt
  clear hrt
  go_enter Try.func38, Try.ntmps38
  go_wp2_with (first | (at_lookup; refine wpList_look rfl _ _ 67 rfl Try.underlying67 b l rfl (unhide HM) (unhide HA) s rfl h1 ((xs, xm, xq), ok) (unhide HLK) ?_) | fail)
  refine (unhide HC _ h1 h2).mono ?_
  rintro x w1 ⟨rfl, hb1⟩
  have c0 : w1.cell? ⟨w.heap.size, 0, none⟩ = some (.string s) := (hb1.cell (p := ⟨w.heap.size, 0, none⟩) (by simp; omega)).trans (by go_keep)
  have c1 : w1.cell? ⟨w.heap.size, 1, none⟩ = some (.string m) := (hb1.cell (p := ⟨w.heap.size, 1, none⟩) (by simp; omega)).trans (by go_keep)
  have c2 : w1.cell? ⟨w.heap.size, 2, none⟩ = some (.int .i64 q) := (hb1.cell (p := ⟨w.heap.size, 2, none⟩) (by simp; omega)).trans (by go_keep)
  have d0 : w1.cell? ⟨w.heap.size + 1, 0, none⟩ = some (.string xs) := (hb1.cell (p := ⟨w.heap.size + 1, 0, none⟩) (by simp)).trans (by go_keep)
  have d1 : w1.cell? ⟨w.heap.size + 1, 1, none⟩ = some (.string xm) := (hb1.cell (p := ⟨w.heap.size + 1, 1, none⟩) (by simp)).trans (by go_keep)
  have d2 : w1.cell? ⟨w.heap.size + 1, 2, none⟩ = some (.int .i64 xq) := (hb1.cell (p := ⟨w.heap.size + 1, 2, none⟩) (by simp)).trans (by go_keep)
  have hbb : Below w.heap.size w w1 := below_trans (((Below.refl _ _).alloc (Nat.le_refl _) _).alloc (by simp) _) hb1
  have HM1 := hide ((unhide HH).kept hbb)
  have HG1 := hide (below_grown hbb (some b))
  clear hb1 hbb HM HH
  cases rt with
  | false =>
    have hpc : pc = 4 := by rw [← unhide HPC]; unfold putC; rw [if_pos (unhide HRT)]
    have hpl : pl = l := by rw [← unhide HPL]; exact putL_old (by rw [unhide HPC, hpc]; decide)
    subst hpc hpl
    go_wp2
    go_ret
    exact ⟨rfl, unhide HM1, unhide HG1⟩
  | true =>
    cases ok with
    | true =>
      by_cases hx : ((xs, xm, xq) : E) = (s, m, q)
      · have hpc : pc = 1 := by rw [← unhide HPC]; unfold putC; rw [if_neg (by rw [unhide HRT]; simp), if_pos (by show (lookE l s).2 = true; rw [unhide HLK]), if_pos (by show (lookE l s).1 = _; rw [unhide HLK]; exact hx)]
        have hpl : pl = l := by rw [← unhide HPL]; exact putL_old (by rw [unhide HPC, hpc]; decide)
        subst hpc hpl
        simp only [Prod.mk.injEq] at hx
        obtain ⟨rfl, rfl, rfl⟩ := hx
        go_wp2
        go_ret
        exact ⟨rfl, unhide HM1, unhide HG1⟩
      · have hpc : pc = 2 := by rw [← unhide HPC]; unfold putC; rw [if_neg (by rw [unhide HRT]; simp), if_pos (by show (lookE l s).2 = true; rw [unhide HLK]), if_neg (by show ¬ (lookE l s).1 = _; rw [unhide HLK]; exact hx)]
        have hpl : pl = l := by rw [← unhide HPL]; exact putL_old (by rw [unhide HPC, hpc]; decide)
        subst hpc hpl
        obtain rfl : xs = s := lookE_key (unhide HLK)
        by_cases hxm : xm = m
        · subst hxm
          have hq : xq ≠ q := fun e => hx (by rw [e])
          have hqb : (xq == q) = false := by simpa using hq
          clear hx
          go_wp2
          go_ret
          exact ⟨rfl, unhide HM1, unhide HG1⟩
        · have hmb : (xm.toList == m.toList) = false := by
            rw [beq_eq_false_iff_ne]; intro e; exact hxm (ext_toList e)
          clear hx
          go_wp2
          go_ret
          exact ⟨rfl, unhide HM1, unhide HG1⟩
    | false =>
      by_cases h20 : 20 ≤ l.length
      · have hpc : pc = 3 := by rw [← unhide HPC]; unfold putC; rw [if_neg (by rw [unhide HRT]; simp), if_neg (by show ¬ (lookE l s).2 = true; rw [unhide HLK]; simp), if_pos h20]
        have hpl : pl = l := by rw [← unhide HPL]; exact putL_old (by rw [unhide HPC, hpc]; decide)
        subst hpc hpl
        have hy : (20 : Int) ≤ (pl.length : Int) := by omega
        go_wp2_with (first | (at_len; refine wpList_lenE rfl _ 67 rfl Try.underlying67 b _ rfl (unhide HM1) ?_) | go_in)
        go_ret
        exact ⟨rfl, unhide HM1, unhide HG1⟩
      · obtain ⟨p0, p1, p2, p3⟩ := putL_new (unhide HRT) (by show (lookE l s).2 = false; rw [unhide HLK]) h20
        have hpc : pc = 0 := (unhide HPC).symm.trans p0
        subst hpc
        have HMX : Hid (l.length < maxLen) := hide (by unfold maxLen; omega)
        have hy : (l.length : Int) < 20 := by omega
        have HKY : Hid (keyOf Try.prog 9 (.string s) = some (.string s.data.toList)) := hide (WideMaps.keyOf_string_mk Try.underlying9 h1)
        have P2 := hide p2
        have P3 := hide p3
        have HW : Hid (w1.ownsMap Try.prog 9 RV b l.length (DE l)) := HM1
        clear p0 p1 p2 p3 HRT HC HPC h1 h2 hl h20
        go_wp2_with (first | (at_len; refine wpList_lenE rfl _ 67 rfl Try.underlying67 b _ rfl (unhide HM1) ?_) | (at_mapUpdate; refine wpList_mapUpdate_own _ rfl _ _ _ 67 rfl 9 31 law Try.underlying67 RV b l.length (DE l) rfl (unhide HW) (unhide HMX) _ _ _ rfl rfl (unhide HKY) (.held (.agg #[.string s, .string m, .int .i64 q])) [] rfl ?_; intro w2 hown2 hg2; have HO2 := hide hown2; have HG2 := hide hg2; clear hown2 hg2) | go_in)
        go_ret
        refine ⟨rfl, ?_, grown_trans (unhide HG1) (unhide HG2)⟩
        rw [← unhide HPL]
        unfold EM
        rw [unhide P3, ← unhide P2]
        exact unhide HO2
end Go.Proofs.Ythhkjbhkginecaa.Evs
