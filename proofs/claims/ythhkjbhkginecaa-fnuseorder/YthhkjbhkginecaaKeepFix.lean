/-
  Events in a map by their Ids: the method 'fix'.
-/
import Derived.Test.YthhkjbhkginecaaKeepPut
namespace Go.Proofs.Ythhkjbhkginecaa.Evs
set_option linter.unusedVariables false
open Go.RowKit Go.Maps MapM

/-- UseFix's code -/
def fixC (l : List E) (id : ByteArray) (q : Int) : Int := if decide (0 ≤ q ∧ q ≤ 1000000000) = false then 4 else if (lookE l id).2 = false then 5 else if (lookE l id).1.2.2 = q then 1 else 0
/-- the events behind it -/
def fixL (l : List E) (id : ByteArray) (q : Int) : List E := if fixC l id q = 0 then l.set (pos keyE id.data.toList l) (id, (lookE l id).1.2.1, q) else l
theorem fixL_old {l : List E} {id : ByteArray} {q : Int} (h : fixC l id q ≠ 0) : fixL l id q = l := by unfold fixL; rw [if_neg h]

theorem pos_hit {l : List E} (ha : Asc keyE l) {k : Nat} (hk : k < l.length) : pos keyE (kb keyE l[k]) l = k :=
  pos_of keyE (Nat.le_of_lt hk) (fun i hi hik => List.pairwise_iff_getElem.1 ha i k hi hk hik) (fun _ => List.lt_irrefl _)

theorem fixL_new {l : List E} {id : ByteArray} {q : Int} {x : E} (ha : Asc keyE l) (hq : decide (0 ≤ q ∧ q ≤ 1000000000) = true) (hk : lookE l id = (x, true)) (hx : x.2.2 ≠ q) : fixC l id q = 0 ∧ (DE l).put (.string id.data.toList) (.held (eV (id, x.2.1, q))) = DE (fixL l id q) ∧ (fixL l id q).length = l.length := by
  have h0 : fixC l id q = 0 := by unfold fixC; rw [if_neg (by rw [hq]; simp), if_neg (by rw [hk]; simp), if_neg (by rw [hk]; exact hx)]
  have h1 : fixL l id q = l.set (pos keyE id.data.toList l) (id, x.2.1, q) := by unfold fixL; rw [if_pos h0, hk]
  refine ⟨h0, ?_, by rw [h1]; simp⟩
  rcases lookE_cases l id with ⟨k, hk', e1, e2⟩ | ⟨_, e2⟩
  · have hp : pos keyE id.data.toList l = k := by rw [← e1]; exact pos_hit ha hk'
    rw [h1, hp]
    exact put_old keyE eV l (id, x.2.1, q) k hk' ha (by show l[k].1.data.toList = id.data.toList; rw [e1])
  · rw [e2] at hk; simp at hk

theorem ownsMap_tight {W : World} {b n n' : Nat} {D : DataW Value} (h : W.ownsMap Try.prog 9 RV b n D) (hn : Maps.size D = n') : W.ownsMap Try.prog 9 RV b n' D := by
  obtain ⟨es, clock, hb, F, hs, rfl⟩ := h
  refine ⟨es, clock, hb, F, ?_, rfl⟩
  rw [← hn, Maps.size_eq, length_read]
  exact Nat.le_refl _

set_option maxRecDepth 20000 in
set_option maxHeartbeats 1000000 in
/-- (impl.eventsById).fix -/
theorem fixI (b : Nat) (l : List E) (s : ByteArray) (q : Int) (w : World) (h : EM w b l) (ha : Asc keyE l) (hl : l.length ≤ 20) (h1 : s.size ≤ maxLen) :
    Calls Try.prog 45 #[.map (some b), .string s, .int .i64 q] w fun x w' => x = .returned (.int .i64 (fixC l s q)) ∧ EM w' b (fixL l s q) ∧ w.grownBy w' (some b) := by
  generalize hpc : fixC l s q = pc
  generalize hpl : fixL l s q = pl
  have HPC := hide hpc; have HPL := hide hpl
  clear hpc hpl
  have HA := hide ha
  have hbl := h.lt
  have HH := hide h
  clear h ha
  generalize hlk : lookE l s = lk
  have HLK := hide hlk
  clear hlk
  obtain ⟨⟨xs, xm, xq⟩, ok⟩ := lk
  generalize hrt : decide (0 ≤ q ∧ q ≤ 1000000000) = rt
  have HRT := hide hrt
  clear hrt
  go_enter Try.func45, Try.ntmps45
  go_wp2_with (first | (at_lookup; refine wpList_look rfl _ _ 67 rfl Try.underlying67 b l rfl (unhide HH) (unhide HA) s rfl h1 ((xs, xm, xq), ok) (unhide HLK) ?_) | fail)
  refine (qtyI q _).mono ?_
  rintro x w1 ⟨rfl, rfl⟩
  rw [unhide HRT]
  have hbb : Below w.heap.size w (w.alloc (.cells #[.string xs, .string xm, .int .i64 xq] 31)) := (Below.refl _ _).alloc (Nat.le_refl _) _
  have HM1 := hide ((unhide HH).kept hbb)
  have HG1 := hide (below_grown hbb (some b))
  clear hbb
  cases rt with
  | false =>
    have hpc : pc = 4 := by rw [← unhide HPC]; unfold fixC; rw [if_pos (unhide HRT)]
    have hpl : pl = l := by rw [← unhide HPL]; exact fixL_old (by rw [unhide HPC, hpc]; decide)
    subst hpc hpl
    go_wp2
    go_ret
    exact ⟨rfl, unhide HM1, unhide HG1⟩
  | true =>
    cases ok with
    | false =>
      have hpc : pc = 5 := by rw [← unhide HPC]; unfold fixC; rw [if_neg (by rw [unhide HRT]; simp), if_pos (by rw [unhide HLK])]
      have hpl : pl = l := by rw [← unhide HPL]; exact fixL_old (by rw [unhide HPC, hpc]; decide)
      subst hpc hpl
      go_wp2
      go_ret
      exact ⟨rfl, unhide HM1, unhide HG1⟩
    | true =>
      by_cases hx : xq = q
      · have hpc : pc = 1 := by rw [← unhide HPC]; unfold fixC; rw [if_neg (by rw [unhide HRT]; simp), if_neg (by rw [unhide HLK]; simp), if_pos (by rw [unhide HLK]; exact hx)]
        have hpl : pl = l := by rw [← unhide HPL]; exact fixL_old (by rw [unhide HPC, hpc]; decide)
        subst hpc hpl hx
        go_wp2
        go_ret
        exact ⟨rfl, unhide HM1, unhide HG1⟩
      · obtain ⟨p0, p2, p3⟩ := fixL_new (unhide HA) (unhide HRT) (unhide HLK) hx
        have hpc : pc = 0 := (unhide HPC).symm.trans p0
        subst hpc
        obtain rfl : xs = s := lookE_key (unhide HLK)
        have HMX : Hid (l.length < maxLen) := hide (by unfold maxLen; omega)
        have HKY : Hid (keyOf Try.prog 9 (.string xs) = some (.string xs.data.toList)) := hide (WideMaps.keyOf_string_mk Try.underlying9 h1)
        have P2 := hide p2
        have P3 := hide p3
        have hxb : (xq == q) = false := by simpa using hx
        have hbb : Below w.heap.size w (w.alloc (.cells #[.string xs, .string xm, .int .i64 q] 31)) := (Below.refl _ _).alloc (Nat.le_refl _) _
        have HW : Hid ((w.alloc (.cells #[.string xs, .string xm, .int .i64 q] 31)).ownsMap Try.prog 9 RV b l.length (DE l)) := hide ((unhide HH).kept hbb)
        have HG2 := hide (below_grown hbb (some b))
        clear hbb
        clear p0 p2 p3 HRT HPC h1 hl hx HM1 HG1
        go_wp2_with (first | (at_mapUpdate; refine wpList_mapUpdate_own _ rfl _ _ _ 67 rfl 9 31 law Try.underlying67 RV b l.length (DE l) rfl (unhide HW) (unhide HMX) _ _ _ rfl rfl (unhide HKY) (.held (.agg #[.string xs, .string xm, .int .i64 q])) [] rfl ?_; intro w2 hown2 hg2; have HO2 := hide hown2; have HG3 := hide hg2; clear hown2 hg2) | go_in)
        go_ret
        refine ⟨rfl, ?_, grown_trans (unhide HG2) (unhide HG3)⟩
        rw [← unhide HPL]
        unfold EM
        rw [unhide P3, ← unhide P2]
        exact ownsMap_tight (unhide HO2) (by rw [unhide P2, size_DM, unhide P3])
end Go.Proofs.Ythhkjbhkginecaa.Evs
