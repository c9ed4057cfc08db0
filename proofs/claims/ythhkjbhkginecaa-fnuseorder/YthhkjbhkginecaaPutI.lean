/-
  impl.UsePut and impl.UseFix: what they answer.
-/
import Derived.Test.YthhkjbhkginecaaListI
namespace Go.Proofs.Ythhkjbhkginecaa.Evs
set_option linter.unusedVariables false
open Go.RowKit Go.Maps MapM

theorem asc_put {l : List E} {e : E} (ha : Asc keyE l) (h : ∀ a ∈ l, kb keyE a ≠ kb keyE e) : Asc keyE (l.take (pos keyE (kb keyE e) l) ++ e :: l.drop (pos keyE (kb keyE e) l)) := by
  have hp := pos_le keyE (kb keyE e) l
  have htake : ∀ a ∈ l.take (pos keyE (kb keyE e) l), kb keyE a < kb keyE e := by
    intro a hm
    obtain ⟨i, hi, rfl⟩ := List.getElem_of_mem hm
    rw [List.getElem_take]
    exact (pos_spec keyE (kb keyE e) l i (by simp at hi; omega)).1 (by simp at hi; omega)
  have hdrop : ∀ a ∈ l.drop (pos keyE (kb keyE e) l), kb keyE e < kb keyE a := by
    intro a hm
    obtain ⟨i, hi, rfl⟩ := List.getElem_of_mem hm
    rw [List.getElem_drop]
    have hi' : pos keyE (kb keyE e) l + i < l.length := by simp at hi; omega
    have hpl : pos keyE (kb keyE e) l < l.length := by omega
    have h1 : kb keyE e < kb keyE l[pos keyE (kb keyE e) l] := lt_tri ((pos_spec keyE (kb keyE e) l _ hpl).2 rfl) (h _ (List.getElem_mem hpl))
    by_cases h0 : i = 0
    · subst h0; exact h1
    · exact List.lt_trans h1 (List.pairwise_iff_getElem.1 ha _ _ hpl hi' (by omega))
  refine List.pairwise_append.2 ⟨List.Pairwise.sublist (List.take_sublist _ _) ha, List.pairwise_cons.2 ⟨hdrop, List.Pairwise.sublist (List.drop_sublist _ _) ha⟩, ?_⟩
  intro a hm b hb
  rcases List.mem_cons.1 hb with rfl | hb
  · exact htake a hm
  · exact List.lt_trans (htake a hm) (hdrop b hb)
theorem asc_set {l : List E} {e : E} {k : Nat} (ha : Asc keyE l) (hk : k < l.length) (h : kb keyE l[k] = kb keyE e) : Asc keyE (l.set k e) := by
  refine List.pairwise_iff_getElem.2 (fun i j hi hj hij => ?_)
  have hi' : i < l.length := by simpa using hi
  have hj' : j < l.length := by simpa using hj
  have hlt := List.pairwise_iff_getElem.1 ha i j hi' hj' hij
  rw [List.getElem_set, List.getElem_set]
  by_cases e1 : k = i
  · subst e1
    rw [if_pos rfl, if_neg (by omega), ← h]
    exact hlt
  · rw [if_neg e1]
    by_cases e2 : k = j
    · subst e2
      rw [if_pos rfl, ← h]
      exact hlt
    · rw [if_neg e2]
      exact hlt
theorem putL_asc {l : List E} {e : E} (ha : Asc keyE l) : Asc keyE (putL l e) := by
  by_cases h : putC l e = 0
  · have hk : (lookE l e.1).2 = false := by
      cases hk : (lookE l e.1).2 with
      | false => rfl
      | true =>
        unfold putC at h
        rw [hk] at h
        split at h
        · simp at h
        · simp only [if_true] at h
          split at h <;> simp at h
    unfold putL
    rw [if_pos h]
    refine asc_put ha (fun a hm he => ?_)
    rcases lookE_cases l e.1 with ⟨k, hk', _, e2⟩ | ⟨hn, _⟩
    · rw [e2] at hk; simp at hk
    · exact hn a hm (kb_inj he)
  · rw [putL_old h]; exact ha
theorem putL_mem {l : List E} {e u : E} (h : u ∈ putL l e) : u ∈ l ∨ u = e := by
  unfold putL at h
  split at h
  · rcases List.mem_append.1 h with h | h
    · exact .inl (List.mem_of_mem_take h)
    · rcases List.mem_cons.1 h with h | h
      · exact .inr h
      · exact .inl (List.mem_of_mem_drop h)
  · exact .inl h
theorem putL_len {l : List E} {e : E} : (putL l e).length ≤ l.length + 1 := by
  unfold putL
  split
  · have := pos_le keyE (kb keyE e) l
    simp
    omega
  · omega
theorem fixC_hit {l : List E} {id : ByteArray} {q : Int} (h : fixC l id q = 0) : ∃ k, ∃ hk : k < l.length, l[k].1 = id ∧ lookE l id = (l[k], true) ∧ (0 ≤ q ∧ q ≤ 1000000000) ∧ l[k].2.2 ≠ q := by
  unfold fixC at h
  split at h
  · simp at h
  · rename_i hq
    split at h
    · simp at h
    · rename_i hk
      split at h
      · simp at h
      · rename_i hx
        rcases lookE_cases l id with ⟨k, hk', e1, e2⟩ | ⟨_, e2⟩
        · rw [e2] at hx
          exact ⟨k, hk', e1, e2, by simpa using hq, hx⟩
        · rw [e2] at hk; simp at hk
theorem fixL_set {l : List E} {id : ByteArray} {q : Int} (ha : Asc keyE l) {k : Nat} (hk : k < l.length) (e1 : l[k].1 = id) (e2 : lookE l id = (l[k], true)) (h : fixC l id q = 0) : fixL l id q = l.set k (id, l[k].2.1, q) := by
  unfold fixL
  rw [if_pos h, e2]
  have hp : pos keyE id.data.toList l = k := by rw [← e1]; exact pos_hit ha hk
  rw [hp]
theorem fixL_asc {l : List E} {id : ByteArray} {q : Int} (ha : Asc keyE l) : Asc keyE (fixL l id q) := by
  by_cases h : fixC l id q = 0
  · obtain ⟨k, hk, e1, e2, _, _⟩ := fixC_hit h
    rw [fixL_set ha hk e1 e2 h]
    exact asc_set ha hk (by show l[k].1.data.toList = id.data.toList; rw [e1])
  · rw [fixL_old h]; exact ha
theorem fixL_len {l : List E} {id : ByteArray} {q : Int} : (fixL l id q).length = l.length := by
  unfold fixL
  split
  · simp
  · rfl
theorem fixL_size {l : List E} {id : ByteArray} {q : Int} (ha : Asc keyE l) (hs : ∀ u ∈ l, u.1.size ≤ maxLen ∧ u.2.1.size ≤ maxLen) : ∀ u ∈ fixL l id q, u.1.size ≤ maxLen ∧ u.2.1.size ≤ maxLen := by
  intro u hu
  by_cases h : fixC l id q = 0
  · obtain ⟨k, hk, e1, e2, _, _⟩ := fixC_hit h
    rw [fixL_set ha hk e1 e2 h] at hu
    rcases List.mem_or_eq_of_mem_set hu with hu | hu
    · exact hs u hu
    · have hk2 := hs _ (List.getElem_mem hk)
      rw [hu, ← e1]
      exact hk2
  · rw [fixL_old h] at hu; exact hs u hu

/-- UsePut's answer -/
def putO (l : List E) (e : E) : List E := if okB l = true then putL l e else []
def putD (l : List E) (e : E) : Int := if okB l = true then putC l e else 4
/-- UseFix's answer -/
def fixO (l : List E) (id : ByteArray) (q : Int) : List E := if okB l = true then fixL l id q else []
def fixD (l : List E) (id : ByteArray) (q : Int) : Int := if okB l = true then fixC l id q else 4

theorem grown_below {w w1 w2 : World} {b : Nat} (h : Below w.heap.size w w1) (hg : w1.grownBy w2 (some b)) (hb : w.heap.size ≤ b) : Below w.heap.size w w2 := h.grown hg h.size (fun j hj => by cases hj; exact hb)

set_option maxHeartbeats 1000000 in
/-- impl.UsePut -/
theorem usePutI (v : Value) (l : List E) (e : E) (w : World) (h : ER w v l) (hl : l.length ≤ 1048576) (hs : ∀ u ∈ l, u.1.size ≤ maxLen ∧ u.2.1.size ≤ maxLen) (h1 : e.1.size ≤ maxLen) (h2 : e.2.1.size ≤ maxLen) :
    Calls Try.prog 12 #[v, eV e] w fun x w' => ∃ v', x = .returned (.tuple #[v', .int .i64 (putD l e)]) ∧ EN w.heap.size w' v' (putO l e) ∧ Below w.heap.size w w' := by
  obtain ⟨s, m, q⟩ := e
  simp only at h1 h2
  have hb0 : Below w.heap.size w (w.alloc (.cells #[.string s, .string m, .int .i64 q] 31)) := (Below.refl _ _).alloc (Nat.le_refl _) _
  have H := hide (h.kept hb0)
  have HS := hide hs
  have B0 := hide hb0
  clear h hs hb0
  cases hok : okB l with
  | false =>
    have e1 : putO l (s, m, q) = [] := by unfold putO; rw [hok]; rfl
    have e2 : putD l (s, m, q) = 4 := by unfold putD; rw [hok]; rfl
    rw [e1, e2]
    go_enter Try.func12, Try.ntmps12
    go_wp2_with (fail)
    refine (okI v l _ (unhide H) hl (unhide HS)).mono ?_
    rintro x w1 ⟨rfl, hb1⟩
    rw [hok]
    have B1 := hide (below_trans (unhide B0) hb1)
    clear hb1
    go_wp2
    exact bodyPost_ret (v := .tuple #[.slice none 0 0, .int .i64 4]) (by simp [results, Try.results12, go_sem]) rfl ⟨_, rfl, .inl ⟨rfl, _, _, rfl⟩, unhide B1⟩
  | true =>
    have e1 : putO l (s, m, q) = putL l (s, m, q) := by unfold putO; rw [hok]; rfl
    have e2 : putD l (s, m, q) = putC l (s, m, q) := by unfold putD; rw [hok]; rfl
    rw [e1, e2]
    have HO := hide hok
    have HA := hide (okB_asc hok)
    have hl20 := okB_len hok
    go_enter Try.func12, Try.ntmps12
    go_wp2_with (fail)
    refine (okI v l _ (unhide H) hl (unhide HS)).mono ?_
    rintro x w1 ⟨rfl, hb1⟩
    rw [hok]
    have H1 := hide ((unhide H).kept hb1)
    have B1 := hide (below_trans (unhide B0) hb1)
    have c0 : w1.cell? ⟨w.heap.size, 0, none⟩ = some (.string s) := (hb1.cell (p := ⟨w.heap.size, 0, none⟩) (by simp)).trans (by go_keep)
    have c1 : w1.cell? ⟨w.heap.size, 1, none⟩ = some (.string m) := (hb1.cell (p := ⟨w.heap.size, 1, none⟩) (by simp)).trans (by go_keep)
    have c2 : w1.cell? ⟨w.heap.size, 2, none⟩ = some (.int .i64 q) := (hb1.cell (p := ⟨w.heap.size, 2, none⟩) (by simp)).trans (by go_keep)
    have zz : w.heap.size < w1.heap.size := Nat.lt_of_lt_of_le (by simp) hb1.size
    clear hb1 H hok e1 e2
    go_wp2_with (fail)
    refine (keepI v l _ (unhide H1) (unhide HO) (unhide HS)).mono ?_
    rintro x w2 ⟨rfl, hm2, hb2⟩
    have M2 := hide hm2
    have d0 := (hb2.cell (p := ⟨w.heap.size, 0, none⟩) zz).trans c0
    have d1 := (hb2.cell (p := ⟨w.heap.size, 1, none⟩) zz).trans c1
    have d2 := (hb2.cell (p := ⟨w.heap.size, 2, none⟩) zz).trans c2
    clear c0 c1 c2
    have B2 := hide (below_trans (unhide B1) hb2)
    have z1 : w.heap.size ≤ w1.heap.size := (unhide B1).size
    clear hm2 hb2 B1 H1
    go_wp2_with (fail)
    refine (putI w1.heap.size l (s, m, q) _ (unhide M2) (unhide HA) hl20 h1 h2).mono ?_
    rintro x w3 ⟨rfl, hm3, hg3⟩
    have M3 := hide hm3
    have B3 := hide (grown_below (unhide B2) hg3 z1)
    clear hm3 hg3 B2 M2
    go_wp2_with (fail)
    refine (listI w1.heap.size (putL l (s, m, q)) _ (unhide M3) (putL_asc (unhide HA)) (by have := putL_len (l := l) (e := (s, m, q)); omega) (fun u hu => by rcases putL_mem hu with hu | rfl; exact (unhide HS u hu).1; exact h1)).mono ?_
    rintro x w4 ⟨v', rfl, hn4, hb4⟩
    have N4 := hide (hn4.low (unhide B3).size)
    have B4 := hide (below_trans (unhide B3) hb4)
    clear hn4 hb4 B3
    go_wp2
    exact bodyPost_ret (v := .tuple #[v', .int .i64 (putC l (s, m, q))]) (by simp [results, Try.results12, go_sem]) rfl ⟨_, rfl, unhide N4, unhide B4⟩

set_option maxHeartbeats 1000000 in
/-- impl.UseFix -/
theorem useFixI (v : Value) (l : List E) (id : ByteArray) (q : Int) (w : World) (h : ER w v l) (hl : l.length ≤ 1048576) (hs : ∀ u ∈ l, u.1.size ≤ maxLen ∧ u.2.1.size ≤ maxLen) (h1 : id.size ≤ maxLen) :
    Calls Try.prog 20 #[v, .string id, .int .i64 q] w fun x w' => ∃ v', x = .returned (.tuple #[v', .int .i64 (fixD l id q)]) ∧ EN w.heap.size w' v' (fixO l id q) ∧ Below w.heap.size w w' := by
  have H := hide h
  have HS := hide hs
  clear h hs
  cases hok : okB l with
  | false =>
    have e1 : fixO l id q = [] := by unfold fixO; rw [hok]; rfl
    have e2 : fixD l id q = 4 := by unfold fixD; rw [hok]; rfl
    rw [e1, e2]
    go_enter Try.func20, Try.ntmps20
    go_wp2_with (fail)
    refine (okI v l _ (unhide H) hl (unhide HS)).mono ?_
    rintro x w1 ⟨rfl, hb1⟩
    rw [hok]
    have B1 := hide hb1
    clear hb1
    go_wp2
    exact bodyPost_ret (v := .tuple #[.slice none 0 0, .int .i64 4]) (by simp [results, Try.results20, go_sem]) rfl ⟨_, rfl, .inl ⟨rfl, _, _, rfl⟩, unhide B1⟩
  | true =>
    have e1 : fixO l id q = fixL l id q := by unfold fixO; rw [hok]; rfl
    have e2 : fixD l id q = fixC l id q := by unfold fixD; rw [hok]; rfl
    rw [e1, e2]
    have HO := hide hok
    have HA := hide (okB_asc hok)
    have hl20 := okB_len hok
    go_enter Try.func20, Try.ntmps20
    go_wp2_with (fail)
    refine (okI v l _ (unhide H) hl (unhide HS)).mono ?_
    rintro x w1 ⟨rfl, hb1⟩
    rw [hok]
    have H1 := hide ((unhide H).kept hb1)
    have B1 := hide hb1
    clear hb1 H hok e1 e2
    go_wp2_with (fail)
    refine (keepI v l _ (unhide H1) (unhide HO) (unhide HS)).mono ?_
    rintro x w2 ⟨rfl, hm2, hb2⟩
    have M2 := hide hm2
    have B2 := hide (below_trans (unhide B1) hb2)
    have z1 : w.heap.size ≤ w1.heap.size := (unhide B1).size
    clear hm2 hb2 B1 H1
    go_wp2_with (fail)
    refine (fixI w1.heap.size l id q _ (unhide M2) (unhide HA) hl20 h1).mono ?_
    rintro x w3 ⟨rfl, hm3, hg3⟩
    have M3 := hide hm3
    have B3 := hide (grown_below (unhide B2) hg3 z1)
    clear hm3 hg3 B2 M2
    go_wp2_with (fail)
    refine (listI w1.heap.size (fixL l id q) _ (unhide M3) (fixL_asc (unhide HA)) (by have := fixL_len (l := l) (id := id) (q := q); omega) (fun u hu => (fixL_size (unhide HA) (unhide HS) u hu).1)).mono ?_
    rintro x w4 ⟨v', rfl, hn4, hb4⟩
    have N4 := hide (hn4.low (unhide B3).size)
    have B4 := hide (below_trans (unhide B3) hb4)
    clear hn4 hb4 B3
    go_wp2
    exact bodyPost_ret (v := .tuple #[v', .int .i64 (fixC l id q)]) (by simp [results, Try.results20, go_sem]) rfl ⟨_, rfl, unhide N4, unhide B4⟩
end Go.Proofs.Ythhkjbhkginecaa.Evs
