/-
  spec.UsePut and spec.UseFix: what they answer.
-/
import Derived.Test.YthhkjbhkginecaaPutI
import Derived.Test.YthhkjbhkginecaaEvOk3
import Derived.Test.YthhkjbhkginecaaApp3
import Derived.Test.YthhkjbhkginecaaMark
namespace Go.Proofs.Ythhkjbhkginecaa.Evs
set_option linter.unusedVariables false
open Go.RowKit Go.Maps MapM

theorem lookE_pos {l : List E} (ha : Asc keyE l) {s : ByteArray} (hp : pos keyE s.data.toList l < l.length) (h : l[pos keyE s.data.toList l].1 = s) : lookE l s = (l[pos keyE s.data.toList l], true) := by
  have := lookE_at ha hp
  have hg : l.getD (pos keyE s.data.toList l) E0 = l[pos keyE s.data.toList l] := by simp [List.getD, hp]
  rw [hg, h] at this
  exact this
theorem lookE_nopos {l : List E} (ha : Asc keyE l) {s : ByteArray} (h : ∀ hp : pos keyE s.data.toList l < l.length, l[pos keyE s.data.toList l].1 ≠ s) : lookE l s = (E0, false) := by
  rcases lookE_cases l s with ⟨k, hk, e1, e2⟩ | ⟨_, e2⟩
  · have hpk : pos keyE s.data.toList l = k := by rw [← e1]; exact pos_hit ha hk
    subst hpk
    exact absurd e1 (h hk)
  · exact e2
theorem ltS_false {s t : ByteArray} (h : ltS s t = false) : ¬ s.data.toList < t.data.toList := fun h' => by rw [ltS_iff.2 h'] at h; simp at h

theorem look_hit_pos {l : List E} (ha : Asc keyE l) {s : ByteArray} (h : (lookE l s).2 = true) : ∃ hp : pos keyE s.data.toList l < l.length, lookE l s = (l[pos keyE s.data.toList l], true) ∧ l[pos keyE s.data.toList l].1 = s := by
  rcases lookE_cases l s with ⟨k, hk, e1, e2⟩ | ⟨_, e2⟩
  · have hpk : pos keyE s.data.toList l = k := by rw [← e1]; exact pos_hit ha hk
    subst hpk
    exact ⟨hk, e2, e1⟩
  · rw [e2] at h; simp at h
set_option maxHeartbeats 1000000 in
/-- spec.l3At -/
theorem atS (v : Value) (l : List E) (s : ByteArray) (w : World) (h : ER w v l) (hl : l.length ≤ 1048576) (ha : Asc keyE l) :
    Calls Try.prog 41 #[v, .string s] w fun x w' => x = .returned (.tuple #[.int .i64 (pos keyE s.data.toList l : Nat), .bool (lookE l s).2]) ∧ Below w.heap.size w w' := by
  rcases h with ⟨rfl, a, c, rfl⟩ | ⟨b, o, cap, rfl, hc⟩
  · go_enter Try.func41, Try.ntmps41
    go_wp2
    refine wp_loop_rounds 1 ?_
    rw [rounds_succ]
    go_wp2
    go_quiet (fail)
    go_wp2
    exact bodyPost_ret (v := .tuple #[.int .i64 0, .bool false]) (by simp [results, Try.results41, go_sem]) rfl ⟨rfl, below_drewN' (Below.refl _ _) _⟩
  · have HC := hide hc
    clear hc
    generalize hp : pos keyE s.data.toList l = p
    generalize hr : (lookE l s).2 = r
    have HP := hide hp; have HR := hide hr
    clear hp hr
    have HA := hide ha
    clear ha
    go_enter Try.func41, Try.ntmps41
    go_wp2
    go_loop [6] (fun i => ∃ k : Nat, k ≤ l.length ∧ i = .int .i64 k ∧ Hid (∀ j (hj : j < l.length), j < k → kb keyE l[j] < s.data.toList)) (fun i => l.length - (intOf i).toNat)
    case atStart => exact ⟨0, Nat.zero_le _, rfl, hide (fun j hj h => by omega)⟩
    case round =>
      obtain ⟨k, hk, rfl, hd⟩ := hrel
      by_cases hlt : k < l.length
      · obtain ⟨c0, c1, c2⟩ := (unhide HC).2 k hlt
        have hg : l.getD k E0 = l[k] := by simp [List.getD, hlt]
        rw [hg] at c0
        have i1 : (0 : Int) ≤ (k : Int) := by omega
        have i2 : (k : Int) < (l.length : Int) := by omega
        cases hlx : ltS l[k].1 s with
        | true =>
          have hd' : Hid (∀ j (hj : j < l.length), j < k + 1 → kb keyE l[j] < s.data.toList) := hide (fun j hj h => by
            by_cases e : j < k
            · exact unhide hd j hj e
            · obtain rfl : j = k := by omega
              exact ltS_iff.1 hlx)
          simp only [ltS] at hlx
          generalize l[k].1 = t at *
          go_wp2
          exact ⟨⟨k + 1, by omega, by go_num, hd'⟩, by simp [intOf]; omega⟩
        | false =>
          have hpk : pos keyE s.data.toList l = k := pos_of keyE hk (fun i hi hik => unhide hd i hi hik) (fun _ => ltS_false hlx)
          have hpp : p = k := (unhide HP).symm.trans hpk
          subst hpp
          by_cases he : l[p].1 = s
          · have hrr : r = true := by
              rw [← unhide HR]
              have := lookE_pos (unhide HA) (s := s) (by rw [hpk]; exact hlt) (by simp only [hpk]; exact he)
              rw [this]
            subst hrr
            simp only [ltS] at hlx
            have hx : (l[p].1.toList == s.toList) = true := by rw [he]; simp
            clear he
            generalize l[p].1 = t at *
            go_wp2
            go_quiet (fail)
            go_wp2
            exact bodyPost_ret (v := .tuple #[.int .i64 p, .bool true]) (by simp [results, Try.results41, go_sem]) rfl ⟨rfl, below_drewN' (Below.refl _ _) _⟩
          · have hrr : r = false := by
              rw [← unhide HR]
              have := lookE_nopos (unhide HA) (s := s) (fun hp => by simp only [hpk]; exact he)
              rw [this]
            subst hrr
            simp only [ltS] at hlx
            have hx : (l[p].1.toList == s.toList) = false := by rw [beq_eq_false_iff_ne]; intro e; exact he (ext_toList e)
            clear he
            generalize l[p].1 = t at *
            go_wp2
            go_quiet (fail)
            go_wp2
            exact bodyPost_ret (v := .tuple #[.int .i64 p, .bool false]) (by simp [results, Try.results41, go_sem]) rfl ⟨rfl, below_drewN' (Below.refl _ _) _⟩
      · obtain rfl : k = l.length := by omega
        have hpk : pos keyE s.data.toList l = l.length := pos_of keyE hk (fun i hi hik => unhide hd i hi hik) (fun hn => absurd hn (by omega))
        have hpp : p = l.length := (unhide HP).symm.trans hpk
        subst hpp
        have hrr : r = false := by
          rw [← unhide HR]
          have := lookE_nopos (unhide HA) (s := s) (fun hp => by omega)
          rw [this]
        subst hrr
        go_wp2
        go_quiet (fail)
        go_wp2
        exact bodyPost_ret (v := .tuple #[.int .i64 l.length, .bool false]) (by simp [results, Try.results41, go_sem]) rfl ⟨rfl, below_drewN' (Below.refl _ _) _⟩

set_option maxRecDepth 20000 in
set_option maxHeartbeats 1000000 in
/-- spec.UseFix -/
theorem useFixS (v : Value) (l : List E) (id : ByteArray) (q : Int) (w : World) (h : ER w v l) (hl : l.length ≤ 1048576) (hs : ∀ u ∈ l, u.1.size ≤ maxLen ∧ u.2.1.size ≤ maxLen) :
    Calls Try.prog 21 #[v, .string id, .int .i64 q] w fun x w' => ∃ v', x = .returned (.tuple #[v', .int .i64 (fixD l id q)]) ∧ EN w.heap.size w' v' (fixO l id q) ∧ Below w.heap.size w w' := by
  have H := hide h
  have HS := hide hs
  clear h hs
  cases hok : okB l with
  | false =>
    have e1 : fixO l id q = [] := by unfold fixO; rw [hok]; rfl
    have e2 : fixD l id q = 4 := by unfold fixD; rw [hok]; rfl
    rw [e1, e2]
    go_enter Try.func21, Try.ntmps21
    go_wp2_with (fail)
    refine (okS v l _ (unhide H) hl (unhide HS)).mono ?_
    rintro x w1 ⟨rfl, hb1⟩
    rw [hok]
    have B1 := hide hb1
    clear hb1
    go_wp2
    exact bodyPost_ret (v := .tuple #[.slice none 0 0, .int .i64 4]) (by simp [results, Try.results21, go_sem]) rfl ⟨_, rfl, .inl ⟨rfl, _, _, rfl⟩, unhide B1⟩
  | true =>
    have e1 : fixO l id q = fixL l id q := by unfold fixO; rw [hok]; rfl
    have e2 : fixD l id q = fixC l id q := by unfold fixD; rw [hok]; rfl
    rw [e1, e2]
    generalize hfc : fixC l id q = fc
    generalize hfl : fixL l id q = fl
    have HFC := hide hfc; have HFL := hide hfl
    clear hfc hfl
    have HA := hide (okB_asc hok)
    have hl20 := okB_len hok
    go_enter Try.func21, Try.ntmps21
    go_wp2_with (fail)
    refine (okS v l _ (unhide H) hl (unhide HS)).mono ?_
    rintro x w1 ⟨rfl, hb1⟩
    rw [hok]
    have H1 := hide ((unhide H).kept hb1)
    have B1 := hide hb1
    clear hb1 H hok e1 e2
    have X1 := hide (XO.made w1 w.heap.size (unhide B1).size 31 rfl)
    have b1 := (Below.refl w1.heap.size w1).alloc (Nat.le_refl _) (.cells #[] 31)
    have H2 := hide ((unhide H1).kept b1)
    have B2 := hide (below_trans (unhide B1) b1)
    clear b1
    go_wp2_with (first | (at_builtin; refine listAppE _ rfl _ _ rfl w.heap.size w1.heap.size 0 0 [] l _ rfl rfl (unhide X1) rfl (unhide H2) (by simp; omega) (unhide B2).size ?_; intro b2 c2 w2 hx2 hg2 hat2 hlt2) | fail)
    have b12 : Below w1.heap.size w1 w2 := ((Below.refl w1.heap.size w1).alloc (Nat.le_refl _) _).grown hg2 (by simp) (fun j hj => by cases hj; exact Nat.le_refl _)
    have H3 := hide ((unhide H1).kept b12)
    have B3 := hide (below_trans (unhide B1) b12)
    rw [List.nil_append] at hx2
    have X3 := hide hx2
    clear b12 hx2 hg2 hat2 hlt2 H1 H2 B1 B2 X1
    refine (atS v l id _ (unhide H3) hl (unhide HA)).mono ?_
    rintro x w3 ⟨rfl, hb3⟩
    have H4 := hide ((unhide H3).kept hb3)
    have B4 := hide (below_trans (unhide B3) hb3)
    have O4 := hide ((unhide X3).own.2.kept hb3)
    have z4 : w.heap.size ≤ b2 ∧ l.length ≤ c2 := ⟨(unhide X3).own.1, (unhide X3).cap⟩
    have HN : Hid (∀ l', EOwn w3 b2 l' → l'.length = l.length → EN w.heap.size w3 (.slice (some ⟨b2, 0, none⟩) l.length c2) l') := hide (fun l' h hl' => by rw [← hl']; exact .inr ⟨b2, c2, rfl, ⟨z4.1, by rw [hl']; exact z4.2⟩, h⟩)
    clear hb3 H3 B3 X3
    by_cases hq : 0 ≤ q ∧ q ≤ 1000000000
    · have hq1 : ¬ q < 0 := by omega
      have hq2 : q ≤ 1000000000 := hq.2
      have hqd : decide (0 ≤ q ∧ q ≤ 1000000000) = true := decide_eq_true hq
      clear hq
      cases hok : (lookE l id).2 with
      | false =>
        have h0 : fixC l id q = 5 := by unfold fixC; rw [if_neg (by rw [hqd]; simp), if_pos hok]
        have h1 : fc = 5 := (unhide HFC).symm.trans h0
        have h2 : l = fl := (fixL_old (by rw [h0]; decide)).symm.trans (unhide HFL)
        subst h1
        subst h2
        clear h0 hqd
        go_wp2
        exact bodyPost_ret (v := .tuple #[.slice (some ⟨b2, 0, none⟩) l.length c2, .int .i64 5]) (by simp [results, Try.results21, go_sem]) rfl ⟨_, rfl, unhide HN l (unhide O4) rfl, unhide B4⟩
      | true =>
        obtain ⟨hp, hlk, hid⟩ := look_hit_pos (unhide HA) hok
        rcases unhide H4 with ⟨rfl, _⟩ | ⟨b, o, cap, rfl, hc⟩
        · simp at hp
        obtain ⟨c0, c1, c2'⟩ := hc.2 _ hp
        obtain ⟨e0, e1, e2⟩ := (unhide O4).1.2 _ hp
        have hfz := (unhide O4).2 (pos keyE id.data.toList l * 3 + 2)
        rw [Nat.zero_add] at e2
        have hg : l.getD (pos keyE id.data.toList l) E0 = l[pos keyE id.data.toList l] := by simp [List.getD, hp]
        rw [hg] at c2' e2
        have i1 : (0 : Int) ≤ (pos keyE id.data.toList l : Nat) := by omega
        have i2 : ((pos keyE id.data.toList l : Nat) : Int) < (l.length : Int) := by omega
        by_cases hx : l[pos keyE id.data.toList l].2.2 = q
        · have h0 : fixC l id q = 1 := by unfold fixC; rw [if_neg (by rw [hqd]; simp), if_neg (by rw [hok]; simp), if_pos (by rw [hlk]; exact hx)]
          have h1 : fc = 1 := (unhide HFC).symm.trans h0
          have h2 : l = fl := (fixL_old (by rw [h0]; decide)).symm.trans (unhide HFL)
          subst h1
          subst h2
          rw [hx] at c2'
          clear h0 hqd hx c0 c1 e0 e1 e2 hfz hlk hid hc hg
          generalize pos keyE id.data.toList l = p at *
          go_wp2
          exact bodyPost_ret (v := .tuple #[.slice (some ⟨b2, 0, none⟩) l.length c2, .int .i64 1]) (by simp [results, Try.results21, go_sem]) rfl ⟨_, rfl, unhide HN l (unhide O4) rfl, unhide B4⟩
        · have h1 : fixC l id q = 0 := by unfold fixC; rw [if_neg (by rw [hqd]; simp), if_neg (by rw [hok]; simp), if_neg (by rw [hlk]; exact hx)]
          have h2 : fixL l id q = l.set (pos keyE id.data.toList l) (id, l[pos keyE id.data.toList l].2.1, q) := fixL_set (unhide HA) hp hid hlk h1
          have h3 : fc = 0 := (unhide HFC).symm.trans h1
          have h4 := h2.symm.trans (unhide HFL)
          subst h3
          subst h4
          have O5 := hide ((unhide O4).setQ hp q)
          have e5 : (l[pos keyE id.data.toList l].1, l[pos keyE id.data.toList l].2.1, q) = ((id, l[pos keyE id.data.toList l].2.1, q) : E) := by rw [hid]
          rw [hg, e5] at O5
          have hxb : (l[pos keyE id.data.toList l].2.2 == q) = false := by simpa using hx
          clear h1 h2 hqd hx c0 c1 e0 e1 hlk hid hc hg e5 HN
          generalize l[pos keyE id.data.toList l].2.2 = y at *
          generalize pos keyE id.data.toList l = p at *
          go_wp2
          refine bodyPost_ret (v := .tuple #[.slice (some ⟨b2, 0, none⟩) l.length c2, .int .i64 0]) (by simp [results, Try.results21, go_sem]) rfl ⟨_, rfl, .inr ⟨b2, c2, by simp, ⟨z4.1, by rw [List.length_set]; exact z4.2⟩, unhide O5⟩, (unhide B4).setCell (p := ⟨b2, p * 3 + 2, none⟩) z4.1 _⟩
    · have h0 : fixC l id q = 4 := by unfold fixC; rw [if_pos (decide_eq_false hq)]
      have h1 : fc = 4 := (unhide HFC).symm.trans h0
      have h2 : l = fl := (fixL_old (by rw [h0]; decide)).symm.trans (unhide HFL)
      subst h1
      subst h2
      clear h0
      by_cases hq1 : q < 0
      · clear hq
        go_wp2
        exact bodyPost_ret (v := .tuple #[.slice (some ⟨b2, 0, none⟩) l.length c2, .int .i64 4]) (by simp [results, Try.results21, go_sem]) rfl ⟨_, rfl, unhide HN l (unhide O4) rfl, unhide B4⟩
      · have hq2 : 1000000000 < q := by omega
        clear hq
        go_wp2
        exact bodyPost_ret (v := .tuple #[.slice (some ⟨b2, 0, none⟩) l.length c2, .int .i64 4]) (by simp [results, Try.results21, go_sem]) rfl ⟨_, rfl, unhide HN l (unhide O4) rfl, unhide B4⟩
end Go.Proofs.Ythhkjbhkginecaa.Evs
