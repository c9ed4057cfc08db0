/-
  Events in a map by their Ids: impl.keepEvents.
-/
import Derived.Test.YthhkjbhkginecaaEvOk2
import Derived.Test.YthhkjbhkginecaaMapM
import Derived.Maps.OwnOps
namespace Go.Proofs.Ythhkjbhkginecaa.Evs
set_option linter.unusedVariables false
open Go.RowKit Go.Maps MapM

/-- every value reads as itself -/
def RV (v : Value) : Option (DataW Value × List MemPlace) := some (.held v, [])
/-- the key of an event -/
abbrev keyE (e : E) : ByteArray := e.1
/-- the map of events as read -/
abbrev DE (l : List E) : DataW Value := DM keyE eV l
/-- block b is the map of the events l -/
def EM (W : World) (b : Nat) (l : List E) : Prop := W.ownsMap Try.prog 9 RV b l.length (DE l)

theorem law : Keyed Try.prog 9 := string_keyed Try.underlying9
theorem ltS_iff {s t : ByteArray} : ltS s t = true ↔ s.data.toList < t.data.toList := by
  rw [ltS, Proofs.bytesLess_eq, Lib.toList_data, Lib.toList_data, decide_eq_true_eq]

theorem okB_len {l : List E} (h : okB l = true) : l.length ≤ 20 := by
  rcases Nat.lt_or_ge 20 l.length with h' | h'
  · rw [okB_long h'] at h; simp at h
  · exact h'
theorem okB_at {l : List E} (h : okB l = true) {k : Nat} (hk : k < l.length) : badAt l k = false := by
  cases hb : badAt l k with
  | false => rfl
  | true => rw [okB_bad hk hb] at h; simp at h
theorem okB_right {l : List E} (h : okB l = true) {k : Nat} (hk : k < l.length) : rightE (l.getD k E0) = true := by
  have := okB_at h hk
  simp only [badAt, Bool.or_eq_false_iff, Bool.not_eq_false'] at this
  exact this.1
theorem okB_next {l : List E} (h : okB l = true) {k : Nat} (hk : k + 1 < l.length) : kb keyE (l.getD k E0) < kb keyE (l.getD (k + 1) E0) := by
  have := okB_at h hk
  simp only [badAt, Bool.or_eq_false_iff, Bool.and_eq_false_iff] at this
  rcases this.2 with h2 | h2
  · simp at h2
  · exact ltS_iff.1 (by simpa using h2)
theorem asc_of_next : ∀ {l : List E}, (∀ k, k + 1 < l.length → kb keyE (l.getD k E0) < kb keyE (l.getD (k + 1) E0)) → Asc keyE l
  | [], _ => List.Pairwise.nil
  | [a], _ => List.pairwise_singleton _ _
  | a :: b :: l, h => by
    have ih : Asc keyE (b :: l) := asc_of_next (fun k hk => by have := h (k + 1) (by simpa using hk); simpa using this)
    refine List.pairwise_cons.2 ⟨fun c hc => ?_, ih⟩
    have hab : kb keyE a < kb keyE b := by have := h 0 (by simp); simpa using this
    rcases List.mem_cons.1 hc with rfl | hc
    · exact hab
    · exact List.lt_trans hab ((List.pairwise_cons.1 ih).1 c hc)
theorem okB_asc {l : List E} (h : okB l = true) : Asc keyE l := asc_of_next (fun k hk => okB_next h hk)

/-- one more, behind all -/
theorem DE_step {l : List E} (ha : Asc keyE l) {k : Nat} (hk : k < l.length) : (DE (l.take k)).put (.string (l.getD k E0).1.data.toList) (.held (eV (l.getD k E0))) = DE (l.take (k + 1)) := by
  have e3 : l.take (k + 1) = l.take k ++ [l.getD k E0] := by rw [List.take_add_one, List.getElem?_eq_getElem hk]; simp [List.getD, hk]
  have hg : l.getD k E0 = l[k] := by simp [List.getD, hk]
  have hlt : ∀ a ∈ l.take k, kb keyE a < kb keyE l[k] := by
    intro a hm
    obtain ⟨i, hi, rfl⟩ := List.getElem_of_mem hm
    rw [List.getElem_take]
    have hik : i < k := by simp at hi; omega
    exact List.pairwise_iff_getElem.1 ha i k (by omega) hk hik
  have hp : pos keyE (kb keyE l[k]) (l.take k) = (l.take k).length := pos_of keyE (Nat.le_refl _) (fun i hi _ => hlt _ (List.getElem_mem hi)) (fun hn => absurd hn (by omega))
  rw [hg]
  refine (put_new keyE eV (l.take k) l[k] (fun a hm he => ?_)).trans ?_
  · have := hlt a hm
    rw [he] at this
    exact List.lt_irrefl _ this
  · rw [hp, List.take_length, List.drop_length, e3, hg]

theorem EM.kept {W W' : World} {b : Nat} {l : List E} (h : EM W b l) (hb : Below W.heap.size W W') : EM W' b l :=
  World.ownsMap.kept (row := none) h ⟨hb.os, hb.tape, hb.output, hb.size, fun j hj _ => hb.block j hj⟩ (by simp)
theorem EM.lt {W : World} {b : Nat} {l : List E} (h : EM W b l) : b < W.heap.size := World.ownsMap.lt h

set_option maxHeartbeats 1000000 in
/-- impl.keepEvents -/
theorem keepI (v : Value) (l : List E) (w : World) (h : ER w v l) (hok : okB l = true) (hs : ∀ u ∈ l, u.1.size ≤ maxLen ∧ u.2.1.size ≤ maxLen) :
    Calls Try.prog 37 #[v] w fun e w' => e = .returned (.map (some w.heap.size)) ∧ EM w' w.heap.size l ∧ Below w.heap.size w w' := by
  have hl := okB_len hok
  have ha := hide (okB_asc hok)
  clear hok
  have hmm := @run_makeMap Try.prog
  rcases h with ⟨rfl, a, c, rfl⟩ | ⟨b, o, cap, rfl, hc⟩
  · go_enter Try.func37, Try.ntmps37
    go_wp2
    refine wp_loop_rounds 1 ?_
    rw [rounds_succ]
    go_wp2
    go_ret
    exact ⟨rfl, World.ownsMap_made _ _ _ _, (Below.refl _ _).alloc (Nat.le_refl _) _⟩
  · have HC := hide hc
    have hbs := hc.1
    clear hc
    go_enter Try.func37, Try.ntmps37
    go_wp2
    go_loopw [9] (fun i wr => ∃ k : Nat, k ≤ l.length ∧ i = .int .i64 k ∧ Hid (wr.ownsMap Try.prog 9 RV w.heap.size k (DE (l.take k))) ∧ Hid (Below w.heap.size w wr)) (fun i _ => l.length - (intOf i).toNat)
    case atStart => exact ⟨0, Nat.zero_le _, rfl, hide (World.ownsMap_made _ _ _ _), hide ((Below.refl _ _).alloc (Nat.le_refl _) _)⟩
    case round =>
      obtain ⟨k, hk, rfl, hm, hb⟩ := hrel
      by_cases hlt : k < l.length
      · obtain ⟨c0, c1, c2⟩ := ((unhide HC).kept (unhide hb)).2 k hlt
        obtain ⟨hsz, hmz⟩ : (l.getD k E0).1.size ≤ maxLen ∧ (l.getD k E0).2.1.size ≤ maxLen := hs _ (by simp [List.getD, hlt])
        have HD := hide (DE_step (unhide ha) hlt)
        have i1 : (0 : Int) ≤ (k : Int) := by omega
        have i2 : (k : Int) < (l.length : Int) := by omega
        generalize l.getD k E0 = x at *
        obtain ⟨s, m, q⟩ := x
        simp only at c0 c1 c2 hsz hmz
        have hkey : keyOf Try.prog 9 (.string s) = some (.string s.data.toList) := WideMaps.keyOf_string_mk Try.underlying9 hsz
        have hm1 := hide ((unhide hm).alloc (.cells #[.string s, .string m, .int .i64 q] 31))
        go_wp2_with (first | (at_mapUpdate; refine wpList_mapUpdate_own _ rfl _ _ _ 67 rfl 9 31 law Try.underlying67 RV w.heap.size k _ rfl (unhide hm1) (by unfold maxLen; omega) _ _ _ rfl rfl hkey _ [] rfl ?_; intro w1 hown1 hg1) | go_in)
        refine ⟨⟨k + 1, by omega, by go_num, hide ?_, hide ?_⟩, by simp [intOf]; omega⟩
        · rw [← unhide HD]; exact hown1
        · exact ((unhide hb).alloc (unhide hb).size _).grown hg1 ((unhide hb).alloc (unhide hb).size _).size (fun j hj => by cases hj; exact Nat.le_refl _)
      · obtain rfl : k = l.length := by omega
        go_wp2
        go_ret
        refine ⟨rfl, ?_, unhide hb⟩
        have := unhide hm
        rwa [List.take_length] at this
end Go.Proofs.Ythhkjbhkginecaa.Evs
