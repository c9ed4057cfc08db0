/-
  Lines of tariffs (two texts and a number, in memory as events are): the laws' own helpers on them: size, copy, compare.
-/
import Derived.Test.YtdjjgoeinkbmjaaEvs
namespace Go.Proofs.Ytdjjgoeinkbmjaa.Evs
set_option linter.unusedVariables false
open Go.RowKit

/-- szBillLine -/
theorem szLin (s m : ByteArray) (q n : Int) (w : World) (hu : s.size ≤ maxLen) (hm : m.size ≤ maxLen) (h0 : 0 ≤ n) (h1 : n ≤ 1048576) :
    Calls Try.prog 106 #[.agg #[.string s, .string m, .int .i64 q], .int .i64 n] w fun e w' => ∃ r : Int, e = .returned (.int .i64 r) ∧ -1 ≤ r ∧ r ≤ n ∧ Below w.heap.size w w' := by
  unfold maxLen at hu hm
  by_cases hn : n - s.size < 0
  · go_enter Try.func106, Try.ntmps106
    go_wp2
    go_ret
    exact ⟨_, rfl, by omega, by omega, (Below.refl _ _).alloc (Nat.le_refl _) _⟩
  by_cases hn2 : n - s.size - m.size < 0
  · go_enter Try.func106, Try.ntmps106
    go_wp2
    go_ret
    exact ⟨_, rfl, by omega, by omega, (Below.refl _ _).alloc (Nat.le_refl _) _⟩
  · go_enter Try.func106, Try.ntmps106
    go_wp2
    go_ret
    exact ⟨_, rfl, by omega, by omega, (Below.refl _ _).alloc (Nat.le_refl _) _⟩

/-- szBillLineS -/
theorem szLins (v : Value) (l : List E) (n : Int) (w : World) (h : ER w v l) (hl : l.length ≤ maxLen) (hs : ∀ u ∈ l, u.1.size ≤ maxLen ∧ u.2.1.size ≤ maxLen) (h0 : 0 ≤ n) (h1 : n ≤ 1048576) :
    Calls Try.prog 73 #[v, .int .i64 n] w fun e w' => ∃ r : Int, e = .returned (.int .i64 r) ∧ -1 ≤ r ∧ r ≤ n ∧ (0 ≤ r → l.length ≤ n) ∧ Below w.heap.size w w' := by
  have hs' := hs
  unfold maxLen at hl hs
  by_cases hneg : n - l.length < 0
  · obtain ⟨a, c, rfl⟩ := h.slice
    clear h
    go_enter Try.func73, Try.ntmps73
    go_wp2
    go_ret
    exact ⟨_, rfl, by omega, by omega, fun h => by omega, Below.refl _ _⟩
  rcases h with ⟨rfl, a, c, rfl⟩ | ⟨b, o, cap, rfl, hc⟩
  · go_enter Try.func73, Try.ntmps73
    go_wp2
    refine wp_loop_rounds 1 ?_
    rw [rounds_succ]
    go_wp2
    go_ret
    exact ⟨_, rfl, by omega, by omega, fun h => by simpa using h0, Below.refl _ _⟩
  · have HC := hide hc; clear hc
    go_enter Try.func73, Try.ntmps73
    go_wp2
    go_loopw [1, 5] (fun t i wr => ∃ (k : Nat) (q : Int), k ≤ l.length ∧ i = .int .i64 k ∧ t = .int .i64 q ∧ 0 ≤ q ∧ q ≤ n ∧ Hid (Below w.heap.size w wr)) (fun _ i _ => l.length - (intOf i).toNat)
    case atStart => exact ⟨0, _, by omega, rfl, rfl, by omega, by omega, hide (Below.refl _ _)⟩
    case round =>
      obtain ⟨k, q, hk, rfl, rfl, hq0, hq1, hb⟩ := hrel
      by_cases hlt : k < l.length
      · have hc := ((unhide HC).kept (unhide hb)).2 k hlt
        obtain ⟨c1, c2, c3⟩ := hc
        obtain ⟨hsz, hmz⟩ : (l.getD k E0).1.size ≤ maxLen ∧ (l.getD k E0).2.1.size ≤ maxLen := hs' _ (by simp [List.getD, hlt])
        generalize (l.getD k E0).1 = s at *
        generalize (l.getD k E0).2.1 = m at *
        generalize (l.getD k E0).2.2 = z at *
        go_wp2_with (fail)
        refine (szLin s m z q wr hsz hmz hq0 (by omega)).mono ?_
        rintro e w1 ⟨r, rfl, r1, r2, hb1⟩
        have HB : Hid (Below w.heap.size w w1) := hide (below_trans (unhide hb) hb1)
        clear hb hb1
        by_cases hr : r < 0
        · go_wp2
          go_ret
          exact ⟨_, rfl, by omega, by omega, fun h => by omega, unhide HB⟩
        · go_wp2
          exact ⟨⟨k + 1, r, by omega, by go_num, rfl, by omega, by omega, HB⟩, by simp [intOf]; omega⟩
      · go_wp2
        go_ret
        exact ⟨_, rfl, by omega, by omega, fun h => by omega, unhide hb⟩

theorem infoL : (Try.prog.info? 116).map (fun i => (i.zero, i.size, i.bytes)) = some (some (.agg #[.string ByteArray.empty, .string ByteArray.empty, .int .i64 0]), 3, 40) := by kernel_rfl

theorem makeL (n : Nat) (hn : n ≤ 1048576) (w : World) : (Instr.makeSlice 70 (.int .i64 (n : Int)) (.int .i64 (n : Int))).run Try.prog w = .ok (.slice (some ⟨w.heap.size, 0, none⟩) n n) (w.alloc (.cells (madeCells #[.string ByteArray.empty, .string ByteArray.empty, .int .i64 0] (n * 3)) 116)) := by
  obtain ⟨i, hi, h2⟩ := Option.map_eq_some_iff.1 infoL
  simp only [Prod.mk.injEq] at h2
  obtain ⟨hz, hs, hb⟩ := h2
  have := run_make (P := Try.prog) w 70 116 i _ Try.underlying70 hi hz .i64 .i64 n n (by omega) (by omega) (by rw [hb]; omega) (by omega)
  have e : (Value.agg #[.string ByteArray.empty, .string ByteArray.empty, .int .i64 0]).cells = #[.string ByteArray.empty, .string ByteArray.empty, .int .i64 0] := rfl
  rw [hs, e] at this
  simpa using this

theorem toLin (s m : ByteArray) (q : Int) (w : World) :
    Calls Try.prog 108 #[.agg #[.string s, .string m, .int .i64 q]] w fun e w' => e = .returned (.agg #[.string s, .string m, .int .i64 q]) ∧ Below w.heap.size w w' := by
  go_enter Try.func108, Try.ntmps108
  go_wp2
  exact bodyPost_ret (v := .agg #[.string s, .string m, .int .i64 q]) (by simp [results, Try.results108, go_sem]) rfl ⟨rfl, ((((Below.refl _ _).alloc (Nat.le_refl _) _).alloc (by simp) _).alloc (by simp; omega) _)⟩

set_option maxHeartbeats 800000 in
theorem toLins (v : Value) (l : List E) (w : World) (h : ER w v l) (hl : l.length ≤ 1048576) :
    Calls Try.prog 77 #[v] w fun e w' => ∃ v', e = .returned v' ∧ EN w.heap.size w' v' l ∧ Below w.heap.size w w' := by
  have hmk := makeL l.length hl
  rcases h with ⟨rfl, a, c, rfl⟩ | ⟨b, o, cap, rfl, h2⟩
  · clear hmk hl
    have hmk0 : ∀ w : World, (Instr.makeSlice 70 (.int .i64 0) (.int .i64 0)).run Try.prog w = .ok (.slice (some ⟨w.heap.size, 0, none⟩) 0 0) (w.alloc (.cells #[] 116)) := fun w => by kernel_rfl
    go_enter Try.func77, Try.ntmps77
    go_wp2
    refine wp_loop_rounds 1 ?_
    rw [rounds_succ]
    go_wp2
    go_ret
    exact ⟨_, rfl, .inl ⟨rfl, _, _, rfl⟩, (Below.refl _ _).alloc (Nat.le_refl _) _⟩
  · have H3 := hide h2; clear h2
    have hbs := (unhide H3).1
    go_enter Try.func77, Try.ntmps77
    go_wp2
    go_loopw [4] (fun i wr => ∃ k : Nat, k ≤ l.length ∧ i = .int .i64 k ∧ Hid (EOwn wr w.heap.size (l.take k ++ List.replicate (l.length - k) E0)) ∧ Below w.heap.size w wr) (fun i _ => l.length - (intOf i).toNat)
    case atStart => exact ⟨0, Nat.zero_le _, rfl, by show EOwn _ _ _; simpa using EOwn.made w l.length _, (Below.refl _ _).alloc (Nat.le_refl _) _⟩
    case round =>
      obtain ⟨k, hk, rfl, hd, hb⟩ := hrel
      by_cases hlt : k < l.length
      · obtain ⟨c0, c1, c2⟩ := ((unhide H3).kept hb).2 k hlt
        have HK : Hid (∀ w1, Below wr.heap.size wr w1 → EOwn w1 w.heap.size (l.take k ++ List.replicate (l.length - k) E0)) := hide (fun w1 h1 => (unhide hd).kept h1)
        have HS : Hid (∀ w1, EOwn w1 w.heap.size (l.take k ++ List.replicate (l.length - k) E0) → EOwn (((w1.setCell ⟨w.heap.size, k * 3, none⟩ (.string (l.getD k E0).1)).setCell ⟨w.heap.size, k * 3 + 1, none⟩ (.string (l.getD k E0).2.1)).setCell ⟨w.heap.size, k * 3 + 2, none⟩ (.int .i64 (l.getD k E0).2.2)) w.heap.size (l.take (k + 1) ++ List.replicate (l.length - (k + 1)) E0)) := hide (fun w1 h1 => by
          have := h1.set (k := k) (by simp; omega) (l.getD k E0)
          rwa [copy_step l k hlt, Nat.zero_add] at this)
        have HB := hide hb
        have hk2 : k < (l.take k ++ List.replicate (l.length - k) E0).length := by simp; omega
        clear hb hd
        generalize l.getD k E0 = x at *
        obtain ⟨s, m, q⟩ := x
        generalize hL : l.take k ++ List.replicate (l.length - k) E0 = L at *
        have HL := hide hL
        clear hL
        simp only at c0 c1 c2 HS
        go_wp2_with (fail)
        refine (toLin s m q wr).mono ?_
        rintro e w1 ⟨rfl, hb1⟩
        have HX := hide (unhide HS w1 (unhide HK w1 hb1))
        obtain ⟨⟨_, hcs⟩, hfz⟩ := unhide HK w1 hb1
        obtain ⟨d0, d1, d2⟩ := hcs k hk2
        have f0 := hfz (k * 3)
        have f1 := hfz (k * 3 + 1)
        have f2 := hfz (k * 3 + 2)
        rw [Nat.zero_add] at d0 d1 d2
        clear hcs hfz
        have HB1 : Hid (Below w.heap.size w w1) := hide (below_trans (unhide HB) hb1)
        clear hb1 HB
        generalize (L.getD k E0).1 = y0 at *
        generalize (L.getD k E0).2.1 = y1 at *
        generalize (L.getD k E0).2.2 = y2 at *
        go_wp2
        exact ⟨⟨k + 1, by omega, by go_num, HX, (((unhide HB1).setCell (Nat.le_refl _) _).setCell (Nat.le_refl _) _).setCell (Nat.le_refl _) _⟩, by simp [intOf]; omega⟩
      · obtain rfl : k = l.length := by omega
        go_wp2
        go_ret
        refine ⟨_, rfl, .inr ⟨w.heap.size, l.length, rfl, ⟨Nat.le_refl _, Nat.le_refl _⟩, ?_⟩, hb⟩
        have := unhide hd
        simpa using this

/-- eqBillLine, of one and the same -/
theorem eqLin (s m : ByteArray) (p : Int) (w : World) :
    Calls Try.prog 111 #[.agg #[.string s, .string m, .int .i64 p], .agg #[.string s, .string m, .int .i64 p]] w fun e w' => e = .returned (.bool true) ∧ Below w.heap.size w w' := by
  have h1 : (!s.toList == s.toList) = false := by simp
  have h3 : (!m.toList == m.toList) = false := by simp
  have h2 : (p != p) = false := by simp
  go_enter Try.func111, Try.ntmps111
  go_wp2
  go_ret
  exact ⟨rfl, ((Below.refl _ _).alloc (Nat.le_refl _) _).alloc (by simp) _⟩

set_option maxHeartbeats 800000 in
theorem eqLins (v v' : Value) (l : List E) (w : World) (h : ER w v l) (h' : ER w v' l) (hl : l.length ≤ 1048576) :
    Calls Try.prog 83 #[v, v'] w fun e w' => e = .returned (.bool true) ∧ Below w.heap.size w w' := by
  have hn : (((l.length : Int)) != (l.length : Int)) = false := by simp
  by_cases h0 : l.length = 0
  · obtain rfl : l = [] := List.length_eq_zero_iff.1 h0
    obtain ⟨a, c, rfl⟩ := h.slice
    obtain ⟨a', c', rfl⟩ := h'.slice
    clear h h' h0 hl hn
    go_enter Try.func83, Try.ntmps83
    go_wp2
    refine wp_loop_rounds 1 ?_
    rw [rounds_succ]
    go_wp2
    go_ret
    exact ⟨rfl, Below.refl _ _⟩
  · rcases h with ⟨rfl, _⟩ | ⟨b, o, cap, rfl, hc⟩
    · simp at h0
    rcases h' with ⟨rfl, _⟩ | ⟨b', o', cap', rfl, hc'⟩
    · simp at h0
    have HC := hide hc; have HC' := hide hc'
    have hbs := hc.1
    have hbs' := hc'.1
    clear hc hc' h0
    go_enter Try.func83, Try.ntmps83
    go_wp2
    go_loopw [5] (fun i wr => ∃ k : Nat, k ≤ l.length ∧ i = .int .i64 k ∧ Hid (Below w.heap.size w wr)) (fun i _ => l.length - (intOf i).toNat)
    case atStart => exact ⟨0, Nat.zero_le _, rfl, hide (Below.refl _ _)⟩
    case round =>
      obtain ⟨k, hk, rfl, hb⟩ := hrel
      by_cases hlt : k < l.length
      · obtain ⟨c0, c1, c2⟩ := ((unhide HC).kept (unhide hb)).2 k hlt
        obtain ⟨d0, d1, d2⟩ := ((unhide HC').kept (unhide hb)).2 k hlt
        have i1 : (0 : Int) ≤ (k : Int) := by omega
        have i2 : (k : Int) < (l.length : Int) := by omega
        have z1 : b < wr.heap.size := Nat.lt_of_lt_of_le hbs (unhide hb).size
        have z2 : b' < wr.heap.size := Nat.lt_of_lt_of_le hbs' (unhide hb).size
        generalize l.getD k E0 = x at *
        obtain ⟨s, m, q⟩ := x
        simp only at c0 c1 c2 d0 d1 d2
        go_wp2
        go_region_held3 (fun w2 => w2.cell? ⟨b, o + k * 3, none⟩ = some (.string s) ∧ w2.cell? ⟨b, o + k * 3 + 1, none⟩ = some (.string m) ∧ w2.cell? ⟨b, o + k * 3 + 2, none⟩ = some (.int .i64 q) ∧ w2.cell? ⟨b', o' + k * 3, none⟩ = some (.string s) ∧ w2.cell? ⟨b', o' + k * 3 + 1, none⟩ = some (.string m) ∧ w2.cell? ⟨b', o' + k * 3 + 2, none⟩ = some (.int .i64 q)) (go_keep) (first | (go_at_call 111; refine (eqLin s m q _).mono ?_; rintro e w1 ⟨rfl, hb1⟩; have q1 := hb1.cell (p := ⟨b, o + k * 3, none⟩) z1; have q2 := hb1.cell (p := ⟨b, o + k * 3 + 1, none⟩) z1; have q5 := hb1.cell (p := ⟨b, o + k * 3 + 2, none⟩) z1; have q3 := hb1.cell (p := ⟨b', o' + k * 3, none⟩) z2; have q4 := hb1.cell (p := ⟨b', o' + k * 3 + 1, none⟩) z2; have q6 := hb1.cell (p := ⟨b', o' + k * 3 + 2, none⟩) z2))
        have HB : Hid (Below w.heap.size w w1) := hide (below_trans (unhide hb) (below_of_drew hb1))
        clear hb1 hb q1 q2 q3 q4 q5 q6
        go_wp2
        exact ⟨⟨k + 1, by omega, by go_num, HB⟩, by simp [intOf]; omega⟩
      · go_wp2
        go_ret
        exact ⟨rfl, unhide hb⟩
end Go.Proofs.Ytdjjgoeinkbmjaa.Evs
