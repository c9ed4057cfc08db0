/-
  Slices of events (two texts and a number) in memory, and the laws' own helpers on them: size, copy, compare.
-/
import Derived.Test.YtdjjgoeinkbmjaaProg
import Derived.WalkKit
import Derived.WalkLawsBesides
import Derived.Below
import Derived.Deep.QuietTactic
import Derived.BigQuiet
import Derived.Deep.OwnRows
import Derived.WalkMore
import Derived.Outline
import Derived.Deep.RegionHeld3
import Derived.Lib.Strings
namespace Go.Proofs.Ytdjjgoeinkbmjaa.Evs
set_option linter.unusedVariables false
open Go.RowKit

theorem hide {p : Prop} (h : p) : Hid p := h
theorem unhide {p : Prop} (h : Hid p) : p := h

abbrev E := ByteArray × ByteArray × Int
abbrev E0 : E := (ByteArray.empty, ByteArray.empty, 0)
/-- an event as a value -/
abbrev eV (e : E) : Value := .agg #[.string e.1, .string e.2.1, .int .i64 e.2.2]

/-- from o on block b holds the events l -/
def EC (W : World) (b o : Nat) (l : List E) : Prop := b < W.heap.size ∧ ∀ i, i < l.length → W.cell? ⟨b, o + i * 3, none⟩ = some (.string (l.getD i E0).1) ∧ W.cell? ⟨b, o + i * 3 + 1, none⟩ = some (.string (l.getD i E0).2.1) ∧ W.cell? ⟨b, o + i * 3 + 2, none⟩ = some (.int .i64 (l.getD i E0).2.2)

/-- the slice v holds the events l -/
def ER (W : World) (v : Value) (l : List E) : Prop :=
  (l = [] ∧ ∃ a c, v = .slice a 0 c) ∨ ∃ b o cap, v = .slice (some ⟨b, o, none⟩) l.length cap ∧ EC W b o l

theorem EC.kept {W W' : World} {b o : Nat} {l : List E} (h : EC W b o l) (hb : Below W.heap.size W W') : EC W' b o l :=
  ⟨Nat.lt_of_lt_of_le h.1 hb.size, fun i hi => ⟨(hb.cell (p := ⟨b, o + i * 3, none⟩) h.1).trans (h.2 i hi).1, (hb.cell (p := ⟨b, o + i * 3 + 1, none⟩) h.1).trans (h.2 i hi).2.1, (hb.cell (p := ⟨b, o + i * 3 + 2, none⟩) h.1).trans (h.2 i hi).2.2⟩⟩
theorem ER.kept {W W' : World} {v : Value} {l : List E} (h : ER W v l) (hb : Below W.heap.size W W') : ER W' v l := by
  rcases h with h | ⟨b, o, cap, rfl, hc⟩
  · exact .inl h
  · exact .inr ⟨b, o, cap, rfl, hc.kept hb⟩
theorem ER.slice {W : World} {v : Value} {l : List E} (h : ER W v l) : ∃ a c, v = .slice a l.length c := by
  rcases h with ⟨rfl, a, c, rfl⟩ | ⟨b, o, cap, rfl, _⟩
  · exact ⟨_, _, rfl⟩
  · exact ⟨_, _, rfl⟩
theorem below_trans {w w1 w2 : World} (h : Below w.heap.size w w1) (k : Below w1.heap.size w1 w2) : Below w.heap.size w w2 := h.trans (k.mono h.size)

/-- szUseEvent -/
theorem szEv (s m : ByteArray) (q n : Int) (w : World) (hu : s.size ≤ maxLen) (hm : m.size ≤ maxLen) (h0 : 0 ≤ n) (h1 : n ≤ 1048576) :
    Calls Try.prog 26 #[.agg #[.string s, .string m, .int .i64 q], .int .i64 n] w fun e w' => ∃ r : Int, e = .returned (.int .i64 r) ∧ -1 ≤ r ∧ r ≤ n ∧ Below w.heap.size w w' := by
  unfold maxLen at hu hm
  by_cases hn : n - s.size < 0
  · go_enter Try.func26, Try.ntmps26
    go_wp2
    go_ret
    exact ⟨_, rfl, by omega, by omega, (Below.refl _ _).alloc (Nat.le_refl _) _⟩
  by_cases hn2 : n - s.size - m.size < 0
  · go_enter Try.func26, Try.ntmps26
    go_wp2
    go_ret
    exact ⟨_, rfl, by omega, by omega, (Below.refl _ _).alloc (Nat.le_refl _) _⟩
  · go_enter Try.func26, Try.ntmps26
    go_wp2
    go_ret
    exact ⟨_, rfl, by omega, by omega, (Below.refl _ _).alloc (Nat.le_refl _) _⟩

/-- szUseEventS -/
theorem szEvs (v : Value) (l : List E) (n : Int) (w : World) (h : ER w v l) (hl : l.length ≤ maxLen) (hs : ∀ u ∈ l, u.1.size ≤ maxLen ∧ u.2.1.size ≤ maxLen) (h0 : 0 ≤ n) (h1 : n ≤ 1048576) :
    Calls Try.prog 21 #[v, .int .i64 n] w fun e w' => ∃ r : Int, e = .returned (.int .i64 r) ∧ -1 ≤ r ∧ r ≤ n ∧ (0 ≤ r → l.length ≤ n) ∧ Below w.heap.size w w' := by
  have hs' := hs
  unfold maxLen at hl hs
  by_cases hneg : n - l.length < 0
  · obtain ⟨a, c, rfl⟩ := h.slice
    clear h
    go_enter Try.func21, Try.ntmps21
    go_wp2
    go_ret
    exact ⟨_, rfl, by omega, by omega, fun h => by omega, Below.refl _ _⟩
  rcases h with ⟨rfl, a, c, rfl⟩ | ⟨b, o, cap, rfl, hc⟩
  · go_enter Try.func21, Try.ntmps21
    go_wp2
    refine wp_loop_rounds 1 ?_
    rw [rounds_succ]
    go_wp2
    go_ret
    exact ⟨_, rfl, by omega, by omega, fun h => by simpa using h0, Below.refl _ _⟩
  · have HC := hide hc; clear hc
    go_enter Try.func21, Try.ntmps21
    go_wp2
    go_loopw [1, 5] (fun t i wr => ∃ (k : Nat) (q : Int), k ≤ l.length ∧ i = .int .i64 k ∧ t = .int .i64 q ∧ 0 ≤ q ∧ q ≤ n ∧ Hid (Below w.heap.size w wr)) (fun _ i _ => l.length - (intOf i).toNat)
    case atStart => exact ⟨0, _, by omega, rfl, rfl, by omega, by omega, hide (Below.refl _ _)⟩
    case round =>
      obtain ⟨k, q, hk, rfl, rfl, hq0, hq1, hb⟩ := hrel
      by_cases hlt : k < l.length
      · have hc := ((unhide HC).kept (unhide hb)).2 k hlt
        obtain ⟨c1, c2, c3⟩ := hc
        obtain ⟨hsz, hmz⟩ : (l.getD k E0).1.size ≤ maxLen ∧ (l.getD k E0).2.1.size ≤ maxLen := hs' _ (by simp [List.getD, hlt])
        generalize (l.getD k E0).1 = s at *
        generalize (l.getD k E0).2.1 = m at *
        generalize (l.getD k E0).2.2 = z at *
        go_wp2_with (fail)
        refine (szEv s m z q wr hsz hmz hq0 (by omega)).mono ?_
        rintro e w1 ⟨r, rfl, r1, r2, hb1⟩
        have HB : Hid (Below w.heap.size w w1) := hide (below_trans (unhide hb) hb1)
        clear hb hb1
        by_cases hr : r < 0
        · go_wp2
          go_ret
          exact ⟨_, rfl, by omega, by omega, fun h => by omega, unhide HB⟩
        · go_wp2
          exact ⟨⟨k + 1, r, by omega, by go_num, rfl, by omega, by omega, HB⟩, by simp [intOf]; omega⟩
      · go_wp2
        go_ret
        exact ⟨_, rfl, by omega, by omega, fun h => by omega, unhide hb⟩

/-! ### The copy -/

/-- a row of events of the call's own: block b holds l, nothing of it is frozen -/
def EOwn (W : World) (b : Nat) (l : List E) : Prop := EC W b 0 l ∧ ∀ j, W.frozen? ⟨b, j, none⟩ = false

/-- the slice v holds the events l in a block of its own, not below B -/
def EN (B : Nat) (W : World) (v : Value) (l : List E) : Prop :=
  (l = [] ∧ ∃ a c, v = .slice a 0 c) ∨ ∃ b cap, v = .slice (some ⟨b, 0, none⟩) l.length cap ∧ (B ≤ b ∧ l.length ≤ cap) ∧ EOwn W b l
theorem EN.er {B : Nat} {W : World} {v : Value} {l : List E} (h : EN B W v l) : ER W v l := by
  rcases h with h | ⟨b, cap, rfl, _, hc⟩
  · exact .inl h
  · exact .inr ⟨b, 0, cap, rfl, hc.1⟩

theorem EOwn.set {W : World} {b : Nat} {l : List E} (h : EOwn W b l) {k : Nat} (hk : k < l.length) (x : E) :
    EOwn (((W.setCell ⟨b, 0 + k * 3, none⟩ (.string x.1)).setCell ⟨b, 0 + k * 3 + 1, none⟩ (.string x.2.1)).setCell ⟨b, 0 + k * 3 + 2, none⟩ (.int .i64 x.2.2)) b (l.set k x) := by
  refine ⟨⟨by simpa using h.1.1, fun i hi => ?_⟩, fun j => by simpa [World.frozen?_setCell] using h.2 j⟩
  have hi' : i < l.length := by simpa using hi
  obtain ⟨c0, c1, c2⟩ := h.1.2 i hi'
  by_cases e : i = k
  · subst e
    rw [List.getD_eq_getElem?_getD, List.getElem?_set_self hi']
    refine ⟨?_, ?_, ?_⟩
    · rw [World.cell?_setCell_other _ _ _ _ (by simp), World.cell?_setCell_other _ _ _ _ (by simp)]
      exact World.cell?_setCell_same _ _ _ c0
    · rw [World.cell?_setCell_other _ _ _ _ (by simp)]
      exact World.cell?_setCell_same _ _ _ (by rw [World.cell?_setCell_other _ _ _ _ (by simp)]; exact c1)
    · exact World.cell?_setCell_same _ _ _ (by rw [World.cell?_setCell_other _ _ _ _ (by simp), World.cell?_setCell_other _ _ _ _ (by simp)]; exact c2)
  · have d : ∀ (a b' : Nat), a < 3 → b' < 3 → (⟨b, 0 + k * 3 + b', none⟩ : Addr) ≠ ⟨b, 0 + i * 3 + a, none⟩ := fun a b' ha hb he => by
      simp only [Addr.mk.injEq, and_true, true_and] at he; omega
    have d00 := d 0 0 (by omega) (by omega)
    have d01 := d 0 1 (by omega) (by omega)
    have d02 := d 0 2 (by omega) (by omega)
    have d10 := d 1 0 (by omega) (by omega)
    have d20 := d 2 0 (by omega) (by omega)
    simp only [Nat.add_zero] at d00 d01 d02 d10 d20
    rw [World.cell?_setCell_other _ _ _ _ d02, World.cell?_setCell_other _ _ _ _ d01, World.cell?_setCell_other _ _ _ _ d00, World.cell?_setCell_other _ _ _ _ (d 1 2 (by omega) (by omega)), World.cell?_setCell_other _ _ _ _ (d 1 1 (by omega) (by omega)), World.cell?_setCell_other _ _ _ _ d10, World.cell?_setCell_other _ _ _ _ (d 2 2 (by omega) (by omega)), World.cell?_setCell_other _ _ _ _ (d 2 1 (by omega) (by omega)), World.cell?_setCell_other _ _ _ _ d20, c0, c1, c2, List.getD_eq_getElem?_getD, List.getD_eq_getElem?_getD, List.getElem?_set_ne (by omega)]
    exact ⟨rfl, rfl, rfl⟩

theorem EOwn.kept {W W' : World} {b : Nat} {l : List E} (h : EOwn W b l) (hb : Below W.heap.size W W') : EOwn W' b l :=
  ⟨h.1.kept hb, fun j => (hb.frozen (p := ⟨b, j, none⟩) h.1.1).trans (h.2 j)⟩
theorem EN.kept {B : Nat} {W W' : World} {v : Value} {l : List E} (h : EN B W v l) (hb : Below W.heap.size W W') : EN B W' v l := by
  rcases h with h | ⟨b, cap, rfl, h1, hc⟩
  · exact .inl h
  · exact .inr ⟨b, cap, rfl, h1, hc.kept hb⟩
theorem EN.low {B B' : Nat} {W : World} {v : Value} {l : List E} (h : EN B W v l) (hb : B' ≤ B) : EN B' W v l := by
  rcases h with h | ⟨b, cap, rfl, h1, hc⟩
  · exact .inl h
  · exact .inr ⟨b, cap, rfl, ⟨Nat.le_trans hb h1.1, h1.2⟩, hc⟩

/-- there is room for what it holds -/
def capOk (v : Value) : Prop := ∀ a n c, v = .slice a n c → n ≤ c
theorem EN.cap {B : Nat} {W : World} {v : Value} {l : List E} (h : EN B W v l) : capOk v := by
  intro a n c hv
  rcases h with ⟨_, a', c', rfl⟩ | ⟨b, cap, rfl, h1, _⟩
  · simp only [Value.slice.injEq] at hv; omega
  · simp only [Value.slice.injEq] at hv; omega

theorem infoE : (Try.prog.info? 54).map (fun i => (i.zero, i.size, i.bytes)) = some (some (.agg #[.string ByteArray.empty, .string ByteArray.empty, .int .i64 0]), 3, 40) := by kernel_rfl

theorem makeE (n : Nat) (hn : n ≤ 1048576) (w : World) : (Instr.makeSlice 45 (.int .i64 (n : Int)) (.int .i64 (n : Int))).run Try.prog w = .ok (.slice (some ⟨w.heap.size, 0, none⟩) n n) (w.alloc (.cells (madeCells #[.string ByteArray.empty, .string ByteArray.empty, .int .i64 0] (n * 3)) 54)) := by
  obtain ⟨i, hi, h2⟩ := Option.map_eq_some_iff.1 infoE
  simp only [Prod.mk.injEq] at h2
  obtain ⟨hz, hs, hb⟩ := h2
  have := run_make (P := Try.prog) w 45 54 i _ Try.underlying45 hi hz .i64 .i64 n n (by omega) (by omega) (by rw [hb]; omega) (by omega)
  have e : (Value.agg #[.string ByteArray.empty, .string ByteArray.empty, .int .i64 0]).cells = #[.string ByteArray.empty, .string ByteArray.empty, .int .i64 0] := rfl
  rw [hs, e] at this
  simpa using this

theorem EOwn.made (w : World) (n : Nat) (t : TypeId) : EOwn (w.alloc (.cells (madeCells #[.string ByteArray.empty, .string ByteArray.empty, .int .i64 0] (n * 3)) t)) w.heap.size (List.replicate n E0) := by
  have e1 := (MapKept.heap_alloc w (.cells (madeCells #[.string ByteArray.empty, .string ByteArray.empty, .int .i64 0] (n * 3)) t)).1
  refine ⟨⟨by simp, fun i hi => ?_⟩, fun j => ?_⟩
  · have hi' : i < n := by simpa using hi
    have m0 : i * 3 % 3 = 0 := by omega
    have m1 : (i * 3 + 1) % 3 = 1 := by omega
    have m2 : (i * 3 + 2) % 3 = 2 := by omega
    have l0 : i * 3 < n * 3 := by omega
    have l1 : i * 3 + 1 < n * 3 := by omega
    have l2 : i * 3 + 2 < n * 3 := by omega
    simp only [World.cell?]
    rw [e1]
    refine ⟨?_, ?_, ?_⟩
    · simp [madeCells, hi', l0, m0]
    · simp [madeCells, hi', l1, m1]
    · simp [madeCells, hi', l2, m2]
  · simp only [World.frozen?]
    rw [e1]; simp

theorem copy_step (l : List E) (k : Nat) (h : k < l.length) : (l.take k ++ List.replicate (l.length - k) E0).set k (l.getD k E0) = l.take (k + 1) ++ List.replicate (l.length - (k + 1)) E0 := by
  have e : l.length - k = (l.length - (k + 1)) + 1 := by omega
  rw [e, List.replicate_succ, List.set_append_right _ _ (by simp; omega)]
  have e2 : k - (l.take k).length = 0 := by simp; omega
  rw [e2, List.set_cons_zero]
  have e3 : l.take (k + 1) = l.take k ++ [l.getD k E0] := by rw [List.take_add_one, List.getElem?_eq_getElem h]; simp [List.getD, h]
  rw [e3, List.append_assoc]; rfl

theorem toEv (s m : ByteArray) (q : Int) (w : World) :
    Calls Try.prog 28 #[.agg #[.string s, .string m, .int .i64 q]] w fun e w' => e = .returned (.agg #[.string s, .string m, .int .i64 q]) ∧ Below w.heap.size w w' := by
  go_enter Try.func28, Try.ntmps28
  go_wp2
  exact bodyPost_ret (v := .agg #[.string s, .string m, .int .i64 q]) (by simp [results, Try.results28, go_sem]) rfl ⟨rfl, ((((Below.refl _ _).alloc (Nat.le_refl _) _).alloc (by simp) _).alloc (by simp; omega) _)⟩

set_option maxHeartbeats 800000 in
theorem toEvs (v : Value) (l : List E) (w : World) (h : ER w v l) (hl : l.length ≤ 1048576) :
    Calls Try.prog 23 #[v] w fun e w' => ∃ v', e = .returned v' ∧ EN w.heap.size w' v' l ∧ Below w.heap.size w w' := by
  have hmk := makeE l.length hl
  rcases h with ⟨rfl, a, c, rfl⟩ | ⟨b, o, cap, rfl, h2⟩
  · clear hmk hl
    have hmk0 : ∀ w : World, (Instr.makeSlice 45 (.int .i64 0) (.int .i64 0)).run Try.prog w = .ok (.slice (some ⟨w.heap.size, 0, none⟩) 0 0) (w.alloc (.cells #[] 54)) := fun w => by kernel_rfl
    go_enter Try.func23, Try.ntmps23
    go_wp2
    refine wp_loop_rounds 1 ?_
    rw [rounds_succ]
    go_wp2
    go_ret
    exact ⟨_, rfl, .inl ⟨rfl, _, _, rfl⟩, (Below.refl _ _).alloc (Nat.le_refl _) _⟩
  · have H3 := hide h2; clear h2
    have hbs := (unhide H3).1
    go_enter Try.func23, Try.ntmps23
    go_wp2
    go_loopw [4] (fun i wr => ∃ k : Nat, k ≤ l.length ∧ i = .int .i64 k ∧ Hid (EOwn wr w.heap.size (l.take k ++ List.replicate (l.length - k) E0)) ∧ Below w.heap.size w wr) (fun i _ => l.length - (intOf i).toNat)
    case atStart => exact ⟨0, Nat.zero_le _, rfl, by show EOwn _ _ _; simpa using EOwn.made w l.length _, (Below.refl _ _).alloc (Nat.le_refl _) _⟩
    case round =>
      obtain ⟨k, hk, rfl, hd, hb⟩ := hrel
      by_cases hlt : k < l.length
      · obtain ⟨c0, c1, c2⟩ := ((unhide H3).kept hb).2 k hlt
        have HK : Hid (∀ w1, Below wr.heap.size wr w1 → EOwn w1 w.heap.size (l.take k ++ List.replicate (l.length - k) E0)) := hide (fun w1 h1 => (unhide hd).kept h1)
        have HS : Hid (∀ w1, EOwn w1 w.heap.size (l.take k ++ List.replicate (l.length - k) E0) → EOwn (((w1.setCell ⟨w.heap.size, k * 3, none⟩ (.string (l.getD k E0).1)).setCell ⟨w.heap.size, k * 3 + 1, none⟩ (.string (l.getD k E0).2.1)).setCell ⟨w.heap.size, k * 3 + 2, none⟩ (.int .i64 (l.getD k E0).2.2)) w.heap.size (l.take (k + 1) ++ List.replicate (l.length - (k + 1)) E0)) := hide (fun w1 h1 => by
          have := h1.set (k := k) (by simp; omega) (l.getD k E0)
          rwa [copy_step l k hlt, Nat.zero_add] at this)
        have HB := hide hb
        have hk2 : k < (l.take k ++ List.replicate (l.length - k) E0).length := by simp; omega
        clear hb hd
        generalize l.getD k E0 = x at *
        obtain ⟨s, m, q⟩ := x
        generalize hL : l.take k ++ List.replicate (l.length - k) E0 = L at *
        have HL := hide hL
        clear hL
        simp only at c0 c1 c2 HS
        go_wp2_with (fail)
        refine (toEv s m q wr).mono ?_
        rintro e w1 ⟨rfl, hb1⟩
        have HX := hide (unhide HS w1 (unhide HK w1 hb1))
        obtain ⟨⟨_, hcs⟩, hfz⟩ := unhide HK w1 hb1
        obtain ⟨d0, d1, d2⟩ := hcs k hk2
        have f0 := hfz (k * 3)
        have f1 := hfz (k * 3 + 1)
        have f2 := hfz (k * 3 + 2)
        rw [Nat.zero_add] at d0 d1 d2
        clear hcs hfz
        have HB1 : Hid (Below w.heap.size w w1) := hide (below_trans (unhide HB) hb1)
        clear hb1 HB
        generalize (L.getD k E0).1 = y0 at *
        generalize (L.getD k E0).2.1 = y1 at *
        generalize (L.getD k E0).2.2 = y2 at *
        go_wp2
        exact ⟨⟨k + 1, by omega, by go_num, HX, (((unhide HB1).setCell (Nat.le_refl _) _).setCell (Nat.le_refl _) _).setCell (Nat.le_refl _) _⟩, by simp [intOf]; omega⟩
      · obtain rfl : k = l.length := by omega
        go_wp2
        go_ret
        refine ⟨_, rfl, .inr ⟨w.heap.size, l.length, rfl, ⟨Nat.le_refl _, Nat.le_refl _⟩, ?_⟩, hb⟩
        have := unhide hd
        simpa using this

/-- eqUseEvent, of one and the same -/
theorem eqEv (s m : ByteArray) (p : Int) (w : World) :
    Calls Try.prog 64 #[.agg #[.string s, .string m, .int .i64 p], .agg #[.string s, .string m, .int .i64 p]] w fun e w' => e = .returned (.bool true) ∧ Below w.heap.size w w' := by
  have h1 : (!s.toList == s.toList) = false := by simp
  have h3 : (!m.toList == m.toList) = false := by simp
  have h2 : (p != p) = false := by simp
  go_enter Try.func64, Try.ntmps64
  go_wp2
  go_ret
  exact ⟨rfl, ((Below.refl _ _).alloc (Nat.le_refl _) _).alloc (by simp) _⟩

theorem below_drewN' {B : Nat} {a w : World} (h : Below B a w) (k : Nat) : Below B a (w.drewN k) := ⟨h.os, h.tape, h.output, h.size, h.block⟩
theorem below_of_drew {B : Nat} {a w : World} (h : Below B a.drew w) : Below B a w := ⟨h.os, h.tape, h.output, h.size, h.block⟩
theorem below_of_drewN {B : Nat} {a w : World} {k : Nat} (h : Below B (a.drewN k) w) : Below B a w := ⟨h.os, h.tape, h.output, h.size, h.block⟩

set_option maxHeartbeats 800000 in
theorem eqEvs (v v' : Value) (l : List E) (w : World) (h : ER w v l) (h' : ER w v' l) (hl : l.length ≤ 1048576) :
    Calls Try.prog 25 #[v, v'] w fun e w' => e = .returned (.bool true) ∧ Below w.heap.size w w' := by
  have hn : (((l.length : Int)) != (l.length : Int)) = false := by simp
  by_cases h0 : l.length = 0
  · obtain rfl : l = [] := List.length_eq_zero_iff.1 h0
    obtain ⟨a, c, rfl⟩ := h.slice
    obtain ⟨a', c', rfl⟩ := h'.slice
    clear h h' h0 hl hn
    go_enter Try.func25, Try.ntmps25
    go_wp2
    refine wp_loop_rounds 1 ?_
    rw [rounds_succ]
    go_wp2
    go_ret
    exact ⟨rfl, Below.refl _ _⟩
  · rcases h with ⟨rfl, _⟩ | ⟨b, o, cap, rfl, hc⟩
    · simp at h0
    rcases h' with ⟨rfl, _⟩ | ⟨b', o', cap', rfl, hc'⟩
    · simp at h0
    have HC := hide hc; have HC' := hide hc'
    have hbs := hc.1
    have hbs' := hc'.1
    clear hc hc' h0
    go_enter Try.func25, Try.ntmps25
    go_wp2
    go_loopw [5] (fun i wr => ∃ k : Nat, k ≤ l.length ∧ i = .int .i64 k ∧ Hid (Below w.heap.size w wr)) (fun i _ => l.length - (intOf i).toNat)
    case atStart => exact ⟨0, Nat.zero_le _, rfl, hide (Below.refl _ _)⟩
    case round =>
      obtain ⟨k, hk, rfl, hb⟩ := hrel
      by_cases hlt : k < l.length
      · obtain ⟨c0, c1, c2⟩ := ((unhide HC).kept (unhide hb)).2 k hlt
        obtain ⟨d0, d1, d2⟩ := ((unhide HC').kept (unhide hb)).2 k hlt
        have i1 : (0 : Int) ≤ (k : Int) := by omega
        have i2 : (k : Int) < (l.length : Int) := by omega
        have z1 : b < wr.heap.size := Nat.lt_of_lt_of_le hbs (unhide hb).size
        have z2 : b' < wr.heap.size := Nat.lt_of_lt_of_le hbs' (unhide hb).size
        generalize l.getD k E0 = x at *
        obtain ⟨s, m, q⟩ := x
        simp only at c0 c1 c2 d0 d1 d2
        go_wp2
        go_region_held3 (fun w2 => w2.cell? ⟨b, o + k * 3, none⟩ = some (.string s) ∧ w2.cell? ⟨b, o + k * 3 + 1, none⟩ = some (.string m) ∧ w2.cell? ⟨b, o + k * 3 + 2, none⟩ = some (.int .i64 q) ∧ w2.cell? ⟨b', o' + k * 3, none⟩ = some (.string s) ∧ w2.cell? ⟨b', o' + k * 3 + 1, none⟩ = some (.string m) ∧ w2.cell? ⟨b', o' + k * 3 + 2, none⟩ = some (.int .i64 q)) (go_keep) (first | (go_at_call 64; refine (eqEv s m q _).mono ?_; rintro e w1 ⟨rfl, hb1⟩; have q1 := hb1.cell (p := ⟨b, o + k * 3, none⟩) z1; have q2 := hb1.cell (p := ⟨b, o + k * 3 + 1, none⟩) z1; have q5 := hb1.cell (p := ⟨b, o + k * 3 + 2, none⟩) z1; have q3 := hb1.cell (p := ⟨b', o' + k * 3, none⟩) z2; have q4 := hb1.cell (p := ⟨b', o' + k * 3 + 1, none⟩) z2; have q6 := hb1.cell (p := ⟨b', o' + k * 3 + 2, none⟩) z2))
        have HB : Hid (Below w.heap.size w w1) := hide (below_trans (unhide hb) (below_of_drew hb1))
        clear hb1 hb q1 q2 q3 q4 q5 q6
        go_wp2
        exact ⟨⟨k + 1, by omega, by go_num, HB⟩, by simp [intOf]; omega⟩
      · go_wp2
        go_ret
        exact ⟨rfl, unhide hb⟩
end Go.Proofs.Ytdjjgoeinkbmjaa.Evs
