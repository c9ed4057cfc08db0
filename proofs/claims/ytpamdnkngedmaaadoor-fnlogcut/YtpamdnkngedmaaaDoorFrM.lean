/-
  Frames: the sum of a text, the frame of a text, of which log a text's frame is the beginning, and what is read of a log. Plain facts on lists of bytes.
-/
import Derived.Test.YtpamdnkngedmaaaDoorNumG
import Derived.Lib.Strings
namespace Go.Proofs.YtpamdnkngedmaaaDoor.Fr
set_option linter.unusedVariables false

/-- one byte more in a sum -/
def sum1 (s : Int) (b : UInt8) : Int := (s * 263 + (b.toNat : Int) + 1) % 65521
def sumF : Int → List UInt8 → Int
  | s, [] => s
  | s, b :: l => sumF (sum1 s b) l
/-- the sum of a text -/
def sumL (l : List UInt8) : Int := sumF 7 l
theorem sum1_bd (s : Int) (b : UInt8) : 0 ≤ sum1 s b ∧ sum1 s b ≤ 65520 := by unfold sum1; omega
theorem sumF_bd : ∀ (l : List UInt8) (s : Int), 0 ≤ s ∧ s ≤ 65520 → 0 ≤ sumF s l ∧ sumF s l ≤ 65520
  | [], s, h => h
  | b :: l, s, h => sumF_bd l _ (sum1_bd s b)
theorem sumL_bd (l : List UInt8) : 0 ≤ sumL l ∧ sumL l ≤ 65520 := sumF_bd l 7 (by omega)
theorem sumF_append : ∀ (a b : List UInt8) (s : Int), sumF s (a ++ b) = sumF (sumF s a) b
  | [], _, _ => rfl
  | x :: a, b, s => sumF_append a b (sum1 s x)
theorem sumF_take {l : List UInt8} {k : Nat} {b : UInt8} (s : Int) (hb : l[k]? = some b) : sumF s (l.take (k + 1)) = sum1 (sumF s (l.take k)) b := by
  have : l.take (k + 1) = l.take k ++ [b] := by rw [List.take_add_one, hb]; rfl
  rw [this, sumF_append]; rfl

/-- the frame of a text -/
def frB (t : List UInt8) : List UInt8 := Lib.itoa (t.length : Int) ++ 32 :: (Lib.itoa (sumL t) ++ 32 :: (t ++ [10]))
/-- what LogFrame tells -/
def frT (t : List UInt8) : List UInt8 := if t.length ≤ 1000 then frB t else []

theorem no32 (n : Int) : ∀ b ∈ Lib.itoa n, b ≠ 32 := by
  intro b hb e
  subst e
  have := Num.itoa_bytes n _ hb
  simp at this
theorem word_cut : ∀ {a b r s : List UInt8}, (∀ x ∈ a, x ≠ 32) → (∀ x ∈ b, x ≠ 32) → a ++ 32 :: r = b ++ 32 :: s → a = b ∧ r = s
  | [], [], r, s, _, _, h => ⟨rfl, by simpa using h⟩
  | [], y :: b, r, s, _, hb, h => by
    simp at h
    exact absurd h.1.symm (hb y (by simp))
  | x :: a, [], r, s, ha, _, h => by
    simp at h
    exact absurd h.1 (ha x (by simp))
  | x :: a, y :: b, r, s, ha, hb, h => by
    simp only [List.cons_append, List.cons.injEq] at h
    obtain ⟨rfl, h2⟩ := h
    obtain ⟨rfl, rfl⟩ := word_cut (fun z hz => ha z (List.mem_cons_of_mem _ hz)) (fun z hz => hb z (List.mem_cons_of_mem _ hz)) h2
    exact ⟨rfl, rfl⟩
theorem itoa_inj {m n : Int} (hm : Num.numOk m) (hn : Num.numOk n) (h : Lib.itoa m = Lib.itoa n) : m = n := by
  have h1 := Num.numL_itoa hm
  rw [h, Num.numL_itoa hn] at h1
  exact (Option.some.inj h1).symm
theorem frB_inj {t u x y : List UInt8} (ht : t.length ≤ 1000) (hu : u.length ≤ 1000) (h : frB t ++ x = frB u ++ y) : t = u ∧ x = y := by
  unfold frB at h
  simp only [List.append_assoc, List.cons_append] at h
  obtain ⟨e1, h2⟩ := word_cut (no32 _) (no32 _) h
  have e2 := itoa_inj (m := (t.length : Int)) (n := (u.length : Int)) (by unfold Num.numOk; omega) (by unfold Num.numOk; omega) e1
  obtain ⟨-, h3⟩ := word_cut (no32 _) (no32 _) h2
  obtain ⟨rfl, h4⟩ := List.append_inj h3 (by omega)
  exact ⟨rfl, by simpa using h4⟩
theorem frB_pos (t : List UInt8) : 4 ≤ (frB t).length := by
  have h1 := Num.itoa_ne (t.length : Int)
  have h2 := Num.itoa_ne (sumL t)
  have h3 := List.length_pos_iff.2 h1
  have h4 := List.length_pos_iff.2 h2
  unfold frB; simp; omega
theorem frB_len {t : List UInt8} (h : t.length ≤ 1000) : (frB t).length ≤ 1050 := by
  have h1 := (Num.itoa_short (n := (t.length : Int)) (by unfold Num.numOk; omega)).1
  have hb := sumL_bd t
  have h2 := (Num.itoa_short (n := sumL t) (by unfold Num.numOk; omega)).1
  unfold frB; simp; omega
theorem frT_of {t : List UInt8} (h : t.length ≤ 1000) : frT t = frB t := by unfold frT; rw [if_pos h]
theorem frT_no {t : List UInt8} (h : ¬ t.length ≤ 1000) : frT t = [] := by unfold frT; rw [if_neg h]

/-- the frame of a text is the beginning of a log -/
def IsFr (l t : List UInt8) : Prop := t.length ≤ 1000 ∧ ∃ y, l = frB t ++ y
theorem IsFr.uniq {l t u : List UInt8} (h : IsFr l t) (k : IsFr l u) : t = u := by
  obtain ⟨h1, y, rfl⟩ := h
  obtain ⟨k1, z, e⟩ := k
  exact (frB_inj h1 k1 e).1
theorem IsFr.len {l t : List UInt8} (h : IsFr l t) : (frB t).length ≤ l.length := by
  obtain ⟨h1, y, rfl⟩ := h
  simp

/-- the frames of texts, one behind the other -/
def frs (ts : List ByteArray) : List UInt8 := (ts.map fun t => frB t.data.toList).flatten
theorem frs_append (a b : List ByteArray) : frs (a ++ b) = frs a ++ frs b := by unfold frs; simp
theorem frs_cons (t : ByteArray) (ts : List ByteArray) : frs (t :: ts) = frB t.data.toList ++ frs ts := by unfold frs; simp
theorem frs_one (t : ByteArray) : frs [t] = frB t.data.toList := by unfold frs; simp
def Short (ts : List ByteArray) : Prop := ∀ t ∈ ts, t.size ≤ 1000
theorem toL (t : ByteArray) : t.data.toList.length = t.size := Array.length_toList
theorem ext {s t : ByteArray} (h : s.data.toList = t.data.toList) : s = t := by
  cases s; cases t; simp_all
/-- so far read -/
def At (all : List UInt8) (ts : List ByteArray) (n : Nat) : Prop := Short ts ∧ n = (frs ts).length ∧ all = frs ts ++ all.drop n
theorem At.start (all : List UInt8) : At all [] 0 := ⟨fun _ h => by simp at h, rfl, by simp [frs]⟩
theorem At.le {all : List UInt8} {ts : List ByteArray} {n : Nat} (h : At all ts n) : n ≤ all.length := by
  obtain ⟨_, h2, h3⟩ := h
  rw [h3, h2]; simp
theorem frs_count (ts : List ByteArray) : 4 * ts.length ≤ (frs ts).length := by
  induction ts with
  | nil => simp
  | cons t ts ih =>
    have := frB_pos t.data.toList
    have e : frs (t :: ts) = frB t.data.toList ++ frs ts := by unfold frs; simp
    rw [e]; simp; omega
theorem At.count {all : List UInt8} {ts : List ByteArray} {n : Nat} (h : At all ts n) : 4 * ts.length ≤ all.length := by
  have h1 := h.le
  have h2 := frs_count ts
  have h3 := h.2.1
  omega
theorem At.step {all : List UInt8} {ts : List ByteArray} {n : Nat} {t : ByteArray} (h : At all ts n) (k : IsFr (all.drop n) t.data.toList) : At all (ts ++ [t]) (n + (frB t.data.toList).length) := by
  obtain ⟨h1, h2, h3⟩ := h
  obtain ⟨k1, y, k2⟩ := k
  refine ⟨fun u hu => ?_, ?_, ?_⟩
  · rcases List.mem_append.1 hu with hu | hu
    · exact h1 u hu
    · obtain rfl := List.mem_singleton.1 hu
      rw [toL] at k1; exact k1
  · rw [frs_append, frs_one, List.length_append, h2]
  · have e : all.drop (n + (frB t.data.toList).length) = y := by
      rw [← List.drop_drop, k2]; simp
    rw [e, frs_append, frs_one, List.append_assoc, ← k2]; exact h3
/-- what is read of a log, and where it ends -/
def Read (all : List UInt8) (ts : List ByteArray) (n : Nat) : Prop := At all ts n ∧ ∀ t, ¬ IsFr (all.drop n) t
theorem frs_uniq : ∀ {ts us : List ByteArray} {x y : List UInt8}, Short ts → Short us → (∀ t, ¬ IsFr x t) → (∀ t, ¬ IsFr y t) → frs ts ++ x = frs us ++ y → ts = us
  | [], [], _, _, _, _, _, _, _ => rfl
  | [], u :: us, x, y, _, hu, hx, _, h => by
    refine absurd ⟨by rw [toL]; exact hu u (by simp), frs us ++ y, ?_⟩ (hx u.data.toList)
    have e : frs (u :: us) = frB u.data.toList ++ frs us := by unfold frs; simp
    rw [e] at h
    simpa [frs] using h
  | t :: ts, [], x, y, ht, _, _, hy, h => by
    refine absurd ⟨by rw [toL]; exact ht t (by simp), frs ts ++ x, ?_⟩ (hy t.data.toList)
    have e : frs (t :: ts) = frB t.data.toList ++ frs ts := by unfold frs; simp
    rw [e] at h
    simpa [frs] using h.symm
  | t :: ts, u :: us, x, y, ht, hu, hx, hy, h => by
    have e : frs (t :: ts) = frB t.data.toList ++ frs ts := by unfold frs; simp
    have e' : frs (u :: us) = frB u.data.toList ++ frs us := by unfold frs; simp
    rw [e, e', List.append_assoc, List.append_assoc] at h
    obtain ⟨h1, h2⟩ := frB_inj (by rw [toL]; exact ht t (by simp)) (by rw [toL]; exact hu u (by simp)) h
    obtain rfl := ext h1
    rw [frs_uniq (fun z hz => ht z (List.mem_cons_of_mem _ hz)) (fun z hz => hu z (List.mem_cons_of_mem _ hz)) hx hy h2]
theorem Read.uniq {all : List UInt8} {ts us : List ByteArray} {n m : Nat} (h : Read all ts n) (k : Read all us m) : ts = us ∧ n = m := by
  obtain ⟨⟨h1, h2, h3⟩, h4⟩ := h
  obtain ⟨⟨k1, k2, k3⟩, k4⟩ := k
  have e := frs_uniq h1 k1 h4 k4 (h3.symm.trans k3)
  subst e
  exact ⟨rfl, h2.trans k2.symm⟩
theorem Read.back {all : List UInt8} {ts : List ByteArray} {n : Nat} (h : Read all ts n) : frs ts = all.take n := by
  obtain ⟨⟨h1, h2, h3⟩, h4⟩ := h
  rw [h3, h2]; simp
theorem no_nil (t : List UInt8) : ¬ IsFr [] t := fun h => by
  have h1 : (frB t).length ≤ 0 := h.len
  have h2 := frB_pos t
  omega
/-- all that is written is read -/
theorem read_all {ts : List ByteArray} (h : Short ts) : Read (frs ts) ts (frs ts).length := by
  refine ⟨⟨h, rfl, by simp⟩, fun t => ?_⟩
  rw [List.drop_length]; exact no_nil t
/-- of a beginning, those that are wholly there -/
theorem read_cut {ts : List ByteArray} (h : Short ts) {n c : Nat} (hn : n ≤ ts.length) (h1 : (frs (ts.take n)).length ≤ c) (h2 : n < ts.length → c < (frs (ts.take (n + 1))).length) (hc : c ≤ (frs ts).length) : Read ((frs ts).take c) (ts.take n) (frs (ts.take n)).length := by
  have e : frs ts = frs (ts.take n) ++ frs (ts.drop n) := by rw [← frs_append, List.take_append_drop]
  refine ⟨⟨fun t ht => h t (List.mem_of_mem_take ht), rfl, ?_⟩, fun t ht => ?_⟩
  · rw [e, List.take_append, List.take_of_length_le h1]; simp
  · rw [e, List.take_append, List.take_of_length_le h1, List.drop_left] at ht
    by_cases hl : n < ts.length
    · have h3 := h2 hl
      have e1 : ts.take (n + 1) = ts.take n ++ [ts[n]] := by simp
      have e2 : ts.drop n = ts[n] :: ts.drop (n + 1) := by simp
      rw [e1, frs_append, frs_one, List.length_append] at h3
      have e3 : frs (ts.drop n) = frB (ts[n]).data.toList ++ frs (ts.drop (n + 1)) := by rw [e2, frs_cons]
      have hlen := ht.len
      rw [List.length_take] at hlen
      obtain ⟨k1, y, k2⟩ := ht
      have k3 : frB t ++ (y ++ (frs (ts.drop n)).drop (c - (frs (ts.take n)).length)) = frB (ts[n]).data.toList ++ frs (ts.drop (n + 1)) := by
        rw [← List.append_assoc, ← k2, List.take_append_drop, e3]
      obtain ⟨rfl, -⟩ := frB_inj k1 (by rw [toL]; exact h _ (by simp)) k3
      omega
    · have : ts.drop n = [] := by rw [List.drop_eq_nil_iff]; omega
      rw [this] at ht
      simp [frs] at ht
      exact no_nil t ht
end Go.Proofs.YtpamdnkngedmaaaDoor.Fr
