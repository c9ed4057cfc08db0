/-
  Texts of this proof laid together, in build order; each says of itself what it holds.
-/
import Derived.Test.YtnchgeiinkaefaaGreatDoorZan
import Derived.Test.YtnchgeiinkaefaaGreatDoorZai
import Derived.Test.YtnchgeiinkaefaaGreatDoorZah
import Derived.Deep.RegionLaw
section
/-
  spec's reader of expressions: expr.
-/
namespace Go.Proofs.YtnchgeiinkaefaaGreatDoor.Rule
set_option linter.unusedVariables false
open Go.RowKit
open Boxes (At hide unhide)
open RegIn
open Draw (OwnT fT gT infoEx grown_trans)
open App2 (Own2 listApp2)
open Tiers (T T0)
open Kinds (wordK kidsK opK)

/-- what expr hands out -/
def XOut (w w' : World) (b : Nat) (s : ByteArray) (a d : Nat) (v : Value) : Prop :=
  ∃ (e : Ex) (a' : Nat) (bad' : Bool), EV w.heap.size w'.heap.size w' d v e ∧ (Ps w' b s a' bad' ∧ w.grownBy w' (some b)) ∧ a' ≤ s.size + 4 * (d + 1) ∧
    (bad' = false → a' ≤ s.size ∧ exprS d (left s a) = some (e, left s a')) ∧ (bad' = true → exprS d (left s a) = none)
def ExprC (d : Nat) : Prop := ∀ (b : Nat) (s : ByteArray) (a : Nat) (D : Int) (w : World), D = 9 - (d : Int) → Ps w b s a false → s.size ≤ 100000 → a ≤ s.size →
  Calls Tryz.prog 51 #[.pointer (some ⟨b, 0, none⟩), .int .i64 D] w fun x w' => ∃ v, x = .returned v ∧ XOut w w' b s a d v

abbrev zero5L : List Value := [.int .i64 0, .int .i64 0, .string ⟨#[]⟩, .slice none 0 0, .slice none 0 0]
/-- under way: the reader, the box of the result, all else as it was -/
structure Es (w W : World) (b : Nat) (s : ByteArray) (a : Nat) (bad : Bool) : Prop where
  rd : Ps W b s a bad
  gr : w.grownBy W (some b)
  bw : b < w.heap.size
  box : At W w.heap.size zero5L
theorem Es.size {w W : World} {b : Nat} {s : ByteArray} {a : Nat} {bad : Bool} (h : Es w W b s a bad) : w.heap.size < W.heap.size := At.lt h.box
theorem Es.next {w W W' : World} {b : Nat} {s : ByteArray} {a a' : Nat} {bad bad' : Bool} (h : Es w W b s a bad) (hg : W.grownBy W' (some b)) (hr : Ps W' b s a' bad') : Es w W' b s a' bad' :=
  ⟨hr, gb_trans h.gr hg, h.bw, h.box.kept (hg.block _ h.size (by have := h.bw; simp; omega))⟩
theorem Es.below {w W W' : World} {b : Nat} {s : ByteArray} {a : Nat} {bad : Bool} (h : Es w W b s a bad) (hb : Below W.heap.size W W') : Es w W' b s a bad := h.next (gb_of _ hb) (h.rd.kept hb)
theorem Es.new (w : World) {b : Nat} {s : ByteArray} {a : Nat} {bad : Bool} (h : Ps w b s a bad) (t : TypeId) : Es w (w.alloc (.cells zero5L.toArray t)) b s a bad :=
  ⟨h.kept (below_alloc _ _), gb_of _ (below_alloc _ _), h.lt, At.new w zero5L.toArray t⟩
abbrev put5 (W : World) (g : Nat) (a b c d e : Value) : World := ((((W.setCell ⟨g, 0, none⟩ a).setCell ⟨g, 1, none⟩ b).setCell ⟨g, 2, none⟩ c).setCell ⟨g, 3, none⟩ d).setCell ⟨g, 4, none⟩ e
theorem put5_gb (W : World) (g : Nat) (a b c d e : Value) : W.grownBy (put5 W g a b c d e) (some g) :=
  gb_trans (gb_trans (gb_trans (gb_trans (gb_set _ _ _ _) (gb_set _ _ _ _)) (gb_set _ _ _ _)) (gb_set _ _ _ _)) (gb_set _ _ _ _)
theorem put5_at {W : World} {g : Nat} {l : List Value} (h : At W g l) (a b c d e : Value) : At (put5 W g a b c d e) g (((((l.set 0 a).set 1 b).set 2 c).set 3 d).set 4 e) := ((((h.set 0 a).set 1 b).set 2 c).set 3 d).set 4 e
/-- the result is written into its box -/
theorem Es.out {w W : World} {b : Nat} {s : ByteArray} {a' d : Nat} {bad' : Bool} (h : Es w W b s a' bad') {k n : Int} {m : ByteArray} {kv tv : Value} {ks : List Ex} {ts : List T} (hm : m.size ≤ maxLen) (hts : ts.length ≤ maxLen)
    (hk : ES (w.heap.size + 1) W.heap.size W d kv ks) (ht : TL (w.heap.size + 1) W.heap.size W tv ts) :
    EV w.heap.size (put5 W w.heap.size (.int .i64 k) (.int .i64 n) (.string m) kv tv).heap.size (put5 W w.heap.size (.int .i64 k) (.int .i64 n) (.string m) kv tv) d (.agg #[.int .i64 k, .int .i64 n, .string m, kv, tv]) (.mk k n m ks ts) ∧
    (Ps (put5 W w.heap.size (.int .i64 k) (.int .i64 n) (.string m) kv tv) b s a' bad' ∧ w.grownBy (put5 W w.heap.size (.int .i64 k) (.int .i64 n) (.string m) kv tv) (some b)) := by
  have hg := put5_gb W w.heap.size (.int .i64 k) (.int .i64 n) (.string m) kv tv
  have hsz : (put5 W w.heap.size (.int .i64 k) (.int .i64 n) (.string m) kv tv).heap.size = W.heap.size := by simp
  have hsm : Same (w.heap.size + 1) W.heap.size W (put5 W w.heap.size (.int .i64 k) (.int .i64 n) (.string m) kv tv) := fun j h1 h2 => hg.block j h2 (by simp; omega)
  have hb := h.bw
  have hs := h.size
  have hw := h.gr
  refine ⟨⟨kv, tv, rfl, ⟨hm, hts⟩, ?_, ?_⟩, At.kept h.rd (hg.block b (by omega) (by simp; omega)), ?_⟩
  · rw [hsz]; exact (hk.kept hsm).mono (by omega) (Nat.le_refl _)
  · rw [hsz]; exact (ht.kept hsm).mono (by omega) (Nat.le_refl _)
  · exact ⟨hg.os.trans hw.os, hg.tape.trans hw.tape, hg.output.trans hw.output, Nat.le_trans hw.size hg.size, fun j hj hne => (hg.block j (by omega) (by simp; omega)).trans (hw.block j hj hne)⟩
theorem es0 (lo hi : Nat) (W : World) (d : Nat) (a : Option Addr) (c : Nat) : ES lo hi W d (.slice a 0 c) [] := by
  cases d with
  | zero => exact ⟨rfl, _, _, rfl⟩
  | succ d => exact .inl ⟨rfl, _, _, rfl⟩

set_option maxHeartbeats 1600000 in
theorem expr0 : ExprC 0 := by
  intro b s a D w hD h hs ha
  obtain rfl : D = 9 := by simpa using hD
  obtain ⟨⟨c0, c1, c2⟩, f1, f2⟩ := h.cells
  have hlt := h.lt
  have HP := hide h
  clear h hD
  go_enter Tryz.func51, Tryz.ntmps51
  go_wp2_with (fail)
  have hq : Ps (w.setCell ⟨b, 2, none⟩ (.bool true)) b s a true := (unhide HP).set 2 _
  have e0 := (Es.new (w.setCell ⟨b, 2, none⟩ (.bool true)) hq 77)
  have z0 : (w.setCell ⟨b, 2, none⟩ (.bool true)).heap.size = w.heap.size := by simp
  have hbx := e0.box
  rw [z0] at hbx
  obtain ⟨r0, _⟩ := hbx 0 _ rfl
  obtain ⟨r1, _⟩ := hbx 1 _ rfl
  obtain ⟨r2, _⟩ := hbx 2 _ rfl
  obtain ⟨r3, _⟩ := hbx 3 _ rfl
  obtain ⟨r4, _⟩ := hbx 4 _ rfl
  refine bodyPost_ret (v := .agg #[.int .i64 0, .int .i64 0, .string ⟨#[]⟩, .slice none 0 0, .slice none 0 0]) (by simp [results, Tryz.results51, go_sem, r0, r1, r2, r3, r4]) rfl ⟨_, rfl, .mk 0 0 ⟨#[]⟩ [] [], a, true, ⟨_, _, rfl, ⟨by decide, by decide⟩, es0 _ _ _ _ _ _, .inl ⟨rfl, _, _, rfl⟩⟩, ⟨e0.rd, gb_trans (gb_set _ _ _ _) (gb_of _ (below_alloc _ _))⟩, by omega, fun h => (by cases h), fun _ => rfl⟩

/-- something could not stand before: nothing is read -/
theorem exprBad (b : Nat) (s : ByteArray) (a : Nat) (D : Int) (w : World) (h : Ps w b s a true) :
    Calls Tryz.prog 51 #[.pointer (some ⟨b, 0, none⟩), .int .i64 D] w fun x w' => ∃ v, x = .returned v ∧ ∀ d, EV w.heap.size w'.heap.size w' d v (.mk 0 0 ⟨#[]⟩ [] []) ∧ Ps w' b s a true ∧ w.grownBy w' (some b) := by
  obtain ⟨⟨c0, c1, c2⟩, f1, f2⟩ := h.cells
  have hlt := h.lt
  have HP := hide h
  clear h
  by_cases hD : 8 < D
  · go_enter Tryz.func51, Tryz.ntmps51
    go_wp2_with (fail)
    have hq : Ps (w.setCell ⟨b, 2, none⟩ (.bool true)) b s a true := (unhide HP).set 2 _
    have e0 := (Es.new (w.setCell ⟨b, 2, none⟩ (.bool true)) hq 77)
    have z0 : (w.setCell ⟨b, 2, none⟩ (.bool true)).heap.size = w.heap.size := by simp
    have hbx := e0.box
    rw [z0] at hbx
    obtain ⟨r0, _⟩ := hbx 0 _ rfl
    obtain ⟨r1, _⟩ := hbx 1 _ rfl
    obtain ⟨r2, _⟩ := hbx 2 _ rfl
    obtain ⟨r3, _⟩ := hbx 3 _ rfl
    obtain ⟨r4, _⟩ := hbx 4 _ rfl
    exact bodyPost_ret (v := .agg #[.int .i64 0, .int .i64 0, .string ⟨#[]⟩, .slice none 0 0, .slice none 0 0]) (by simp [results, Tryz.results51, go_sem, r0, r1, r2, r3, r4]) rfl ⟨_, rfl, fun d => ⟨⟨_, _, rfl, ⟨by decide, by decide⟩, es0 _ _ _ _ _ _, .inl ⟨rfl, _, _, rfl⟩⟩, e0.rd, gb_trans (gb_set _ _ _ _) (gb_of _ (below_alloc _ _))⟩⟩
  · go_enter Tryz.func51, Tryz.ntmps51
    go_wp2_with (fail)
    have e0 := (Es.new w (unhide HP) 77)
    have hbx := e0.box
    obtain ⟨r0, _⟩ := hbx 0 _ rfl
    obtain ⟨r1, _⟩ := hbx 1 _ rfl
    obtain ⟨r2, _⟩ := hbx 2 _ rfl
    obtain ⟨r3, _⟩ := hbx 3 _ rfl
    obtain ⟨r4, _⟩ := hbx 4 _ rfl
    exact bodyPost_ret (v := .agg #[.int .i64 0, .int .i64 0, .string ⟨#[]⟩, .slice none 0 0, .slice none 0 0]) (by simp [results, Tryz.results51, go_sem, r0, r1, r2, r3, r4]) rfl ⟨_, rfl, fun d => ⟨⟨_, _, rfl, ⟨by decide, by decide⟩, es0 _ _ _ _ _ _, .inl ⟨rfl, _, _, rfl⟩⟩, e0.rd, gb_of _ (below_alloc _ _)⟩⟩

/-- expr, whatever was before -/
theorem exprAny {d : Nat} (H : ExprC d) (b : Nat) (s : ByteArray) (a : Nat) (bad : Bool) (D : Int) (w : World) (hD : D = 9 - (d : Int)) (h : Ps w b s a bad) (hs : s.size ≤ 100000) (ha : a ≤ s.size + 4) (ha' : bad = false → a ≤ s.size) :
    Calls Tryz.prog 51 #[.pointer (some ⟨b, 0, none⟩), .int .i64 D] w fun x w' => ∃ v, x = .returned v ∧ ∃ (e : Ex) (a' : Nat) (bad' : Bool), EV w.heap.size w'.heap.size w' d v e ∧ (Ps w' b s a' bad' ∧ w.grownBy w' (some b)) ∧ a' ≤ s.size + 4 * (d + 1) ∧
      (bad = true → bad' = true) ∧ (bad' = false → a' ≤ s.size ∧ exprS d (left s a) = some (e, left s a')) ∧ (bad' = true → bad = true ∨ exprS d (left s a) = none) := by
  cases bad with
  | false =>
    refine (H b s a D w hD h hs (ha' rfl)).mono ?_
    rintro x w' ⟨v, rfl, e, a', bad', h1, h2, h3, h4, h5⟩
    exact ⟨v, rfl, e, a', bad', h1, h2, h3, fun h => (by cases h), h4, fun h => .inr (h5 h)⟩
  | true =>
    refine (exprBad b s a D w h).mono ?_
    rintro x w' ⟨v, rfl, hh⟩
    obtain ⟨h1, h2, h3⟩ := hh d
    exact ⟨v, rfl, _, a, true, h1, ⟨h2, h3⟩, by omega, fun _ => rfl, fun h => (by cases h), fun _ => .inl rfl⟩

theorem opK_range (y : ByteArray) : opK y = 0 ∨ 3 ≤ opK y ∧ opK y ≤ 10 := by
  unfold opK
  repeat' split
  all_goals omega
theorem kids_range {k : Int} (h : 3 ≤ k ∧ k ≤ 10) : 1 ≤ kidsK k ∧ kidsK k ≤ 3 := by
  unfold kidsK
  repeat' split
  all_goals omega

/-- under way within a bracket: the reader, the box of the result, the box of the expression, its row of kids -/
structure Ls (w W : World) (b : Nat) (s : ByteArray) (A : Nat) (bad : Bool) (q : Nat) (k n : Int) (kv tv : Value) (d : Nat) (xs : List X) : Prop where
  es : Es w W b s A bad
  box : At W q [.int .i64 k, .int .i64 n, .string ⟨#[]⟩, kv, tv]
  hq : w.heap.size < q ∧ q < W.heap.size
  ks : KS W (q + 1) d kv xs
theorem Ls.next {w W W' : World} {b : Nat} {s : ByteArray} {A A' : Nat} {bad bad' : Bool} {q : Nat} {k n : Int} {kv tv : Value} {d : Nat} {xs : List X} (h : Ls w W b s A bad q k n kv tv d xs) (hg : W.grownBy W' (some b)) (hr : Ps W' b s A' bad') : Ls w W' b s A' bad' q k n kv tv d xs := by
  have hb := h.es.bw
  have hq := h.hq
  exact ⟨h.es.next hg hr, h.box.kept (hg.block q hq.2 (by simp; omega)), ⟨hq.1, Nat.lt_of_lt_of_le hq.2 hg.size⟩, h.ks.kept hg (fun j hj => by cases hj; omega)⟩
theorem Ls.below {w W W' : World} {b : Nat} {s : ByteArray} {A : Nat} {bad : Bool} {q : Nat} {k n : Int} {kv tv : Value} {d : Nat} {xs : List X} (h : Ls w W b s A bad q k n kv tv d xs) (hb : Below W.heap.size W W') : Ls w W' b s A bad q k n kv tv d xs := h.next (gb_of _ hb) (h.es.rd.kept hb)
theorem below_dw {w : World} : Below w.heap.size w w.drew := ⟨rfl, rfl, rfl, Nat.le_refl _, fun _ _ => rfl⟩
/-- a kid more, and the row is written into the expression's box -/
theorem Ls.app {w W W' : World} {b : Nat} {s : ByteArray} {A : Nat} {bad : Bool} {q : Nat} {k n : Int} {kv kv2 tv : Value} {d : Nat} {xs xs2 : List X} (h : Ls w W b s A bad q k n kv tv d xs) (o : Obj) (hg : (W.alloc o).grownBy W' kv.ownBlock) (hk : KS W' (q + 1) d kv2 xs2) : Ls w (W'.setCell ⟨q, 3, none⟩ kv2) b s A bad q k n kv2 tv d xs2 := by
  have ha := h.below (below_alloc W o)
  have hq := ha.hq
  have hb := ha.es.bw
  have hblk := ha.ks.blk
  have far : ∀ j, j ≤ q → some j ≠ kv.ownBlock := fun j hj e => by have := (hblk j e.symm).1; omega
  have k1 : Ps W' b s A bad := At.kept ha.es.rd (hg.block b ha.es.rd.lt (far b (by omega)))
  have k2 : At W' w.heap.size zero5L := ha.es.box.kept (hg.block _ ha.es.size (far _ (by omega)))
  have k3 : At W' q [.int .i64 k, .int .i64 n, .string ⟨#[]⟩, kv, tv] := ha.box.kept (hg.block q hq.2 (far q (Nat.le_refl _)))
  have hw := ha.es.gr
  have k4 : w.grownBy W' (some b) := ⟨hg.os.trans hw.os, hg.tape.trans hw.tape, hg.output.trans hw.output, Nat.le_trans hw.size hg.size, fun j hj hne => (hg.block j (Nat.lt_of_lt_of_le hj hw.size) (far j (by omega))).trans (hw.block j hj hne)⟩
  have s1 := gb_set W' q 3 kv2
  refine ⟨⟨At.other k1 _ (by omega), ?_, hb, At.other k2 _ (by omega)⟩, k3.set 3 kv2, ⟨hq.1, by simp; exact Nat.lt_of_lt_of_le hq.2 hg.size⟩, hk.kept s1 (fun j hj => by cases hj; omega)⟩
  exact ⟨s1.os.trans k4.os, s1.tape.trans k4.tape, s1.output.trans k4.output, Nat.le_trans k4.size s1.size, fun j hj hne => (s1.block j (Nat.lt_of_lt_of_le hj k4.size) (by simp; omega)).trans (k4.block j hj hne)⟩
theorem Es.setq {w W : World} {b : Nat} {s : ByteArray} {A : Nat} {bad : Bool} (h : Es w W b s A bad) (q j : Nat) (u : Value) (hq : w.heap.size < q) : Es w (W.setCell ⟨q, j, none⟩ u) b s A bad := by
  have hb := h.bw
  have hw := h.gr
  have s1 := gb_set W q j u
  exact ⟨At.other h.rd _ (by omega), ⟨s1.os.trans hw.os, s1.tape.trans hw.tape, s1.output.trans hw.output, Nat.le_trans hw.size s1.size, fun i hi hne => (s1.block i (Nat.lt_of_lt_of_le hi hw.size) (by simp; omega)).trans (hw.block i hi hne)⟩, hb, At.other h.box _ (by omega)⟩
theorem Ls.setN {w W : World} {b : Nat} {s : ByteArray} {A : Nat} {bad : Bool} {q : Nat} {k n : Int} {kv tv : Value} {d : Nat} {xs : List X} (h : Ls w W b s A bad q k n kv tv d xs) (n' : Int) : Ls w (W.setCell ⟨q, 1, none⟩ (.int .i64 n')) b s A bad q k n' kv tv d xs :=
  ⟨h.es.setq q 1 _ h.hq.1, h.box.set 1 _, ⟨h.hq.1, by simpa using h.hq.2⟩, h.ks.kept (gb_set W q 1 _) (fun j hj => by cases hj; omega)⟩
theorem Ls.setT {w W : World} {b : Nat} {s : ByteArray} {A : Nat} {bad : Bool} {q : Nat} {k n : Int} {kv tv : Value} {d : Nat} {xs : List X} (h : Ls w W b s A bad q k n kv tv d xs) (tv' : Value) : Ls w (W.setCell ⟨q, 4, none⟩ tv') b s A bad q k n kv tv' d xs :=
  ⟨h.es.setq q 4 _ h.hq.1, h.box.set 4 _, ⟨h.hq.1, by simpa using h.hq.2⟩, h.ks.kept (gb_set W q 4 _) (fun j hj => by cases hj; omega)⟩
theorem Ls.esk {w W : World} {b : Nat} {s : ByteArray} {A : Nat} {bad : Bool} {q : Nat} {k n : Int} {kv tv : Value} {d : Nat} {xs : List X} (h : Ls w W b s A bad q k n kv tv d xs) (hl : xs.length ≤ 1000) : ES (w.heap.size + 1) W.heap.size W (d + 1) kv (xs.map (·.1)) := (h.ks.es hl).mono (by have := h.hq; omega) (Nat.le_refl _)
/-- kids so far -/
structure KI (R : List UInt8 → Option (Ex × List UInt8)) (s : ByteArray) (K : Nat) (t1 : List UInt8) (ks : List Ex) (A : Nat) (bad : Bool) : Prop where
  go : bad = false → A ≤ s.size ∧ kidS R K t1 = (kidS R (K - ks.length) (left s A)).map fun q => (ks ++ q.1, q.2)
  no : bad = true → kidS R K t1 = none
theorem KI.next {R : List UInt8 → Option (Ex × List UInt8)} {s : ByteArray} {K : Nat} {t1 : List UInt8} {ks : List Ex} {A A' : Nat} {b1 b2 : Bool} {e : Ex} (h : KI R s K t1 ks A false) (hl : ks.length < K) (F1 : Far s A false (wantS 32 (left s A)) (A + 1) b1)
    (h1 : b1 = true → b2 = true) (h2 : b2 = false → A' ≤ s.size ∧ R (left s (A + 1)) = some (e, left s A')) (h3 : b2 = true → b1 = true ∨ R (left s (A + 1)) = none) : KI R s K t1 (ks ++ [e]) A' b2 := by
  have e0 : K - ks.length = (K - (ks ++ [e]).length) + 1 := by simp; omega
  have e1 : kidS R (K - ks.length) (left s A) = (wantS 32 (left s A)).bind fun t1 => (R t1).bind fun p => (kidS R (K - (ks ++ [e]).length) p.2).map fun q => (p.1 :: q.1, q.2) := by rw [e0, kidS]
  have e2 := (h.go rfl).2
  rw [e1] at e2
  refine ⟨fun hb => ⟨(h2 hb).1, ?_⟩, fun hb => ?_⟩
  · have hb1 : b1 = false := by
      cases b1 with
      | false => rfl
      | true => rw [h1 rfl] at hb; cases hb
    subst hb1
    rw [e2, (F1.ok).2.2, Option.bind_some, (h2 hb).2, Option.bind_some]
    simp only
    cases kidS R (K - (ks ++ [e]).length) (left s A') with
    | none => rfl
    | some q => simp
  · rw [e2]
    cases b1 with
    | true => rw [F1.fail]; rfl
    | false =>
      rcases h3 hb with h | h
      · cases h
      · rw [(F1.ok).2.2, Option.bind_some, h]; rfl
theorem KI.done {R : List UInt8 → Option (Ex × List UInt8)} {s : ByteArray} {K : Nat} {t1 : List UInt8} {ks : List Ex} {A : Nat} (h : KI R s K t1 ks A false) (hl : K ≤ ks.length) : A ≤ s.size ∧ kidS R K t1 = some (ks, left s A) := by
  refine ⟨(h.go rfl).1, ?_⟩
  rw [(h.go rfl).2, show K - ks.length = 0 by omega]
  simp [kidS]

/-- where the kids end -/
def KX (kd : Option (List Ex × List UInt8)) (s : ByteArray) (ks : List Ex) (A : Nat) (bad : Bool) : Prop := (bad = false → A ≤ s.size ∧ kd = some (ks, left s A)) ∧ (bad = true → kd = none)
theorem fin_other {E : Option (Ex × List UInt8)} {kd : Option (List Ex × List UInt8)} {s : ByteArray} {k : Int} {ks : List Ex} {A : Nat} {bad bad9 : Bool} (hm : E = kd.bind fun p => ownS k p.1 p.2) (k6 : k ≠ 6) (k10 : k ≠ 10) (hx : KX kd s ks A bad) (F : Far s A bad (wantS 41 (left s A)) (A + 1) bad9) :
    (bad9 = false → A + 1 ≤ s.size ∧ E = some (.mk k 0 ⟨#[]⟩ ks [], left s (A + 1))) ∧ (bad9 = true → E = none) := by
  refine ⟨fun h => ?_, fun h => ?_⟩
  · subst h
    obtain ⟨rfl, h1, h2⟩ := F.ok
    rw [hm, (hx.1 rfl).2]
    simp only [Option.bind_some, ownS]
    rw [if_neg k6, if_neg k10, h2]
    exact ⟨h1, rfl⟩
  · subst h
    cases bad with
    | true => rw [hm, hx.2 rfl]; rfl
    | false =>
      rw [hm, (hx.1 rfl).2]
      simp only [Option.bind_some, ownS]
      rw [if_neg k6, if_neg k10, F.fail]; rfl
theorem fin_six {E : Option (Ex × List UInt8)} {kd : Option (List Ex × List UInt8)} {s : ByteArray} {ks : List Ex} {A A2 : Nat} {n : Int} {bad b1 b2 b3 : Bool} (hm : E = kd.bind fun p => ownS 6 p.1 p.2) (hx : KX kd s ks A bad) (F1 : Far s A bad (wantS 32 (left s A)) (A + 1) b1)
    (F2 : Far s (A + 1) b1 ((numS (left s (A + 1))).map (·.2)) A2 b2) (N2 : b2 = false → ∃ r, numS (left s (A + 1)) = some (n, r)) (F3 : Far s A2 b2 (wantS 41 (left s A2)) (A2 + 1) b3) :
    (b3 = false → A2 + 1 ≤ s.size ∧ E = some (.mk 6 n ⟨#[]⟩ ks [], left s (A2 + 1))) ∧ (b3 = true → E = none) := by
  refine ⟨fun h => ?_, fun h => ?_⟩
  · subst h
    obtain ⟨rfl, h3, e3⟩ := F3.ok
    obtain ⟨rfl, h2, e2⟩ := F2.ok
    obtain ⟨rfl, h1, e1⟩ := F1.ok
    rw [hm, (hx.1 rfl).2]
    simp only [Option.bind_some, ownS, if_true]
    rw [e1, Option.bind_some, num_fst (r := []) (N2 rfl) e2, Option.bind_some]
    simp only
    rw [e3]
    exact ⟨h3, rfl⟩
  · subst h
    cases bad with
    | true => rw [hm, hx.2 rfl]; rfl
    | false =>
      rw [hm, (hx.1 rfl).2]
      simp only [Option.bind_some, ownS, if_true]
      cases b1 with
      | true => rw [F1.fail]; rfl
      | false =>
        rw [(F1.ok).2.2, Option.bind_some]
        cases b2 with
        | true =>
          have := F2.fail
          rw [Option.map_eq_none_iff] at this
          rw [this]; rfl
        | false =>
          rw [num_fst (r := []) (N2 rfl) (F2.ok).2.2, Option.bind_some]
          simp only
          rw [F3.fail]; rfl
theorem fin_ten {E : Option (Ex × List UInt8)} {kd : Option (List Ex × List UInt8)} {s : ByteArray} {ks : List Ex} {A A2 : Nat} {l : List T} {bad b2 b3 : Bool} (hm : E = kd.bind fun p => ownS 10 p.1 p.2) (hx : KX kd s ks A bad) (t1 : bad = true → b2 = true) (t2 : b2 = false → A2 ≤ s.size ∧ tiersS 7 (left s A) = some (l, left s A2)) (t3 : b2 = true → bad = true ∨ tiersS 7 (left s A) = none) (F3 : Far s A2 b2 (wantS 41 (left s A2)) (A2 + 1) b3) :
    (b3 = false → A2 + 1 ≤ s.size ∧ E = some (.mk 10 0 ⟨#[]⟩ ks l, left s (A2 + 1))) ∧ (b3 = true → E = none) := by
  have n6 : ¬ (10 : Int) = 6 := by decide
  refine ⟨fun h => ?_, fun h => ?_⟩
  · subst h
    obtain ⟨rfl, h3, e3⟩ := F3.ok
    have hb : bad = false := by
      cases bad with
      | false => rfl
      | true => exact absurd (t1 rfl) (by simp)
    subst hb
    rw [hm, (hx.1 rfl).2]
    simp only [Option.bind_some, ownS]
    rw [if_neg n6, if_pos trivial, (t2 rfl).2, Option.bind_some]
    simp only
    rw [e3]
    exact ⟨h3, rfl⟩
  · subst h
    cases bad with
    | true => rw [hm, hx.2 rfl]; rfl
    | false =>
      rw [hm, (hx.1 rfl).2]
      simp only [Option.bind_some, ownS]
      rw [if_neg n6, if_pos trivial]
      cases b2 with
      | true =>
        rcases t3 rfl with h | h
        · cases h
        · rw [h]; rfl
      | false =>
        rw [(t2 rfl).2, Option.bind_some]
        simp only
        rw [F3.fail]; rfl

set_option maxRecDepth 20000 in
set_option maxHeartbeats 3200000 in
theorem exprN {d : Nat} (H : ExprC d) (hd : d < 8) : ExprC (d + 1) := by
  intro b s a D w hD h hs ha
  have hD8 : D ≤ 8 := by omega
  have hD1 : 1 ≤ D := by omega
  have HD := hide hD
  obtain ⟨⟨c0, c1, c2⟩, f1, f2⟩ := h.cells
  have hlt := h.lt
  have E0 := hide (Es.new w h 77)
  have HC := hide H
  clear h H hD
  go_enter Tryz.func51, Tryz.ntmps51
  go_wp2_with (fail)
  refine (see b s a false _ (unhide E0).rd (by omega) (by omega)).mono ?_
  rintro x w1 ⟨rfl, hb1⟩
  have E1 := hide ((unhide E0).below hb1)
  have HH : Hid ((left s a).head? = some 40 ↔ seeB s a = 40) := hide (head_see (by decide))
  clear hb1 E0 c0 c1 c2 f1 f2
  generalize seeB s a = x at *
  by_cases hx : x = 40
  case neg =>
    have hx1 : ((x.toNat : Int) != 40) = true := by
      simp only [bne_iff_ne, ne_eq]; intro e; apply hx; apply UInt8.toNat_inj.1; show _ = 40; omega
    have hs1 : exprS (d + 1) (left s a) = some (leafS (wordOf (left s a)), restOf (left s a)) := by
      rw [exprS, if_neg (fun h => hx ((unhide HH).1 h))]
    have HS1 := hide hs1
    clear HH hx hs1
    go_wp2_with (fail)
    refine (word b s a false _ (unhide E1).rd (by omega) (by omega)).mono ?_
    rintro x w2 ⟨y, a2, bad2, rfl, hp2, hg2, _, h2⟩
    obtain ⟨rfl, e2, e3, e4, e5⟩ := h2 ha
    have E2 := hide ((unhide E1).next hg2 hp2)
    have hy : y.size ≤ 2000000 := by
      have q1 := congrArg List.length e2
      have q2 := restOf_len (left s a)
      have q3 := left_len s a
      have q4 : y.data.toList.length = y.size := Array.length_toList
      omega
    have HE2 := hide e2
    have HE3 := hide e3
    clear hp2 hg2 h2 e2 e3 E1
    go_wp2_with (fail)
    refine (numC y _ hy).mono ?_
    rintro x w3 ⟨rfl, hb3⟩
    have E3 := hide ((unhide E2).below hb3)
    clear hb3 E2
    have hbx := (unhide E3).box
    obtain ⟨r0, s0⟩ := hbx 0 _ rfl
    obtain ⟨r1, s1⟩ := hbx 1 _ rfl
    obtain ⟨r2, s2⟩ := hbx 2 _ rfl
    obtain ⟨r3, s3⟩ := hbx 3 _ rfl
    obtain ⟨r4, s4⟩ := hbx 4 _ rfl
    have hws := (unhide E3).size
    clear hbx
    cases hn : numL y.data.toList with
    | none =>
      rw [numV_none hn]
      have HL : Hid (leafS (wordOf (left s a)) = .mk 2 0 y [] []) := hide (by rw [← unhide HE2]; simp only [leafS, hn, bytes_self])
      clear hn
      go_wp2_with (fail)
      obtain ⟨o1, o2, o3⟩ := (unhide E3).out (k := 2) (n := 0) (m := y) (kv := .slice none 0 0) (tv := .slice none 0 0) (d := d + 1) (ks := []) (ts := []) (by unfold maxLen; omega) (by decide) (es0 _ _ _ _ _ _) (.inl ⟨rfl, _, _, rfl⟩)
      have oo := put5_at (unhide E3).box (.int .i64 2) (.int .i64 0) (.string y) (.slice none 0 0) (.slice none 0 0)
      obtain ⟨t0, _⟩ := oo 0 _ rfl
      obtain ⟨t1, _⟩ := oo 1 _ rfl
      obtain ⟨t2, _⟩ := oo 2 _ rfl
      obtain ⟨t3, _⟩ := oo 3 _ rfl
      obtain ⟨t4, _⟩ := oo 4 _ rfl
      refine bodyPost_ret (v := .agg #[.int .i64 2, .int .i64 0, .string y, .slice none 0 0, .slice none 0 0]) (by simp [results, Tryz.results51, go_sem, t0, t1, t2, t3, t4]) rfl ⟨_, rfl, _, a2, false, o1, ⟨o2, o3⟩, by omega, fun _ => ⟨e5, ?_⟩, fun h => (by cases h)⟩
      rw [unhide HS1, unhide HL, unhide HE3]
    | some n =>
      rw [numV_some hn]
      have HL : Hid (leafS (wordOf (left s a)) = .mk 1 n ByteArray.empty [] []) := hide (by rw [← unhide HE2]; simp only [leafS, hn])
      clear hn
      go_wp2_with (fail)
      obtain ⟨o1, o2, o3⟩ := (unhide E3).out (k := 1) (n := n) (m := ⟨#[]⟩) (kv := .slice none 0 0) (tv := .slice none 0 0) (d := d + 1) (ks := []) (ts := []) (by decide) (by decide) (es0 _ _ _ _ _ _) (.inl ⟨rfl, _, _, rfl⟩)
      have oo := put5_at (unhide E3).box (.int .i64 1) (.int .i64 n) (.string ⟨#[]⟩) (.slice none 0 0) (.slice none 0 0)
      obtain ⟨t0, _⟩ := oo 0 _ rfl
      obtain ⟨t1, _⟩ := oo 1 _ rfl
      obtain ⟨t2, _⟩ := oo 2 _ rfl
      obtain ⟨t3, _⟩ := oo 3 _ rfl
      obtain ⟨t4, _⟩ := oo 4 _ rfl
      refine bodyPost_ret (v := .agg #[.int .i64 1, .int .i64 n, .string ⟨#[]⟩, .slice none 0 0, .slice none 0 0]) (by simp [results, Tryz.results51, go_sem, t0, t1, t2, t3, t4]) rfl ⟨_, rfl, _, a2, false, o1, ⟨o2, o3⟩, by omega, fun _ => ⟨e5, ?_⟩, fun h => (by cases h)⟩
      rw [unhide HS1, unhide HL, unhide HE3]
      rfl
  subst hx
  have hb40 : (((40 : UInt8).toNat : Int) != 40) = false := by decide
  have HB : Hid (exprS (d + 1) (left s a) = brS (exprS d) (left s a).tail) := hide (by rw [exprS, if_pos ((unhide HH).2 rfl)])
  have hal : a < s.size := by
    refine Nat.lt_of_not_le fun hn => ?_
    have := (unhide HH).2 rfl
    rw [left_nil hn] at this; cases this
  have HT : Hid ((left s a).tail = left s (a + 1)) := hide (by rw [left_cons hal]; rfl)
  have HW : Hid (wantS 40 (left s a) ≠ none) := hide (by
    have := (unhide HH).2 rfl
    rw [left_cons hal] at this ⊢
    simp only [List.head?_cons, Option.some.injEq] at this
    simp [wantS, this])
  clear HH
  go_wp2_with (fail)
  refine (wantR b s a false 40 _ (unhide E1).rd (by omega) (by omega) (by decide)).mono ?_
  rintro x w2 ⟨rfl, bad2, p2, g2, F2⟩
  obtain rfl : bad2 = false := by
    cases bad2 with
    | false => rfl
    | true => exact absurd F2.fail (unhide HW)
  have E2 := hide ((unhide E1).next g2 p2)
  clear p2 g2 F2 HW E1
  go_wp2_with (fail)
  refine (word b s (a + 1) false _ (unhide E2).rd (by omega) (by omega)).mono ?_
  rintro x w3 ⟨y, a3, bad3, rfl, hp3, hg3, _, h3⟩
  obtain ⟨rfl, e2, e3, e4, e5⟩ := h3 (by omega)
  have E3 := hide ((unhide E2).next hg3 hp3)
  have HE2 := hide e2
  have HE3 := hide e3
  clear hp3 hg3 h3 e2 e3 E2
  go_wp2_with (fail)
  refine (Kinds.opS y _).mono ?_
  rintro x w4 ⟨rfl, hb4⟩
  have E4 := hide ((unhide E3).below hb4)
  clear hb4 E3
  have HK : Hid (opK y = opK (bytesOf (wordOf (left s (a + 1))))) := hide (by rw [← unhide HE2, bytes_self])
  generalize opK y = k at *
  obtain ⟨⟨c0, c1, c2⟩, f1, f2⟩ := (unhide E4).rd.cells
  have hb4 : b < w4.heap.size := (unhide E4).rd.lt
  have hq4 : w.heap.size < w4.heap.size := (unhide E4).size
  have EB : Hid (∀ x : Bool, Ls w ((w4.setCell ⟨b, 2, none⟩ (.bool x)).alloc (.cells #[.int .i64 k, .int .i64 0, .string ⟨#[]⟩, .slice none 0 0, .slice none 0 0] 77)) b s a3 x w4.heap.size k 0 (.slice none 0 0) (.slice none 0 0) d []) := hide (fun x => by
    have h1 : Ps (w4.setCell ⟨b, 2, none⟩ (.bool x)) b s a3 x := (unhide E4).rd.set 2 _
    have h2 := (unhide E4).next (gb_set w4 b 2 (.bool x)) h1
    have h3 := h2.below (below_alloc _ (.cells #[.int .i64 k, .int .i64 0, .string ⟨#[]⟩, .slice none 0 0, .slice none 0 0] 77))
    have h4 := At.new (w4.setCell ⟨b, 2, none⟩ (.bool x)) #[.int .i64 k, .int .i64 0, .string ⟨#[]⟩, .slice none 0 0, .slice none 0 0] 77
    have z : (w4.setCell ⟨b, 2, none⟩ (.bool x)).heap.size = w4.heap.size := by simp
    rw [z] at h4
    exact ⟨h3, h4, ⟨hq4, by simp⟩, KS.nil _ _ _⟩)
  by_cases hk0 : k = 0
  case pos =>
    subst hk0
    have hN : exprS (d + 1) (left s a) = none := by
      rw [unhide HB, unhide HT]; unfold brS; rw [if_pos (unhide HK).symm]
    have HN := hide hN
    have L5 := hide (unhide EB true)
    clear hN EB E4
    go_wp2_with (fail)
    go_loopw [9] (fun i wr => i = .int .i64 0 ∧ wr = (w4.setCell ⟨b, 2, none⟩ (.bool true)).alloc (.cells #[.int .i64 0, .int .i64 0, .string ⟨#[]⟩, .slice none 0 0, .slice none 0 0] 77)) (fun _ _ => 0)
    case atStart => exact ⟨rfl, rfl⟩
    case round =>
      obtain ⟨rfl, rfl⟩ := hrel
      generalize (w4.setCell ⟨b, 2, none⟩ (.bool true)).alloc (.cells #[.int .i64 0, .int .i64 0, .string ⟨#[]⟩, .slice none 0 0, .slice none 0 0] 77) = W5 at *
      obtain ⟨⟨c0, c1, c2⟩, f1, f2⟩ := (unhide L5).es.rd.cells
      obtain ⟨v0, _⟩ := (unhide L5).box 0 _ rfl
      go_wp2_with (fail)
      refine (kidsS 0 _).mono ?_
      rintro x wx ⟨rfl, rfl⟩
      have hk1 : kidsK 0 = -1 := by decide
      rw [hk1]
      go_wp2_with (fail)
      refine (wantR b s a3 true 41 _ (unhide L5).es.rd (by omega) (by omega) (by decide)).mono ?_
      rintro x w9 ⟨rfl, bad9, p9, g9, F9⟩
      have L9 := hide ((unhide L5).next g9 p9)
      have HF9 := hide F9
      clear p9 g9 F9 c0 c1 c2 f1 f2 v0
      have hq9 := (unhide L9).hq
      have hrb := (unhide L9).es.box
      obtain ⟨u0, y0⟩ := hrb 0 _ rfl
      obtain ⟨u1, y1⟩ := hrb 1 _ rfl
      obtain ⟨u2, y2⟩ := hrb 2 _ rfl
      obtain ⟨u3, y3⟩ := hrb 3 _ rfl
      obtain ⟨u4, y4⟩ := hrb 4 _ rfl
      obtain ⟨v0, _⟩ := (unhide L9).box 0 _ rfl
      obtain ⟨v1, _⟩ := (unhide L9).box 1 _ rfl
      obtain ⟨v2, _⟩ := (unhide L9).box 2 _ rfl
      obtain ⟨v3, _⟩ := (unhide L9).box 3 _ rfl
      obtain ⟨v4, _⟩ := (unhide L9).box 4 _ rfl
      clear hrb
      go_wp2_with (fail)
      obtain ⟨o1, o2, o3⟩ := (unhide L9).es.out (k := 0) (n := 0) (m := ⟨#[]⟩) (kv := .slice none 0 0) (tv := .slice none 0 0) (d := d + 1) (ks := []) (ts := []) (by decide) (by decide) (es0 _ _ _ _ _ _) (.inl ⟨rfl, _, _, rfl⟩)
      have oo := put5_at (unhide L9).es.box (.int .i64 0) (.int .i64 0) (.string ⟨#[]⟩) (.slice none 0 0) (.slice none 0 0)
      obtain ⟨t0, _⟩ := oo 0 _ rfl
      obtain ⟨t1, _⟩ := oo 1 _ rfl
      obtain ⟨t2, _⟩ := oo 2 _ rfl
      obtain ⟨t3, _⟩ := oo 3 _ rfl
      obtain ⟨t4, _⟩ := oo 4 _ rfl
      refine bodyPost_ret (v := .agg #[.int .i64 0, .int .i64 0, .string ⟨#[]⟩, .slice none 0 0, .slice none 0 0]) (by simp [results, Tryz.results51, go_sem, t0, t1, t2, t3, t4]) rfl ⟨_, rfl, _, a3 + 1, bad9, o1, ⟨o2, o3⟩, by omega, ?_, ?_⟩
      · intro h; subst h; exact absurd ((unhide HF9).1 rfl) (by simp)
      · intro _; exact unhide HN
  have hkr : 3 ≤ k ∧ k ≤ 10 := by
    have := opK_range (bytesOf (wordOf (left s (a + 1))))
    rw [← unhide HK] at this
    rcases this with h | h
    · exact absurd h hk0
    · exact h
  obtain ⟨K, hKK⟩ : ∃ K : Nat, kidsK k = K := ⟨(kidsK k).toNat, by have := kids_range hkr; omega⟩
  have hK3 : 1 ≤ K ∧ K ≤ 3 := by have := kids_range hkr; omega
  have HM : Hid (exprS (d + 1) (left s a) = (kidS (exprS d) K (left s a3)).bind fun p => ownS k p.1 p.2) := hide (by
    rw [unhide HB, unhide HT]; unfold brS; rw [← unhide HK, if_neg hk0, hKK, unhide HE3]; rfl)
  have hkb : (k == 0) = false := by simpa using hk0
  have L5 := hide (unhide EB false)
  clear EB E4 HB HT HK HE2 HE3
  go_wp2_with (fail)
  go_loopw [9] (fun i wr => ∃ (xs : List X) (kv : Value) (A : Nat) (bad : Bool), i = .int .i64 xs.length ∧ xs.length ≤ K ∧ A ≤ s.size + 4 * (d + 1) ∧ Hid (Ls w wr b s A bad w4.heap.size k 0 kv (.slice none 0 0) d xs) ∧ Hid (KI (exprS d) s K (left s a3) (xs.map (·.1)) A bad)) (fun i _ => K - (intOf i).toNat)
  case atStart =>
    refine ⟨[], _, a3, false, rfl, by simp, by omega, L5, hide ⟨fun _ => ⟨e5, ?_⟩, fun h => (by cases h)⟩⟩
    show _ = (kidS (exprS d) (K - 0) (left s a3)).map _
    rw [Nat.sub_zero]
    cases kidS (exprS d) K (left s a3) <;> rfl
  case round =>
    obtain ⟨xs, kv, A, bad, rfl, hxl, hA, hL, hI⟩ := hrel
    clear L5 c0 c1 c2 f1 f2
    generalize w4.heap.size = q at *
    have hLq := (unhide hL).hq
    have hLb := (unhide hL).es.bw
    obtain ⟨⟨c0, c1, c2⟩, f1, f2⟩ := (unhide hL).es.rd.cells
    obtain ⟨v0, _⟩ := (unhide hL).box 0 _ rfl
    go_wp2_with (fail)
    refine (kidsS k _).mono ?_
    rintro x wx ⟨rfl, rfl⟩
    rw [hKK]
    by_cases hmore : xs.length < K ∧ bad = false
    · obtain ⟨hlt2, rfl⟩ := hmore
      have i1 : (xs.length : Int) < (K : Int) := by omega
      have hAs : A ≤ s.size := ((unhide hI).go rfl).1
      go_wp2_with (fail)
      refine (wantR b s A false 32 _ (unhide hL).es.rd (by omega) (by omega) (by decide)).mono ?_
      rintro x w6 ⟨rfl, b6, p6, g6, F6⟩
      have L6 := hide ((unhide hL).next g6 p6)
      have HF6 := hide F6
      have ha6 : b6 = false → A + 1 ≤ s.size := fun h => (F6.2.1 h).1
      clear p6 g6 F6 hL c0 c1 c2 f1 f2 v0
      obtain ⟨ka, kc, rfl⟩ := (unhide L6).ks.form
      obtain ⟨v3, fz3⟩ := (unhide L6).box 3 _ rfl
      have HWR : Hid (IntKind.i64.wrap (D + 1) = 9 - (d : Int)) := hide (by rw [IntWalk.i64_in _ ⟨by omega, by omega⟩]; have := unhide HD; omega)
      have HKID : Hid (∀ (e : Ex) ka' kc' ta' tc' (W7 : World), EV w6.heap.size W7.heap.size W7 d (exV e ka' kc' ta' tc') e → w6.heap.size ≤ W7.heap.size → ∀ o, Kid (W7.alloc o) (q + 1) (Value.slice ka xs.length kc).ownBlock d (e, .slice ka' e.kids.length kc', .slice ta' e.tiers.length tc')) := hide (fun e ka' kc' ta' tc' W7 hEV hz o => by
        obtain ⟨kv', tv', h1, h2, h3, h4⟩ := hEV
        simp only [exV, Value.agg.injEq, Array.mk.injEq, List.cons.injEq, true_and, and_true] at h1
        obtain ⟨rfl, rfl⟩ := h1
        have hs : Same w6.heap.size W7.heap.size W7 (W7.alloc o) := fun j _ hj => Below.heap_alloc W7 o j hj
        refine ⟨h2, w6.heap.size, W7.heap.size, h3.kept hs, h4.kept hs, by have := (unhide L6).hq; omega, by simp, fun g hg => ?_⟩
        exact .inl ((unhide L6).ks.blk g hg).2)
      go_wp2
      go_region_law (first | (go_simp; go_at_call 51; refine (exprAny (unhide HC) b s (A + 1) b6 (IntKind.i64.wrap (D + 1)) w6.drew (unhide HWR) ((unhide L6).below below_dw).es.rd (by omega) (by omega) ha6).mono ?_; rintro x W7 ⟨v, rfl, e, a7, b7, hEV, ⟨hP7, hG7⟩, ha7, h71, h72, h73⟩; obtain ⟨ka', kc', ta', tc', rfl⟩ := hEV.form; have L7 := hide (((unhide L6).below below_dw).next hG7 hP7); have hz7 : w6.heap.size ≤ W7.heap.size := hG7.size; have V7 := hide (unhide HKID e ka' kc' ta' tc' W7 hEV hz7); have H71 := hide h71; have H72 := hide h72; have H73 := hide h73; have v37 := ((unhide L7).box 3 _ rfl).1; have fz37 := ((unhide L7).box 3 _ rfl).2; have hq7 := (unhide L7).hq; clear hP7 hG7 h71 h72 h73 hEV) | (refine stepAppK _ rfl _ _ rfl (q + 1) W7.heap.size d xs.length (.slice ka xs.length kc) xs (e, .slice ka' e.kids.length kc', .slice ta' e.tiers.length tc') rfl rfl ((unhide L7).ks.kept (World.grownBy_alloc W7 _ none) (by simp)) rfl (MapKept.heap_alloc W7 _).1 (unhide V7 _) (by omega) (by rw [World.size_alloc]; omega) ?_; intro g' c' w8 hKS hgr hat; have hne8 : some q ≠ (Value.slice ka xs.length kc).ownBlock := fun h => (by have := ((unhide L7).ks.blk q h.symm).1; omega); have hb8 := hgr.block q (by rw [World.size_alloc]; omega) hne8; have hbx8 := At.kept (unhide L7).box (hb8.trans (Below.heap_alloc W7 _ q (by omega))); have v38 := (hbx8 3 _ rfl).1; have fz38 := (hbx8 3 _ rfl).2; have HKS := hide hKS; have HGR := hide hgr; clear hKS hgr hat hb8 hbx8 hne8))
      all_goals (have L8 := hide ((unhide L7).app _ (unhide HGR) (unhide HKS)))
      all_goals (have HI8 := hide ((unhide hI).next (by simp; omega) (unhide HF6) (unhide H71) (unhide H72) (unhide H73)))
      all_goals clear HGR HKS L7 L6 HF6 H71 H72 H73 V7 HKID v37 fz37 v38 fz38 v3 fz3 hI
      all_goals go_wp2
      all_goals exact ⟨⟨xs ++ [(e, .slice ka' e.kids.length kc', .slice ta' e.tiers.length tc')], _, a7, b7, by rw [List.length_append]; go_num, by simp; omega, by omega, L8, by rw [List.map_append]; exact HI8⟩, by simp [intOf]; omega⟩
    · have hX : KX (kidS (exprS d) K (left s a3)) s (xs.map (·.1)) A bad := ⟨fun h => (by subst h; exact (unhide hI).done (by rw [List.length_map]; exact Nat.le_of_not_lt (fun h' => hmore ⟨h', rfl⟩))), fun h => (unhide hI).no h⟩
      have HX := hide hX
      clear hX hI c0 c1 c2 f1 f2 v0
      obtain ⟨ka, kc, rfl⟩ := (unhide hL).ks.form
      by_cases hlt3 : xs.length < K
      · have i1 : (xs.length : Int) < (K : Int) := by omega
        obtain rfl : bad = true := by
          cases bad with
          | true => rfl
          | false => exact absurd ⟨hlt3, rfl⟩ hmore
        clear hmore
        by_cases k6 : k = 6
        · subst k6
          have t6 : ((6 : Int) == 6) = true := by decide
          have t10 : ((6 : Int) == 10) = false := by decide
          obtain ⟨⟨c0, c1, c2⟩, f1, f2⟩ := (unhide hL).es.rd.cells
          obtain ⟨v0, _⟩ := (unhide hL).box 0 _ rfl
          go_wp2_with (fail)
          refine (wantR b s A true 32 _ (unhide hL).es.rd (by omega) (by omega) (by decide)).mono ?_
          rintro x w6 ⟨rfl, b6, p6, g6, F6⟩
          have L6 := hide ((unhide hL).next g6 p6)
          have HF6 := hide F6
          clear p6 g6 F6 hL c0 c1 c2 f1 f2 v0
          go_wp2_with (fail)
          refine (numR b s (A + 1) b6 _ (unhide L6).es.rd (by omega) (by omega)).mono ?_
          rintro x w7 ⟨n7, A7, b7, rfl, ⟨p7, g7⟩, ha7, F7, N7⟩
          have L7 := hide ((unhide L6).next g7 p7)
          have HF7 := hide F7
          have HN7 := hide N7
          clear p7 g7 F7 N7 L6
          have hq7 := (unhide L7).hq
          have hb7 := (unhide L7).es.bw
          obtain ⟨m0, _⟩ := (unhide L7).box 0 _ rfl
          obtain ⟨m1, fm1⟩ := (unhide L7).box 1 _ rfl
          have L8 := hide ((unhide L7).setN n7)
          obtain ⟨W8, hW8⟩ : ∃ W, w7.setCell ⟨q, 1, none⟩ (.int .i64 n7) = W := ⟨_, rfl⟩
          rw [hW8] at L8
          obtain ⟨mm0, _⟩ := (unhide L8).box 0 _ rfl
          clear L7
          go_wp2_with (fail)
          refine (wantR b s A7 b7 41 _ (unhide L8).es.rd (by omega) (by omega) (by decide)).mono ?_
          rintro x w9 ⟨rfl, bad9, p9, g9, F9⟩
          have L9 := hide ((unhide L8).next g9 p9)
          have HF9 := hide F9
          clear p9 g9 F9 m0 m1 fm1 mm0 hW8
          have hq9 := (unhide L9).hq
          have hrb := (unhide L9).es.box
          obtain ⟨u0, y0⟩ := hrb 0 _ rfl
          obtain ⟨u1, y1⟩ := hrb 1 _ rfl
          obtain ⟨u2, y2⟩ := hrb 2 _ rfl
          obtain ⟨u3, y3⟩ := hrb 3 _ rfl
          obtain ⟨u4, y4⟩ := hrb 4 _ rfl
          obtain ⟨v0, _⟩ := (unhide L9).box 0 _ rfl
          obtain ⟨v1, _⟩ := (unhide L9).box 1 _ rfl
          obtain ⟨v2, _⟩ := (unhide L9).box 2 _ rfl
          obtain ⟨v3, _⟩ := (unhide L9).box 3 _ rfl
          obtain ⟨v4, _⟩ := (unhide L9).box 4 _ rfl
          clear hrb
          go_wp2_with (fail)
          obtain ⟨o1, o2, o3⟩ := (unhide L9).es.out (k := 6) (n := n7) (m := ⟨#[]⟩) (kv := .slice ka xs.length kc) (tv := .slice none 0 0) (d := d + 1) (ks := xs.map (·.1)) (ts := []) (by decide) (by decide) ((unhide L9).esk (by omega)) (.inl ⟨rfl, _, _, rfl⟩)
          have oo := put5_at (unhide L9).es.box (.int .i64 6) (.int .i64 n7) (.string ⟨#[]⟩) (.slice ka xs.length kc) (.slice none 0 0)
          obtain ⟨t0, _⟩ := oo 0 _ rfl
          obtain ⟨t1, _⟩ := oo 1 _ rfl
          obtain ⟨t2, _⟩ := oo 2 _ rfl
          obtain ⟨t3, _⟩ := oo 3 _ rfl
          obtain ⟨t4, _⟩ := oo 4 _ rfl
          refine bodyPost_ret (v := .agg #[.int .i64 6, .int .i64 n7, .string ⟨#[]⟩, .slice ka xs.length kc, .slice none 0 0]) (by simp [results, Tryz.results51, go_sem, t0, t1, t2, t3, t4]) rfl ⟨_, rfl, _, A7 + 1, bad9, o1, ⟨o2, o3⟩, by omega, ?_, ?_⟩
          · exact (fin_six (unhide HM) (unhide HX) (unhide HF6) (unhide HF7) (unhide HN7) (unhide HF9)).1
          · exact (fin_six (unhide HM) (unhide HX) (unhide HF6) (unhide HF7) (unhide HN7) (unhide HF9)).2
        by_cases k10 : k = 10
        · subst k10
          have t6 : ((10 : Int) == 6) = false := by decide
          have t10 : ((10 : Int) == 10) = true := by decide
          obtain ⟨⟨c0, c1, c2⟩, f1, f2⟩ := (unhide hL).es.rd.cells
          obtain ⟨v0, _⟩ := (unhide hL).box 0 _ rfl
          go_wp2_with (fail)
          refine (tiersAny b s A true _ (unhide hL).es.rd (by omega) (by omega) (fun h => ((unhide HX).1 h).1)).mono ?_
          rintro x w7 ⟨l7, g7b, c7, A7, b7, rfl, hO7, ⟨p7, g7⟩, hl7, ha7, t71, t72, t73⟩
          have L7 := hide ((unhide hL).next g7 p7)
          have hzz : (unhide hL).hq.2 = (unhide hL).hq.2 := rfl
          have HO7 := hide (OwnT.low hO7 (by have := (unhide hL).hq; omega : q + 1 ≤ _))
          have H71 := hide t71
          have H72 := hide t72
          have H73 := hide t73
          clear p7 g7 hO7 t71 t72 t73 hL c0 c1 c2 f1 f2 v0 hzz
          have hq7 := (unhide L7).hq
          have hb7 := (unhide L7).es.bw
          obtain ⟨m0, _⟩ := (unhide L7).box 0 _ rfl
          obtain ⟨m1, fm1⟩ := (unhide L7).box 4 _ rfl
          have L8 := hide ((unhide L7).setT (.slice (some ⟨g7b, 0, none⟩) l7.length c7))
          have HO8 := hide ((unhide HO7).kept (gb_set w7 q 4 (.slice (some ⟨g7b, 0, none⟩) l7.length c7)) (by have := (unhide HO7).lt; simp; omega))
          obtain ⟨W8, hW8⟩ : ∃ W, w7.setCell ⟨q, 4, none⟩ (.slice (some ⟨g7b, 0, none⟩) l7.length c7) = W := ⟨_, rfl⟩
          rw [hW8] at L8 HO8
          obtain ⟨mm0, _⟩ := (unhide L8).box 0 _ rfl
          clear L7 HO7
          go_wp2_with (fail)
          refine (wantR b s A7 b7 41 _ (unhide L8).es.rd (by omega) (by omega) (by decide)).mono ?_
          rintro x w9 ⟨rfl, bad9, p9, g9, F9⟩
          have L9 := hide ((unhide L8).next g9 p9)
          have HF9 := hide F9
          have HO9 := hide ((unhide HO8).kept g9 (by have := (unhide HO8).lt; simp; omega))
          clear p9 g9 F9 m0 m1 fm1 mm0 hW8 HO8
          have hq9 := (unhide L9).hq
          have hrb := (unhide L9).es.box
          obtain ⟨u0, y0⟩ := hrb 0 _ rfl
          obtain ⟨u1, y1⟩ := hrb 1 _ rfl
          obtain ⟨u2, y2⟩ := hrb 2 _ rfl
          obtain ⟨u3, y3⟩ := hrb 3 _ rfl
          obtain ⟨u4, y4⟩ := hrb 4 _ rfl
          obtain ⟨v0, _⟩ := (unhide L9).box 0 _ rfl
          obtain ⟨v1, _⟩ := (unhide L9).box 1 _ rfl
          obtain ⟨v2, _⟩ := (unhide L9).box 2 _ rfl
          obtain ⟨v3, _⟩ := (unhide L9).box 3 _ rfl
          obtain ⟨v4, _⟩ := (unhide L9).box 4 _ rfl
          clear hrb
          go_wp2_with (fail)
          obtain ⟨o1, o2, o3⟩ := (unhide L9).es.out (k := 10) (n := 0) (m := ⟨#[]⟩) (kv := .slice ka xs.length kc) (tv := .slice (some ⟨g7b, 0, none⟩) l7.length c7) (d := d + 1) (ks := xs.map (·.1)) (ts := l7) (by decide) (by unfold maxLen; omega) ((unhide L9).esk (by omega)) ((OwnT.tl (unhide HO9)).mono (by have := (unhide L9).hq; omega) (Nat.le_refl _))
          have oo := put5_at (unhide L9).es.box (.int .i64 10) (.int .i64 0) (.string ⟨#[]⟩) (.slice ka xs.length kc) (.slice (some ⟨g7b, 0, none⟩) l7.length c7)
          obtain ⟨t0, _⟩ := oo 0 _ rfl
          obtain ⟨t1, _⟩ := oo 1 _ rfl
          obtain ⟨t2, _⟩ := oo 2 _ rfl
          obtain ⟨t3, _⟩ := oo 3 _ rfl
          obtain ⟨t4, _⟩ := oo 4 _ rfl
          refine bodyPost_ret (v := .agg #[.int .i64 10, .int .i64 0, .string ⟨#[]⟩, .slice ka xs.length kc, .slice (some ⟨g7b, 0, none⟩) l7.length c7]) (by simp [results, Tryz.results51, go_sem, t0, t1, t2, t3, t4]) rfl ⟨_, rfl, _, A7 + 1, bad9, o1, ⟨o2, o3⟩, by omega, ?_, ?_⟩
          · exact (fin_ten (unhide HM) (unhide HX) (fun _ => unhide H71 trivial) (unhide H72) (fun _ => .inl rfl) (unhide HF9)).1
          · exact (fin_ten (unhide HM) (unhide HX) (fun _ => unhide H71 trivial) (unhide H72) (fun _ => .inl rfl) (unhide HF9)).2
        have t6 : (k == 6) = false := by simpa using k6
        have t10 : (k == 10) = false := by simpa using k10
        obtain ⟨⟨c0, c1, c2⟩, f1, f2⟩ := (unhide hL).es.rd.cells
        obtain ⟨v0, _⟩ := (unhide hL).box 0 _ rfl
        go_wp2_with (fail)
        refine (wantR b s A true 41 _ (unhide hL).es.rd (by omega) (by omega) (by decide)).mono ?_
        rintro x w9 ⟨rfl, bad9, p9, g9, F9⟩
        have L9 := hide ((unhide hL).next g9 p9)
        have HF9 := hide F9
        clear p9 g9 F9 c0 c1 c2 f1 f2 v0
        have hq9 := (unhide L9).hq
        have hrb := (unhide L9).es.box
        obtain ⟨u0, y0⟩ := hrb 0 _ rfl
        obtain ⟨u1, y1⟩ := hrb 1 _ rfl
        obtain ⟨u2, y2⟩ := hrb 2 _ rfl
        obtain ⟨u3, y3⟩ := hrb 3 _ rfl
        obtain ⟨u4, y4⟩ := hrb 4 _ rfl
        obtain ⟨v0, _⟩ := (unhide L9).box 0 _ rfl
        obtain ⟨v1, _⟩ := (unhide L9).box 1 _ rfl
        obtain ⟨v2, _⟩ := (unhide L9).box 2 _ rfl
        obtain ⟨v3, _⟩ := (unhide L9).box 3 _ rfl
        obtain ⟨v4, _⟩ := (unhide L9).box 4 _ rfl
        clear hrb
        go_wp2_with (fail)
        obtain ⟨o1, o2, o3⟩ := (unhide L9).es.out (k := k) (n := 0) (m := ⟨#[]⟩) (kv := .slice ka xs.length kc) (tv := .slice none 0 0) (d := d + 1) (ks := xs.map (·.1)) (ts := []) (by decide) (by decide) ((unhide L9).esk (by omega)) (.inl ⟨rfl, _, _, rfl⟩)
        have oo := put5_at (unhide L9).es.box (.int .i64 k) (.int .i64 0) (.string ⟨#[]⟩) (.slice ka xs.length kc) (.slice none 0 0)
        obtain ⟨t0, _⟩ := oo 0 _ rfl
        obtain ⟨t1, _⟩ := oo 1 _ rfl
        obtain ⟨t2, _⟩ := oo 2 _ rfl
        obtain ⟨t3, _⟩ := oo 3 _ rfl
        obtain ⟨t4, _⟩ := oo 4 _ rfl
        refine bodyPost_ret (v := .agg #[.int .i64 k, .int .i64 0, .string ⟨#[]⟩, .slice ka xs.length kc, .slice none 0 0]) (by simp [results, Tryz.results51, go_sem, t0, t1, t2, t3, t4]) rfl ⟨_, rfl, _, A + 1, bad9, o1, ⟨o2, o3⟩, by omega, ?_, ?_⟩
        · exact (fin_other (unhide HM) k6 k10 (unhide HX) (unhide HF9)).1
        · exact (fin_other (unhide HM) k6 k10 (unhide HX) (unhide HF9)).2
      · have i1 : ¬ ((xs.length : Int) < (K : Int)) := by omega
        clear hmore
        by_cases k6 : k = 6
        · subst k6
          have t6 : ((6 : Int) == 6) = true := by decide
          have t10 : ((6 : Int) == 10) = false := by decide
          obtain ⟨⟨c0, c1, c2⟩, f1, f2⟩ := (unhide hL).es.rd.cells
          obtain ⟨v0, _⟩ := (unhide hL).box 0 _ rfl
          go_wp2_with (fail)
          refine (wantR b s A bad 32 _ (unhide hL).es.rd (by omega) (by omega) (by decide)).mono ?_
          rintro x w6 ⟨rfl, b6, p6, g6, F6⟩
          have L6 := hide ((unhide hL).next g6 p6)
          have HF6 := hide F6
          clear p6 g6 F6 hL c0 c1 c2 f1 f2 v0
          go_wp2_with (fail)
          refine (numR b s (A + 1) b6 _ (unhide L6).es.rd (by omega) (by omega)).mono ?_
          rintro x w7 ⟨n7, A7, b7, rfl, ⟨p7, g7⟩, ha7, F7, N7⟩
          have L7 := hide ((unhide L6).next g7 p7)
          have HF7 := hide F7
          have HN7 := hide N7
          clear p7 g7 F7 N7 L6
          have hq7 := (unhide L7).hq
          have hb7 := (unhide L7).es.bw
          obtain ⟨m0, _⟩ := (unhide L7).box 0 _ rfl
          obtain ⟨m1, fm1⟩ := (unhide L7).box 1 _ rfl
          have L8 := hide ((unhide L7).setN n7)
          obtain ⟨W8, hW8⟩ : ∃ W, w7.setCell ⟨q, 1, none⟩ (.int .i64 n7) = W := ⟨_, rfl⟩
          rw [hW8] at L8
          obtain ⟨mm0, _⟩ := (unhide L8).box 0 _ rfl
          clear L7
          go_wp2_with (fail)
          refine (wantR b s A7 b7 41 _ (unhide L8).es.rd (by omega) (by omega) (by decide)).mono ?_
          rintro x w9 ⟨rfl, bad9, p9, g9, F9⟩
          have L9 := hide ((unhide L8).next g9 p9)
          have HF9 := hide F9
          clear p9 g9 F9 m0 m1 fm1 mm0 hW8
          have hq9 := (unhide L9).hq
          have hrb := (unhide L9).es.box
          obtain ⟨u0, y0⟩ := hrb 0 _ rfl
          obtain ⟨u1, y1⟩ := hrb 1 _ rfl
          obtain ⟨u2, y2⟩ := hrb 2 _ rfl
          obtain ⟨u3, y3⟩ := hrb 3 _ rfl
          obtain ⟨u4, y4⟩ := hrb 4 _ rfl
          obtain ⟨v0, _⟩ := (unhide L9).box 0 _ rfl
          obtain ⟨v1, _⟩ := (unhide L9).box 1 _ rfl
          obtain ⟨v2, _⟩ := (unhide L9).box 2 _ rfl
          obtain ⟨v3, _⟩ := (unhide L9).box 3 _ rfl
          obtain ⟨v4, _⟩ := (unhide L9).box 4 _ rfl
          clear hrb
          go_wp2_with (fail)
          obtain ⟨o1, o2, o3⟩ := (unhide L9).es.out (k := 6) (n := n7) (m := ⟨#[]⟩) (kv := .slice ka xs.length kc) (tv := .slice none 0 0) (d := d + 1) (ks := xs.map (·.1)) (ts := []) (by decide) (by decide) ((unhide L9).esk (by omega)) (.inl ⟨rfl, _, _, rfl⟩)
          have oo := put5_at (unhide L9).es.box (.int .i64 6) (.int .i64 n7) (.string ⟨#[]⟩) (.slice ka xs.length kc) (.slice none 0 0)
          obtain ⟨t0, _⟩ := oo 0 _ rfl
          obtain ⟨t1, _⟩ := oo 1 _ rfl
          obtain ⟨t2, _⟩ := oo 2 _ rfl
          obtain ⟨t3, _⟩ := oo 3 _ rfl
          obtain ⟨t4, _⟩ := oo 4 _ rfl
          refine bodyPost_ret (v := .agg #[.int .i64 6, .int .i64 n7, .string ⟨#[]⟩, .slice ka xs.length kc, .slice none 0 0]) (by simp [results, Tryz.results51, go_sem, t0, t1, t2, t3, t4]) rfl ⟨_, rfl, _, A7 + 1, bad9, o1, ⟨o2, o3⟩, by omega, ?_, ?_⟩
          · exact (fin_six (unhide HM) (unhide HX) (unhide HF6) (unhide HF7) (unhide HN7) (unhide HF9)).1
          · exact (fin_six (unhide HM) (unhide HX) (unhide HF6) (unhide HF7) (unhide HN7) (unhide HF9)).2
        by_cases k10 : k = 10
        · subst k10
          have t6 : ((10 : Int) == 6) = false := by decide
          have t10 : ((10 : Int) == 10) = true := by decide
          obtain ⟨⟨c0, c1, c2⟩, f1, f2⟩ := (unhide hL).es.rd.cells
          obtain ⟨v0, _⟩ := (unhide hL).box 0 _ rfl
          go_wp2_with (fail)
          refine (tiersAny b s A bad _ (unhide hL).es.rd (by omega) (by omega) (fun h => ((unhide HX).1 h).1)).mono ?_
          rintro x w7 ⟨l7, g7b, c7, A7, b7, rfl, hO7, ⟨p7, g7⟩, hl7, ha7, t71, t72, t73⟩
          have L7 := hide ((unhide hL).next g7 p7)
          have hzz : (unhide hL).hq.2 = (unhide hL).hq.2 := rfl
          have HO7 := hide (OwnT.low hO7 (by have := (unhide hL).hq; omega : q + 1 ≤ _))
          have H71 := hide t71
          have H72 := hide t72
          have H73 := hide t73
          clear p7 g7 hO7 t71 t72 t73 hL c0 c1 c2 f1 f2 v0 hzz
          have hq7 := (unhide L7).hq
          have hb7 := (unhide L7).es.bw
          obtain ⟨m0, _⟩ := (unhide L7).box 0 _ rfl
          obtain ⟨m1, fm1⟩ := (unhide L7).box 4 _ rfl
          have L8 := hide ((unhide L7).setT (.slice (some ⟨g7b, 0, none⟩) l7.length c7))
          have HO8 := hide ((unhide HO7).kept (gb_set w7 q 4 (.slice (some ⟨g7b, 0, none⟩) l7.length c7)) (by have := (unhide HO7).lt; simp; omega))
          obtain ⟨W8, hW8⟩ : ∃ W, w7.setCell ⟨q, 4, none⟩ (.slice (some ⟨g7b, 0, none⟩) l7.length c7) = W := ⟨_, rfl⟩
          rw [hW8] at L8 HO8
          obtain ⟨mm0, _⟩ := (unhide L8).box 0 _ rfl
          clear L7 HO7
          go_wp2_with (fail)
          refine (wantR b s A7 b7 41 _ (unhide L8).es.rd (by omega) (by omega) (by decide)).mono ?_
          rintro x w9 ⟨rfl, bad9, p9, g9, F9⟩
          have L9 := hide ((unhide L8).next g9 p9)
          have HF9 := hide F9
          have HO9 := hide ((unhide HO8).kept g9 (by have := (unhide HO8).lt; simp; omega))
          clear p9 g9 F9 m0 m1 fm1 mm0 hW8 HO8
          have hq9 := (unhide L9).hq
          have hrb := (unhide L9).es.box
          obtain ⟨u0, y0⟩ := hrb 0 _ rfl
          obtain ⟨u1, y1⟩ := hrb 1 _ rfl
          obtain ⟨u2, y2⟩ := hrb 2 _ rfl
          obtain ⟨u3, y3⟩ := hrb 3 _ rfl
          obtain ⟨u4, y4⟩ := hrb 4 _ rfl
          obtain ⟨v0, _⟩ := (unhide L9).box 0 _ rfl
          obtain ⟨v1, _⟩ := (unhide L9).box 1 _ rfl
          obtain ⟨v2, _⟩ := (unhide L9).box 2 _ rfl
          obtain ⟨v3, _⟩ := (unhide L9).box 3 _ rfl
          obtain ⟨v4, _⟩ := (unhide L9).box 4 _ rfl
          clear hrb
          go_wp2_with (fail)
          obtain ⟨o1, o2, o3⟩ := (unhide L9).es.out (k := 10) (n := 0) (m := ⟨#[]⟩) (kv := .slice ka xs.length kc) (tv := .slice (some ⟨g7b, 0, none⟩) l7.length c7) (d := d + 1) (ks := xs.map (·.1)) (ts := l7) (by decide) (by unfold maxLen; omega) ((unhide L9).esk (by omega)) ((OwnT.tl (unhide HO9)).mono (by have := (unhide L9).hq; omega) (Nat.le_refl _))
          have oo := put5_at (unhide L9).es.box (.int .i64 10) (.int .i64 0) (.string ⟨#[]⟩) (.slice ka xs.length kc) (.slice (some ⟨g7b, 0, none⟩) l7.length c7)
          obtain ⟨t0, _⟩ := oo 0 _ rfl
          obtain ⟨t1, _⟩ := oo 1 _ rfl
          obtain ⟨t2, _⟩ := oo 2 _ rfl
          obtain ⟨t3, _⟩ := oo 3 _ rfl
          obtain ⟨t4, _⟩ := oo 4 _ rfl
          refine bodyPost_ret (v := .agg #[.int .i64 10, .int .i64 0, .string ⟨#[]⟩, .slice ka xs.length kc, .slice (some ⟨g7b, 0, none⟩) l7.length c7]) (by simp [results, Tryz.results51, go_sem, t0, t1, t2, t3, t4]) rfl ⟨_, rfl, _, A7 + 1, bad9, o1, ⟨o2, o3⟩, by omega, ?_, ?_⟩
          · exact (fin_ten (unhide HM) (unhide HX) (unhide H71) (unhide H72) (unhide H73) (unhide HF9)).1
          · exact (fin_ten (unhide HM) (unhide HX) (unhide H71) (unhide H72) (unhide H73) (unhide HF9)).2
        have t6 : (k == 6) = false := by simpa using k6
        have t10 : (k == 10) = false := by simpa using k10
        obtain ⟨⟨c0, c1, c2⟩, f1, f2⟩ := (unhide hL).es.rd.cells
        obtain ⟨v0, _⟩ := (unhide hL).box 0 _ rfl
        go_wp2_with (fail)
        refine (wantR b s A bad 41 _ (unhide hL).es.rd (by omega) (by omega) (by decide)).mono ?_
        rintro x w9 ⟨rfl, bad9, p9, g9, F9⟩
        have L9 := hide ((unhide hL).next g9 p9)
        have HF9 := hide F9
        clear p9 g9 F9 c0 c1 c2 f1 f2 v0
        have hq9 := (unhide L9).hq
        have hrb := (unhide L9).es.box
        obtain ⟨u0, y0⟩ := hrb 0 _ rfl
        obtain ⟨u1, y1⟩ := hrb 1 _ rfl
        obtain ⟨u2, y2⟩ := hrb 2 _ rfl
        obtain ⟨u3, y3⟩ := hrb 3 _ rfl
        obtain ⟨u4, y4⟩ := hrb 4 _ rfl
        obtain ⟨v0, _⟩ := (unhide L9).box 0 _ rfl
        obtain ⟨v1, _⟩ := (unhide L9).box 1 _ rfl
        obtain ⟨v2, _⟩ := (unhide L9).box 2 _ rfl
        obtain ⟨v3, _⟩ := (unhide L9).box 3 _ rfl
        obtain ⟨v4, _⟩ := (unhide L9).box 4 _ rfl
        clear hrb
        go_wp2_with (fail)
        obtain ⟨o1, o2, o3⟩ := (unhide L9).es.out (k := k) (n := 0) (m := ⟨#[]⟩) (kv := .slice ka xs.length kc) (tv := .slice none 0 0) (d := d + 1) (ks := xs.map (·.1)) (ts := []) (by decide) (by decide) ((unhide L9).esk (by omega)) (.inl ⟨rfl, _, _, rfl⟩)
        have oo := put5_at (unhide L9).es.box (.int .i64 k) (.int .i64 0) (.string ⟨#[]⟩) (.slice ka xs.length kc) (.slice none 0 0)
        obtain ⟨t0, _⟩ := oo 0 _ rfl
        obtain ⟨t1, _⟩ := oo 1 _ rfl
        obtain ⟨t2, _⟩ := oo 2 _ rfl
        obtain ⟨t3, _⟩ := oo 3 _ rfl
        obtain ⟨t4, _⟩ := oo 4 _ rfl
        refine bodyPost_ret (v := .agg #[.int .i64 k, .int .i64 0, .string ⟨#[]⟩, .slice ka xs.length kc, .slice none 0 0]) (by simp [results, Tryz.results51, go_sem, t0, t1, t2, t3, t4]) rfl ⟨_, rfl, _, A + 1, bad9, o1, ⟨o2, o3⟩, by omega, ?_, ?_⟩
        · exact (fin_other (unhide HM) k6 k10 (unhide HX) (unhide HF9)).1
        · exact (fin_other (unhide HM) k6 k10 (unhide HX) (unhide HF9)).2

theorem exprC : ∀ d, d ≤ 8 → ExprC d
  | 0, _ => expr0
  | d + 1, h => exprN (exprC d (by omega)) (by omega)
end Go.Proofs.YtnchgeiinkaefaaGreatDoor.Rule
end
