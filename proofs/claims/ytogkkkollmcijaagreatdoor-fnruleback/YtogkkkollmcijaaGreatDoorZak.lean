/-
  Texts of this proof laid together, in build order; each says of itself what it holds.
-/
import Derived.Test.YtogkkkollmcijaaGreatDoorZac
import Derived.Test.YtogkkkollmcijaaGreatDoorZag
import Derived.Deep.RegionHeld3
import Derived.Test.YtogkkkollmcijaaGreatDoorZaf
import Derived.Deep.QuietTactic
import Derived.BigQuiet
import Derived.Test.YtogkkkollmcijaaGreatDoorZae
import Derived.Shelf.Strings.Builder1
import Derived.Shelf.Strings.Builder2
import Derived.Shelf.Strings.OnBuilder
import Derived.Shelf.Small.Utf8
import Derived.Shelf.Small.Strs
import Derived.Shelf.Small.Wraps
import Derived.Shelf.Strconv.Atoi
import Derived.Shelf.Strconv.Itoa0
import Derived.Shelf.Strconv.Itoa1
import Derived.Shelf.LaysM
import Derived.Shelf.Strconv.Itoa2
import Derived.Shelf.Strconv.Itoa3
import Derived.Shelf.Strconv.AtoiErrFast
import Derived.Shelf.Strconv.ParseIntEmpty
import Derived.Shelf.Strconv.AtoiFail
import Derived.Shelf.Strconv.Clone
import Derived.Shelf.Strconv.SyntaxError
import Derived.Shelf.LaysC
import Derived.Shelf.Strconv.ToError
import Derived.Shelf.Strconv.Lower
import Derived.Shelf.Strconv.ParseUint10
import Derived.Shelf.Strconv.ParseUint10Empty
import Derived.Shelf.Strconv.ParseUint10Any
import Derived.Shelf.Strconv.ParseInt10
import Derived.Shelf.Strconv.AtoiLong
import Derived.Shelf.Strconv.AtoiInnerAll
import Derived.Shelf.Strconv.RangeError
import Derived.Shelf.Strconv.ToErrorRange
import Derived.Shelf.Strconv.AtoiAll
import Derived.Shelf.Strconv.ErrVarAll
import Derived.Shelf.Strings.Search1
import Derived.Shelf.Strings.Search2
import Derived.Shelf.Strings.Cut
import Derived.Shelf.Strings.Shaped
import Derived.Shelf.Strings.Prefix
import Derived.Shelf.Strings.Fields
import Derived.Shelf.Strings.SplitShaped
import Derived.Shelf.Unicode.Latin
import Derived.Shelf.Strings.Runes
import Derived.Shelf.Strings.IndexAny
import Derived.Shelf.Strings.AsciiSet
import Derived.Shelf.Strings.IndexAnyAll
import Derived.Shelf.Unicode.Is16White
import Derived.Shelf.Unicode.IsSpaceAny
import Derived.Shelf.Unicode.Is16Any
import Derived.Shelf.Unicode.Is32Any
import Derived.Shelf.Unicode.ExclAny
import Derived.Test.YtogkkkollmcijaaGreatDoorProg
section
/-
  The law's own comparison of expressions (wrSame), of one and the same in two places.
-/
namespace Go.Proofs.YtogkkkollmcijaaGreatDoor.Rule
set_option linter.unusedVariables false
open Go.RowKit
open Tiers (T T0 TR hide unhide below_trans)

theorem TL.at {lo hi : Nat} {W : World} {a : Option Addr} {c : Nat} {l : List T} (h : TL lo hi W (.slice a l.length c) l) {k : Nat} (hk : k < l.length) : ∃ b o, a = some ⟨b, o, none⟩ ∧ b < hi ∧ W.cell? ⟨b, o + k * 2, none⟩ = some (.int .i64 (l.getD k T0).1) ∧ W.cell? ⟨b, o + k * 2 + 1, none⟩ = some (.int .i64 (l.getD k T0).2) := by
  rcases h with ⟨rfl, _⟩ | ⟨b, o, cap, hv, _, h2, hc⟩
  · simp at hk
  · simp only [Value.slice.injEq] at hv
    exact ⟨b, o, hv.1, h2, hc k hk⟩
theorem TL.len {lo hi : Nat} {W : World} {v : Value} {l : List T} (h : TL lo hi W v l) : ∃ a c, v = .slice a l.length c := by
  rcases h with ⟨rfl, a, c, rfl⟩ | ⟨b, o, cap, rfl, _⟩
  · exact ⟨_, _, rfl⟩
  · exact ⟨_, _, rfl⟩
theorem drewB {w W : World} (h : Below w.heap.size w W) (n : Nat) : Below w.heap.size w (W.drewN n) := ⟨h.os, h.tape, h.output, h.size, h.block⟩

theorem ofDrew {B : Nat} {a w : World} (h : Below B a.drew w) : Below B a w := ⟨h.os, h.tape, h.output, h.size, h.block⟩

def WrE (d : Nat) : Prop := ∀ (lo hi lo' hi' d' : Nat) (v v' : Value) (e : Ex) (w : World), EV lo hi w d v e → EV lo' hi' w d' v' e → hi ≤ w.heap.size → hi' ≤ w.heap.size → wt e ≤ 1048576 →
  Calls Tryz.prog 10 #[v, v'] w fun x w' => x = .returned (.bool true) ∧ Below w.heap.size w w'

set_option maxHeartbeats 4000000 in
set_option maxRecDepth 100000 in
theorem wrE_of {d : Nat} (H : ∀ d0, d = d0 + 1 → WrE d0) : WrE d := by
  rintro lo hi lo' hi' d' v v' e w ⟨kv, tv, rfl, hz, hk, ht⟩ ⟨kv', tv', rfl, _, hk', ht'⟩ hhi hhi' hw
  obtain ⟨ka, kc, rfl, hkl⟩ := hk.form
  obtain ⟨ka', kc', rfl, _⟩ := hk'.form
  obtain ⟨ta, tc, rfl⟩ := ht.len
  obtain ⟨ta', tc', rfl⟩ := ht'.len
  have HS := hide H
  have HW := hide (wt_eq e)
  obtain ⟨k, q, m, ks, ts⟩ := e
  simp only [Ex.kind, Ex.num, Ex.meter, Ex.kids, Ex.tiers] at *
  generalize wt (.mk k q m ks ts) = WT at *
  have b1 : (k != k) = false := by simp
  have b2 : (q != q) = false := by simp
  have b3 : (!m.toList == m.toList) = false := by simp
  have b4 : ((ks.length : Int) != (ks.length : Int)) = false := by simp
  have b5 : ((ts.length : Int) != (ts.length : Int)) = false := by simp
  have n1 := At5.new w (.int .i64 k) (.int .i64 q) (.string m) (.slice ka ks.length kc) (.slice ta ts.length tc) 26
  have n2 := At5.new (w.alloc (.cells #[.int .i64 k, .int .i64 q, .string m, .slice ka ks.length kc, .slice ta ts.length tc] 26)) (.int .i64 k) (.int .i64 q) (.string m) (.slice ka' ks.length kc') (.slice ta' ts.length tc') 26
  simp only [World.size_alloc] at n2
  have B0 : Below w.heap.size w ((w.alloc (.cells #[.int .i64 k, .int .i64 q, .string m, .slice ka ks.length kc, .slice ta ts.length tc] 26)).alloc (.cells #[.int .i64 k, .int .i64 q, .string m, .slice ka' ks.length kc', .slice ta' ts.length tc'] 26)) := ((Below.refl _ w).alloc (Nat.le_refl _) _).alloc (by simp) _
  have hzA : ((w.alloc (.cells #[.int .i64 k, .int .i64 q, .string m, .slice ka ks.length kc, .slice ta ts.length tc] 26)).alloc (.cells #[.int .i64 k, .int .i64 q, .string m, .slice ka' ks.length kc', .slice ta' ts.length tc'] 26)).heap.size = w.heap.size + 2 := by simp
  have hzb : w.heap.size < w.heap.size + 2 := by omega
  go_enter Tryz.func10, Tryz.ntmps10
  obtain ⟨wA, hwA⟩ : ∃ wA, (w.alloc (.cells #[.int .i64 k, .int .i64 q, .string m, .slice ka ks.length kc, .slice ta ts.length tc] 26)).alloc (.cells #[.int .i64 k, .int .i64 q, .string m, .slice ka' ks.length kc', .slice ta' ts.length tc'] 26) = wA := ⟨_, rfl⟩
  rw [hwA] at B0 n2 hzA
  have HA := hide hwA
  have n1' : At5 wA w.heap.size (.int .i64 k) (.int .i64 q) (.string m) (.slice ka ks.length kc) (.slice ta ts.length tc) := by
    rw [← hwA]; exact n1.kept (Below.heap_alloc _ _ _ (by simp))
  have N : Hid (∀ w1, Below wA.heap.size wA w1 → At5 w1 w.heap.size (.int .i64 k) (.int .i64 q) (.string m) (.slice ka ks.length kc) (.slice ta ts.length tc) ∧ At5 w1 (w.heap.size + 1) (.int .i64 k) (.int .i64 q) (.string m) (.slice ka' ks.length kc') (.slice ta' ts.length tc') ∧ (Below w.heap.size w w1 ∧ w.heap.size + 2 ≤ w1.heap.size) ∧
      (ES lo hi w1 d (.slice ka ks.length kc) ks ∧ ES lo' hi' w1 d' (.slice ka' ks.length kc') ks) ∧ TL lo hi w1 (.slice ta ts.length tc) ts ∧ TL lo' hi' w1 (.slice ta' ts.length tc') ts) := hide (fun w1 hb => by
    have hB : Below w.heap.size w w1 := B0.trans (hb.mono (by omega))
    exact ⟨n1'.kept (hb.block _ (by omega)), n2.kept (hb.block _ (by omega)), ⟨hB, by have := hb.size; omega⟩, ⟨hk.kept (same_below hB hhi), hk'.kept (same_below hB hhi')⟩, ht.kept (same_below hB hhi), ht'.kept (same_below hB hhi')⟩)
  have HWK : Hid (∀ i, i < ks.length → wt (ks.getD i E0) ≤ 1048576) := hide (fun i hi => by have := wt_at hi; have := unhide HW; omega)
  have hkl' : ks.length ≤ 1048576 := by have := wtL_len ks; have := unhide HW; omega
  have htl' : ts.length ≤ 1048576 := by have := unhide HW; omega
  clear n1 n2 n1' B0 hk hk' ht ht' hz H hwA hkl HW hzA
  go_wp2
  go_loopw [5] (fun i wr => ∃ j : Nat, j ≤ ts.length ∧ i = .int .i64 j ∧ Hid (Below wA.heap.size wA wr)) (fun i _ => ts.length - (intOf i).toNat)
  case atStart =>
    rw [unhide HA]
    exact ⟨0, Nat.zero_le _, rfl, hide (Below.refl _ _)⟩
  case round =>
    obtain ⟨j, hj, rfl, hb⟩ := hrel
    obtain ⟨⟨⟨_, _, _, a3, a4⟩, _⟩, ⟨⟨_, _, _, a3', a4'⟩, _⟩, ⟨_, hz2⟩, _, htl, htl2⟩ := unhide N wr (unhide hb)
    by_cases hlt : j < ts.length
    · obtain ⟨b, o, rfl, _, c0, c1⟩ := htl.at hlt
      obtain ⟨b', o', rfl, _, d0, d1⟩ := htl2.at hlt
      have i1 : (0 : Int) ≤ (j : Int) := by omega
      have i2 : (j : Int) < (ts.length : Int) := by omega
      generalize ts.getD j T0 = x at *
      obtain ⟨x, y⟩ := x
      simp only at c0 c1 d0 d1
      clear htl htl2 a3 a3'
      go_wp2
      go_quiet (fail)
      go_wp2
      exact ⟨⟨j + 1, by omega, by go_num, hide (drewB (unhide hb) _)⟩, by simp [intOf]; omega⟩
    · have hnl : ¬ ((j : Int) < (ts.length : Int)) := by omega
      clear htl htl2
      go_wp2
      go_loopw [6] (fun i wr => ∃ j : Nat, j ≤ ks.length ∧ i = .int .i64 j ∧ Hid (Below wA.heap.size wA wr)) (fun i _ => ks.length - (intOf i).toNat)
      case atStart => exact ⟨0, Nat.zero_le _, rfl, hb⟩
      case round =>
        clear hb a3 a3' a4 a4' hnl hlt hz2
        obtain ⟨j, hj, rfl, hb⟩ := hrel
        obtain ⟨⟨⟨_, _, _, a3, _⟩, _⟩, ⟨⟨_, _, _, a3', _⟩, _⟩, ⟨_, hz2⟩, ⟨hes, hes2⟩, _, _⟩ := unhide N wr (unhide hb)
        by_cases hlt : j < ks.length
        · obtain ⟨d0, b, o, cap, kv, tv, hd, hv, ⟨_, hbh⟩, ⟨c0, c1, c2, c3, c4⟩, hev⟩ := hes.at hlt
          obtain ⟨d0', b', o', cap', kv', tv', _, hv', ⟨_, hbh'⟩, ⟨e0, e1, e2, e3, e4⟩, hev'⟩ := hes2.at hlt
          simp only [Value.slice.injEq, true_and] at hv hv'
          obtain ⟨rfl, rfl⟩ := hv
          obtain ⟨rfl, rfl⟩ := hv'
          have HE := hide hev
          have HE' := hide hev'
          have HWj := hide (unhide HWK j hlt)
          have HSd := hide (unhide HS d0 hd)
          have z3 : hi ≤ wr.heap.size := by have := (unhide N wr (unhide hb)).2.2.1.1.size; omega
          have z4 : hi' ≤ wr.heap.size := by have := (unhide N wr (unhide hb)).2.2.1.1.size; omega
          have z1 : b < wr.heap.size := by omega
          have z2 : b' < wr.heap.size := by omega
          have z5 : w.heap.size < wr.heap.size := by omega
          have z6 : w.heap.size + 1 < wr.heap.size := by omega
          have i1 : (0 : Int) ≤ (j : Int) := by omega
          have i2 : (j : Int) < (ks.length : Int) := by omega
          clear hes hes2 hev hev' hd
          generalize ks.getD j E0 = e at *
          generalize hek : e.kind = ek at *
          generalize hen : e.num = en at *
          generalize hem : e.meter = em at *
          clear hek hen hem
          go_wp2
          go_region_held3 (fun w2 => w2.cell? ⟨w.heap.size, 3, none⟩ = some (.slice (some ⟨b, o, none⟩) ks.length kc) ∧ w2.cell? ⟨w.heap.size + 1, 3, none⟩ = some (.slice (some ⟨b', o', none⟩) ks.length kc') ∧ w2.cell? ⟨b, o + j * 5, none⟩ = some (.int .i64 ek) ∧ w2.cell? ⟨b, o + j * 5 + 1, none⟩ = some (.int .i64 en) ∧ w2.cell? ⟨b, o + j * 5 + 2, none⟩ = some (.string em) ∧ w2.cell? ⟨b, o + j * 5 + 3, none⟩ = some kv ∧ w2.cell? ⟨b, o + j * 5 + 4, none⟩ = some tv ∧ w2.cell? ⟨b', o' + j * 5, none⟩ = some (.int .i64 ek) ∧ w2.cell? ⟨b', o' + j * 5 + 1, none⟩ = some (.int .i64 en) ∧ w2.cell? ⟨b', o' + j * 5 + 2, none⟩ = some (.string em) ∧ w2.cell? ⟨b', o' + j * 5 + 3, none⟩ = some kv' ∧ w2.cell? ⟨b', o' + j * 5 + 4, none⟩ = some tv') (go_keep)
            (first | (go_at_call 10; refine (unhide HSd lo hi lo' hi' d0' _ _ e wr.drew ((unhide HE).kept (fun _ _ _ => rfl)) ((unhide HE').kept (fun _ _ _ => rfl)) z3 z4 (unhide HWj)).mono ?_; rintro x w1 ⟨rfl, hb1⟩; have p1 := hb1.cell (p := ⟨w.heap.size, 3, none⟩) z5; have p2 := hb1.cell (p := ⟨w.heap.size + 1, 3, none⟩) z6; have q0 := hb1.cell (p := ⟨b, o + j * 5, none⟩) z1; have q1 := hb1.cell (p := ⟨b, o + j * 5 + 1, none⟩) z1; have q2 := hb1.cell (p := ⟨b, o + j * 5 + 2, none⟩) z1; have q3 := hb1.cell (p := ⟨b, o + j * 5 + 3, none⟩) z1; have q4 := hb1.cell (p := ⟨b, o + j * 5 + 4, none⟩) z1; have r0 := hb1.cell (p := ⟨b', o' + j * 5, none⟩) z2; have r1 := hb1.cell (p := ⟨b', o' + j * 5 + 1, none⟩) z2; have r2 := hb1.cell (p := ⟨b', o' + j * 5 + 2, none⟩) z2; have r3 := hb1.cell (p := ⟨b', o' + j * 5 + 3, none⟩) z2; have r4 := hb1.cell (p := ⟨b', o' + j * 5 + 4, none⟩) z2))
          have HB : Hid (Below wA.heap.size wA w1) := hide (below_trans (unhide hb) (ofDrew hb1))
          clear hb1 hb q0 q1 q2 q3 q4 r0 r1 r2 r3 r4 p1 p2
          go_wp2
          exact ⟨⟨j + 1, by omega, by go_num, HB⟩, by simp [intOf]; omega⟩
        · have hB := (unhide N wr (unhide hb)).2.2.1.1
          have hnl : ¬ ((j : Int) < (ks.length : Int)) := by omega
          have HBB := hide hB
          clear hB hes hes2
          go_wp2
          go_ret
          exact ⟨rfl, unhide HBB⟩

theorem wrE_all : ∀ d, WrE d
  | 0 => wrE_of (fun d0 h => by omega)
  | d + 1 => wrE_of (fun d0 h => by (cases h; exact wrE_all d))
end Go.Proofs.YtogkkkollmcijaaGreatDoor.Rule
end

section
/-
  impl.readOwn.
-/
namespace Go.Proofs.YtogkkkollmcijaaGreatDoor.Rule
set_option linter.unusedVariables false
open Go.RowKit
open Tiers (T T0 TR hide unhide below_trans)
open Kinds hiding hide unhide below_trans ext_toList

abbrev cells2 (t : T) : List Value := [.int .i64 t.1, .int .i64 t.2]
def flatT (l : List T) : List Value := l.flatMap cells2
theorem flatT_len : ∀ l : List T, (flatT l).length = l.length * 2
  | [] => rfl
  | x :: l => by
    have e : flatT (x :: l) = cells2 x ++ flatT l := rfl
    rw [e, List.length_append, flatT_len l, List.length_cons]
    show 2 + l.length * 2 = (l.length + 1) * 2
    omega
theorem flatT_get : ∀ (l : List T) (i : Nat) (x : T), l[i]? = some x → ∀ j u, j < 2 → (cells2 x)[j]? = some u → (flatT l)[i * 2 + j]? = some u
  | [], i, x, h, _, _, _, _ => by simp at h
  | y :: l, 0, x, h, j, u, hj, hu => by
    simp at h; subst h
    have e : flatT (y :: l) = cells2 y ++ flatT l := rfl
    rw [e, Nat.zero_mul, Nat.zero_add, List.getElem?_append_left (by show j < 2; omega)]
    exact hu
  | y :: l, i + 1, x, h, j, u, hj, hu => by
    simp only [List.getElem?_cons_succ] at h
    have e : flatT (y :: l) = cells2 y ++ flatT l := rfl
    rw [e, List.getElem?_append_right (by show 2 ≤ _; omega)]
    have e3 : (i + 1) * 2 + j - (cells2 y).length = i * 2 + j := by show (i + 1) * 2 + j - 2 = _; omega
    rw [e3]
    exact flatT_get l i x h j u hj hu
/-- steps in a row of the call's own -/
def TO (W : World) (B : Nat) (v : Value) (l : List T) : Prop := W.ownsRow B 45 2 v l.length (flatT l)
theorem TO.nil (W : World) (B : Nat) : TO W B (.slice none 0 0) [] := ⟨rfl, .inl ⟨rfl, rfl⟩⟩
theorem TO.blk {W : World} {B : Nat} {v : Value} {l : List T} (h : TO W B v l) : ∀ q, v.ownBlock = some q → B ≤ q ∧ q < W.heap.size := World.ownsRow.lt h
theorem TO.kept {W W' : World} {B : Nat} {v : Value} {l : List T} {r : Option Nat} (h : TO W B v l) (hg : W.grownBy W' r) (hr : ∀ q, r = some q → q < B) : TO W' B v l :=
  World.ownsRow.kept (row := r) h hg (by
    cases h1 : v.ownBlock with
    | none => exact .inl rfl
    | some q => exact .inr (fun e => by have := (h.blk q h1).1; have := hr q e.symm; omega))
theorem TO.form {W : World} {B : Nat} {v : Value} {l : List T} (h : TO W B v l) : ∃ a c, v = .slice a l.length c := by
  obtain ⟨h1, h2⟩ := h
  rcases h2 with ⟨rfl, h0⟩ | ⟨g, cap, cur, rfl, _⟩
  · exact ⟨none, 0, by rw [h0]⟩
  · exact ⟨_, _, rfl⟩
theorem TO.ot {W : World} {B : Nat} {v : Value} {l : List T} (h : TO W B v l) (hB : B ≤ W.heap.size) : OT B W.heap.size W v l := by
  have ho := h
  have hb := h.blk
  obtain ⟨h1, h2⟩ := h
  refine ⟨hB, ?_⟩
  rcases h2 with ⟨rfl, h0⟩ | ⟨g, cap, cur, rfl, hBg, hg, _⟩
  · obtain rfl := List.length_eq_zero_iff.1 h0
    exact .inl ⟨rfl, _, _, rfl⟩
  · refine .inr ⟨g, cap, rfl, hBg, (hb g rfl).2, fun i hi => ?_, fun j => ?_⟩
    · have hx : l[i]? = some l[i] := List.getElem?_eq_getElem hi
      have e : l.getD i T0 = l[i] := by simp [List.getD, hi]
      rw [e]
      have hc : ∀ j u, j < 2 → (cells2 l[i])[j]? = some u → W.cell? ⟨g, i * 2 + j, none⟩ = some u := fun j u hj hu => by
        have := World.ownsRow.cells ho rfl (i * 2 + j) u (flatT_get l i _ hx j u hj hu)
        rw [Addr.add_lit, Nat.zero_add] at this
        exact this
      exact ⟨hc 0 _ (by omega) rfl, hc 1 _ (by omega) rfl⟩
    · simp only [World.frozen?]
      rw [hg]; simp
theorem infoT' : (Tryz.prog.info? 45).map (fun i => (i.zero, i.size, i.bytes)) = some (some (.agg #[.int .i64 0, .int .i64 0]), 2, 16) := by kernel_rfl

/-- what lies below B, the block eb aside, is as it was -/
structure KeepB (eb B : Nat) (w w' : World) : Prop where
  os : w'.os = w.os
  tape : w'.tape = w.tape
  output : w'.output = w.output
  size : w.heap.size ≤ w'.heap.size
  block : ∀ j, j < B → j < w.heap.size → j ≠ eb → w'.heap[j]? = w.heap[j]?
theorem KeepB.refl (eb B : Nat) (w : World) : KeepB eb B w w := ⟨rfl, rfl, rfl, Nat.le_refl _, fun _ _ _ _ => rfl⟩
theorem KeepB.trans {eb B : Nat} {a b c : World} (h : KeepB eb B a b) (k : KeepB eb B b c) : KeepB eb B a c :=
  ⟨k.os.trans h.os, k.tape.trans h.tape, k.output.trans h.output, Nat.le_trans h.size k.size, fun j h1 h2 h3 => (k.block j h1 (Nat.lt_of_lt_of_le h2 h.size) h3).trans (h.block j h1 h2 h3)⟩
theorem KeepB.below {eb B : Nat} {a b : World} (h : Below a.heap.size a b) : KeepB eb B a b := ⟨h.os, h.tape, h.output, h.size, fun j _ h2 _ => h.block j h2⟩
theorem KeepB.set {eb B : Nat} (w : World) (k : Nat) (u : Value) : KeepB eb B w (w.setCell ⟨eb, k, none⟩ u) := ⟨rfl, rfl, rfl, by simp, fun j _ _ h3 => Below.heap_setCell w ⟨eb, k, none⟩ u j (by simpa using h3)⟩
theorem KeepB.grown {eb B : Nat} {a b : World} {r : Option Nat} (h : a.grownBy b r) (hr : ∀ q, r = some q → B ≤ q) : KeepB eb B a b := ⟨h.os, h.tape, h.output, h.size, fun j h1 h2 _ => h.block j h2 (fun e => by have := hr j e.symm; omega)⟩

section
variable {ops : Array Oper} {o : Oper} {a : Act} {K : Act → World → Prop} {Q : Exit → Act → World → Prop} {E : Prop}
theorem listAppT (w : World) {rest : List Oper} (hgd : o.guard = none) (s x : Operand) (ho : o.op = .call { callee := .builtin .append, args := #[s, x], argTypes := #[24, 24] })
    (B N n : Nat) (v : Value) (l : List T) (q : T) (hn : l.length = n) (hs : a.eval s = v) (hv : TO w B v l) (hx : a.eval x = .slice (some ⟨N, 0, none⟩) 1 1) (hN : w.heap[N]? = some (.cells (cells2 q).toArray 45 (0, 0))) (hl : l.length ≤ 1000000) (hB : B ≤ w.heap.size)
    (h : ∀ g c w', TO w' B (.slice (some ⟨g, 0, none⟩) (n + 1) c) (l ++ [q]) → w.grownBy w' v.ownBlock → wpList Tryz.prog ops Q rest (a.put o.dst (.slice (some ⟨g, 0, none⟩) (n + 1) c)) w') :
    wpList Tryz.prog ops Q (o :: rest) a w := by
  subst hn
  obtain ⟨i, hi, h2⟩ := Option.map_eq_some_iff.1 infoT'
  simp only [Prod.mk.injEq] at h2
  refine wpList_append_lies (P := Tryz.prog) w hgd s x 24 ho B 45 i _ 2 16 Tryz.underlying24 hi h2.1 h2.2.1 h2.2.2 rfl (by omega) v l.length (flatT l) hs hv ⟨N, 0, none⟩ 1 1 (cells2 q) hx rfl (World.news_of_block hN) (fun u hu => by simp only [cells2, List.mem_cons, List.not_mem_nil, or_false] at hu; rcases hu with rfl | rfl <;> rfl) (by omega) (by unfold maxLen; omega) (by omega) hB _ rfl ?_
  intro g c w' h1 h3 _ _
  refine h g c w' ?_ h3
  have e : flatT (l ++ [q]) = flatT l ++ cells2 q := by simp [flatT]
  unfold TO
  rw [e, List.length_append]
  exact h1
end

set_option maxRecDepth 20000 in
set_option maxHeartbeats 1000000 in
/-- impl.readOwn -/
theorem ownWI (eb B : Nat) (wd : List UInt8) (k n : Int) (m : ByteArray) (kv tv : Value) (ts : List T) (w : World) (hs : wd.length ≤ 1000000) (he : Text.Env w) (hbx : Boxes.At w eb [.int .i64 k, .int .i64 n, .string m, kv, tv]) (hT : TO w B tv ts) (hl : ts.length ≤ 1000000) (heB : eb < B) (hB : B ≤ w.heap.size) :
    Calls Tryz.prog 34 #[.pointer (some ⟨eb, 0, none⟩), .string (bytesOf wd)] w fun x w' => x = .returned (.tuple #[]) ∧ ∃ n' tv' ts', OwnI wd n ts n' ts' ∧ Boxes.At w' eb [.int .i64 k, .int .i64 n', .string m, kv, tv'] ∧ TO w' B tv' ts' ∧ KeepB eb B w w' := by
  have hl' : (bytesOf wd).size = wd.length := bsize wd
  have hd : (bytesOf wd).data.toList = wd := by simp [bytesOf]
  obtain ⟨mx, hmx⟩ := he.2.1
  have hcut := Tryz.strings_Cut (bytesOf wd) ⟨#[58]⟩ mx w (by omega) hmx
  rw [hd] at hcut
  have e58 : (⟨#[58]⟩ : ByteArray).data.toList = [58] := rfl
  rw [e58] at hcut
  have hlen := cut_len2 58 wd
  have HO : Hid (∀ n' ts', (((Lib.cut wd [58]).2.2 = false ∧ valI (Lib.cut wd [58]).1 n' ∧ ts' = ts) ∨ ((Lib.cut wd [58]).2.2 = true ∧ n' = n ∧ ∃ a b, valI (Lib.cut wd [58]).1 a ∧ valI (Lib.cut wd [58]).2.1 b ∧ ts' = ts ++ [(a, b)])) → OwnI wd n ts n' ts') := hide (fun n' ts' h => h)
  generalize (Lib.cut wd [58]).1 = W1 at *
  generalize (Lib.cut wd [58]).2.1 = W2 at *
  generalize (Lib.cut wd [58]).2.2 = fnd at *
  have HC := hide hcut
  have HE := hide he
  have HBX := hide hbx
  have HT := hide hT
  have hebw : eb < w.heap.size := by omega
  obtain ⟨ta, tc, htf⟩ := hT.form
  clear hcut he hbx hT e58 hmx
  go_enter Tryz.func34, Tryz.ntmps34
  go_wp2_with (fail)
  refine (unhide HC).mono ?_
  rintro x w1 ⟨rfl, nd, rfl⟩
  have B1 : Hid (Below w.heap.size w (w.drewN nd)) := hide (Text.below_drew nd)
  generalize w.drewN nd = w1 at *
  go_wp2_with (fail)
  refine (atoiC ⟨W1.toArray⟩ w1 (by simp [ByteArray.size]; omega) ((unhide HE).kept (unhide B1))).mono ?_
  rintro x w2 ⟨a1, er, rfl, hA1, hb2⟩
  have HV1 : Hid (valI W1 a1) := hide (fun k' hk' => by
    rcases hA1 with ⟨h, _⟩ | ⟨h, _⟩
    · have h' : Lib.atoiAll W1 = .ok a1 := by simpa using h
      rw [h'] at hk'; cases hk'; rfl
    · exact absurd hk' (by simpa using h k'))
  have B2 := hide (below_trans (unhide B1) hb2)
  clear hA1 hb2
  cases fnd
  · have hb := (unhide HBX).below (unhide B2) hebw
    obtain ⟨c1, f1⟩ := hb 1 _ rfl
    have HB2 := hide hb
    clear hb
    go_wp2_with (fail)
    refine bodyPost_ret (v := .tuple #[]) (by simp [results, Tryz.results34, go_sem]) rfl ?_
    exact ⟨rfl, a1, tv, ts, unhide HO _ _ (.inl ⟨by trivial, unhide HV1, rfl⟩), (unhide HB2).set 1 _, ((unhide HT).kept (r := none) ⟨(unhide B2).os, (unhide B2).tape, (unhide B2).output, (unhide B2).size, fun j hj _ => (unhide B2).block j hj⟩ (fun q hq => by cases hq)).kept (r := some eb) (Evs.growS _ _ _ _) (fun q hq => by cases hq; omega), (KeepB.below (unhide B2)).trans (KeepB.set _ _ _)⟩
  · go_wp2_with (fail)
    refine (atoiC ⟨W2.toArray⟩ w2 (by simp [ByteArray.size]; omega) ((unhide HE).kept (unhide B2))).mono ?_
    rintro x w3 ⟨a2, er2, rfl, hA2, hb3⟩
    have HV2 : Hid (valI W2 a2) := hide (fun k' hk' => by
      rcases hA2 with ⟨h, _⟩ | ⟨h, _⟩
      · have h' : Lib.atoiAll W2 = .ok a2 := by simpa using h
        rw [h'] at hk'; cases hk'; rfl
      · exact absurd hk' (by simpa using h k'))
    have B3 := hide (below_trans (unhide B2) hb3)
    clear hA2 hb3
    have hb := (unhide HBX).below (unhide B3) hebw
    obtain ⟨c4, f4⟩ := hb 4 _ rfl
    have HB3 := hide hb
    have HT3 := hide ((unhide HT).kept (r := none) ⟨(unhide B3).os, (unhide B3).tape, (unhide B3).output, (unhide B3).size, fun j hj _ => (unhide B3).block j hj⟩ (fun q hq => by cases hq))
    clear hb
    have HN3 : Hid ((w3.alloc (.cells #[.int .i64 a1, .int .i64 a2] 45)).heap[w3.heap.size]? = some (.cells (cells2 (a1, a2)).toArray 45 (0, 0))) := hide (MapKept.heap_alloc _ _).1
    have HT4 := hide ((unhide HT3).kept (r := none) (Evs.growB (below_alloc w3 (.cells #[.int .i64 a1, .int .i64 a2] 45)) none) (fun q hq => by cases hq))
    have hz3 := (unhide B3).size
    have HG : Hid (∀ W4, (w3.alloc (.cells #[.int .i64 a1, .int .i64 a2] 45)).grownBy W4 tv.ownBlock → KeepB eb B w W4 ∧ W4.heap[eb]? = w3.heap[eb]?) := hide (fun W4 hg => by
      have hq : ∀ q, tv.ownBlock = some q → B ≤ q := fun q hq => ((unhide HT4).blk q hq).1
      refine ⟨((KeepB.below (unhide B3)).trans (KeepB.below (below_alloc _ _))).trans (KeepB.grown hg hq), ?_⟩
      rw [hg.block eb (by simp; omega) (fun e => by have := hq eb e.symm; omega)]
      exact Below.heap_alloc _ _ _ (by omega))
    rw [htf] at c4 HT4 HG
    go_wp2_with (first | (at_builtin; refine listAppT _ rfl _ _ rfl B w3.heap.size ts.length _ ts (a1, a2) rfl rfl (unhide HT4) rfl (unhide HN3) hl (by simp; omega) ?_; intro g c w4 h1 h2; obtain ⟨kb4, e4⟩ := unhide HG w4 h2; have T4 := hide h1; have KB4 := hide kb4; have hA4 := (unhide HB3).kept e4; have HA4 := hide hA4; obtain ⟨d4, g4⟩ := hA4 4 _ rfl; clear h1 h2 kb4 e4 hA4) | fail)
    go_end0
    exact ⟨rfl, n, _, ts ++ [(a1, a2)], unhide HO _ _ (.inr ⟨by trivial, rfl, a1, a2, unhide HV1, unhide HV2, rfl⟩), (unhide HA4).set 4 _, by
      have := (unhide T4).kept (r := some eb) (Evs.growS w4 eb 4 (.slice (some ⟨g, 0, none⟩) (ts.length + 1) c)) (fun q hq => by cases hq; omega)
      exact this, (unhide KB4).trans (KeepB.set _ _ _)⟩
end Go.Proofs.YtogkkkollmcijaaGreatDoor.Rule
end

section
/-
  The laws' own marks on steps: markRuleTierS, heldRuleTierS.
-/
namespace Go.Proofs.YtogkkkollmcijaaGreatDoor.Rule
set_option linter.unusedVariables false
open Go.RowKit
open Tiers (T T0 TR hide unhide below_trans)

/-- what lies outside of the blocks from lo on and below hi is as it was -/
structure Out (lo hi : Nat) (w w' : World) : Prop where
  os : w'.os = w.os
  tape : w'.tape = w.tape
  output : w'.output = w.output
  size : w.heap.size ≤ w'.heap.size
  block : ∀ j, j < w.heap.size → ¬ (lo ≤ j ∧ j < hi) → w'.heap[j]? = w.heap[j]?
theorem Out.refl (lo hi : Nat) (w : World) : Out lo hi w w := ⟨rfl, rfl, rfl, Nat.le_refl _, fun _ _ _ => rfl⟩
theorem Out.trans {lo hi : Nat} {a b c : World} (h : Out lo hi a b) (k : Out lo hi b c) : Out lo hi a c :=
  ⟨k.os.trans h.os, k.tape.trans h.tape, k.output.trans h.output, Nat.le_trans h.size k.size, fun j hj hn => (k.block j (Nat.lt_of_lt_of_le hj h.size) hn).trans (h.block j hj hn)⟩
theorem Out.mono {lo hi lo' hi' : Nat} {a b : World} (h : Out lo hi a b) (h1 : lo' ≤ lo) (h2 : hi ≤ hi') : Out lo' hi' a b :=
  ⟨h.os, h.tape, h.output, h.size, fun j hj hn => h.block j hj (by omega)⟩
theorem Out.set {lo hi : Nat} (w : World) (b o : Nat) (u : Value) (h1 : lo ≤ b) (h2 : b < hi) : Out lo hi w (w.setCell ⟨b, o, none⟩ u) := by
  refine ⟨rfl, rfl, rfl, by simp, fun j hj hn => ?_⟩
  exact Below.heap_setCell w ⟨b, o, none⟩ u j (fun e => hn (by simp at e; omega))
theorem Out.below {lo hi : Nat} {a b : World} (h : Below a.heap.size a b) : Out lo hi a b := ⟨h.os, h.tape, h.output, h.size, fun j hj _ => h.block j hj⟩
theorem Out.same {lo hi s e : Nat} {a b : World} (h : Out lo hi a b) (hd : e ≤ lo ∨ hi ≤ s) (he : e ≤ a.heap.size) : Same s e a b := fun j j1 j2 => h.block j (by omega) (by omega)
theorem Out.toBelow {lo hi : Nat} {a b : World} (h : Out lo hi a b) {B : Nat} (hB : B ≤ lo) (hs : B ≤ a.heap.size) : Below B a b := ⟨h.os, h.tape, h.output, h.size, fun j hj => h.block j (by omega) (by omega)⟩

/-- a row of steps in a block -/
def RowT (W : World) (b : Nat) (l : List T) : Prop := (∀ i, i < l.length → W.cell? ⟨b, i * 2, none⟩ = some (.int .i64 (l.getD i T0).1) ∧ W.cell? ⟨b, i * 2 + 1, none⟩ = some (.int .i64 (l.getD i T0).2)) ∧ ∀ j, W.frozen? ⟨b, j, none⟩ = false
theorem RowT.setA {W : World} {b : Nat} {l : List T} (h : RowT W b l) {k : Nat} (hk : k < l.length) (q : Int) : RowT (W.setCell ⟨b, k * 2, none⟩ (.int .i64 q)) b (l.set k (q, (l.getD k T0).2)) := by
  refine ⟨fun i hi => ?_, fun j => by simpa [World.frozen?_setCell] using h.2 j⟩
  have hi' : i < l.length := by simpa using hi
  obtain ⟨c0, c1⟩ := h.1 i hi'
  have d1 : (⟨b, k * 2, none⟩ : Addr) ≠ ⟨b, i * 2 + 1, none⟩ := fun he => by simp only [Addr.mk.injEq, and_true, true_and] at he; omega
  by_cases e : i = k
  · subst e
    rw [List.getD_eq_getElem?_getD, List.getElem?_set_self hi']
    exact ⟨World.cell?_setCell_same _ _ _ c0, by rw [World.cell?_setCell_other _ _ _ _ d1]; exact c1⟩
  · have d0 : (⟨b, k * 2, none⟩ : Addr) ≠ ⟨b, i * 2, none⟩ := fun he => by simp only [Addr.mk.injEq, and_true, true_and] at he; omega
    rw [World.cell?_setCell_other _ _ _ _ d0, World.cell?_setCell_other _ _ _ _ d1, c0, c1, List.getD_eq_getElem?_getD, List.getD_eq_getElem?_getD, List.getElem?_set_ne (by omega)]
    exact ⟨rfl, rfl⟩
theorem RowT.setB {W : World} {b : Nat} {l : List T} (h : RowT W b l) {k : Nat} (hk : k < l.length) (q : Int) : RowT (W.setCell ⟨b, k * 2 + 1, none⟩ (.int .i64 q)) b (l.set k ((l.getD k T0).1, q)) := by
  refine ⟨fun i hi => ?_, fun j => by simpa [World.frozen?_setCell] using h.2 j⟩
  have hi' : i < l.length := by simpa using hi
  obtain ⟨c0, c1⟩ := h.1 i hi'
  have d0 : (⟨b, k * 2 + 1, none⟩ : Addr) ≠ ⟨b, i * 2, none⟩ := fun he => by simp only [Addr.mk.injEq, and_true, true_and] at he; omega
  by_cases e : i = k
  · subst e
    rw [List.getD_eq_getElem?_getD, List.getElem?_set_self hi']
    exact ⟨by rw [World.cell?_setCell_other _ _ _ _ d0]; exact c0, World.cell?_setCell_same _ _ _ c1⟩
  · have d1 : (⟨b, k * 2 + 1, none⟩ : Addr) ≠ ⟨b, i * 2 + 1, none⟩ := fun he => by simp only [Addr.mk.injEq, and_true, true_and] at he; omega
    rw [World.cell?_setCell_other _ _ _ _ d0, World.cell?_setCell_other _ _ _ _ d1, c0, c1, List.getD_eq_getElem?_getD, List.getD_eq_getElem?_getD, List.getElem?_set_ne (by omega)]
    exact ⟨rfl, rfl⟩
theorem marksT_step (k : Nat) (l : List T) (j : Nat) (h : j < l.length) : (marksT k j ++ l.drop j).set j (((k + 2 * j : Nat) : Int), ((k + 2 * j + 1 : Nat) : Int)) = marksT k (j + 1) ++ l.drop (j + 1) := by
  rw [List.set_append_right _ _ (by rw [marksT_len]; exact Nat.le_refl _), marksT_len, Nat.sub_self, List.drop_eq_getElem_cons h, List.set_cons_zero]
  have e : marksT k (j + 1) = marksT k j ++ [(((k + 2 * j : Nat) : Int), ((k + 2 * j + 1 : Nat) : Int))] := by
    unfold marksT
    rw [List.range_succ, List.map_append]
    rfl
  rw [e, List.append_assoc]
  rfl
theorem getD_setT {L : List T} {j : Nat} (h : j < L.length) (y : T) : (L.set j y).getD j T0 = y := by simp [List.getD, h]

end Go.Proofs.YtogkkkollmcijaaGreatDoor.Rule
end

section
/-
  The laws' own marks on expressions: markRuleExprS, heldRuleExprS.
-/
namespace Go.Proofs.YtogkkkollmcijaaGreatDoor.Rule
set_option linter.unusedVariables false
open Go.RowKit RegIn
open Tiers (T T0 TR hide unhide below_trans)

theorem digs_len : ∀ k : Nat, (Evs.digs k).length ≤ k := by
  intro k
  induction k using Nat.strongRecOn with
  | _ k ih =>
    by_cases h : 0 < k
    · rw [Evs.digs_pos h, List.length_append]
      have := ih (k / 10) (by omega)
      simp; omega
    · obtain rfl : k = 0 := by omega
      rw [Evs.digs_zero]; simp
theorem mt_size (k : Nat) : (Evs.mt k).size ≤ k + 1 := by
  have := digs_len k
  simp [Evs.mt, ByteArray.size]; omega

theorem RowX.set {W : World} {b : Nat} {xs : List X} {j c : Nat} {u : Value} {x x' : X} (h : RowX W b xs) (hx : xs[j]? = some x) (hc : c < 5) (hu : (cells5 x')[c]? = some u) (h' : ∀ i, i ≠ c → (cells5 x')[i]? = (cells5 x)[i]?) :
    RowX (W.setCell ⟨b, j * 5 + c, none⟩ u) b (xs.set j x') := by
  refine ⟨fun i y hy i5 v hv => ?_, fun q => by simpa [World.frozen?_setCell] using h.2 q⟩
  have h5 : ∀ (z : X) (v : Value), (cells5 z)[i5]? = some v → i5 < 5 := fun z v hv => by
    have := (List.getElem?_eq_some_iff.1 hv).1
    simpa [cells5] using this
  have hi5 := h5 y v hv
  obtain ⟨c0, hc0⟩ : ∃ z, (cells5 x)[c]? = some z := ⟨_, List.getElem?_eq_getElem (by simpa [cells5] using hc)⟩
  by_cases e : i = j
  · subst e
    have hlt : i < xs.length := (List.getElem?_eq_some_iff.1 hx).1
    rw [List.getElem?_set_self hlt] at hy
    obtain rfl : x' = y := by simpa using hy
    by_cases e2 : i5 = c
    · subst e2
      rw [hu] at hv
      obtain rfl : u = v := by simpa using hv
      exact World.cell?_setCell_same _ _ _ (h.1 i x hx i5 c0 hc0)
    · rw [h' i5 e2] at hv
      rw [World.cell?_setCell_other _ _ _ _ (fun he => by simp only [Addr.mk.injEq, and_true, true_and] at he; omega)]
      exact h.1 i x hx i5 v hv
  · rw [List.getElem?_set_ne (by omega)] at hy
    rw [World.cell?_setCell_other _ _ _ _ (fun he => by simp only [Addr.mk.injEq, and_true, true_and] at he; omega)]
    exact h.1 i y hy i5 v hv
theorem RowX.as {W : World} {b : Nat} {xs : List X} {j : Nat} {x x' : X} (h : RowX W b xs) (hx : xs[j]? = some x) (h' : cells5 x' = cells5 x) : RowX W b (xs.set j x') := by
  refine ⟨fun i y hy i5 v hv => ?_, h.2⟩
  by_cases e : i = j
  · subst e
    have hlt : i < xs.length := (List.getElem?_eq_some_iff.1 hx).1
    rw [List.getElem?_set_self hlt] at hy
    obtain rfl : x' = y := by simpa using hy
    rw [h'] at hv
    exact h.1 i x hx i5 v hv
  · rw [List.getElem?_set_ne (by omega)] at hy
    exact h.1 i y hy i5 v hv
theorem set_at {ys zs : List X} {x x' : X} : (ys ++ x :: zs).set ys.length x' = ys ++ x' :: zs := by
  rw [List.set_append_right _ _ (Nat.le_refl _), Nat.sub_self, List.set_cons_zero]
theorem get_at {ys zs : List X} {x : X} : (ys ++ x :: zs)[ys.length]? = some x := by simp

/-- what there is of a row while it is being marked -/
structure MkRow (w wr : World) (d b lo hi k n j kj : Nat) (wl : Nat) (ys zs : List X) : Prop where
  len : ys.length = j ∧ j + zs.length = n
  row : RowX wr b (ys ++ zs)
  chain : ∃ m, Chain (OX wr d) (b + 1) m ys ∧ Chain (OX wr d) m hi zs
  marks : MkL k (ys.map (·.1)) kj
  room : kj + 3 * wtL (zs.map (·.1)) ≤ k + 3 * wl
  out : Out lo hi w wr

end Go.Proofs.YtogkkkollmcijaaGreatDoor.Rule
end

section
/-
  Kids that are read one by one into a row that was made for them.
-/
namespace Go.Proofs.YtogkkkollmcijaaGreatDoor.Rule
set_option linter.unusedVariables false
open Go.RowKit
open Tiers (T T0 TR hide unhide below_trans)
open Kinds hiding hide unhide below_trans ext_toList

/-- a kid that was not read yet -/
def Z0 : X := (E0, .slice none 0 0, .slice none 0 0)
theorem RowX.made (w : World) (n : Nat) (t : TypeId) : RowX (w.alloc (.cells (madeCells zero5 (n * 5)) t)) w.heap.size (List.replicate n Z0) := by
  have e1 := (MapKept.heap_alloc w (.cells (madeCells zero5 (n * 5)) t)).1
  refine ⟨fun i x hx j u hu => ?_, fun j => ?_⟩
  · have hi : i < n := by
      have := (List.getElem?_eq_some_iff.1 hx).1
      simpa using this
    obtain rfl : Z0 = x := by
      have := (List.getElem?_eq_some_iff.1 hx).2
      simpa using this
    simp only [World.cell?]
    rw [e1]
    match j, hu with
    | 0, hu =>
      obtain rfl : Value.int .i64 0 = u := by simpa [cells5, Z0, E0, Ex.kind, Ex.num, Ex.meter] using hu
      have m0 : (i * 5) % 5 = 0 := by omega
      have l0 : i * 5 < n * 5 := by omega
      simp [madeCells, zero5, l0, m0]
    | 1, hu =>
      obtain rfl : Value.int .i64 0 = u := by simpa [cells5, Z0, E0, Ex.kind, Ex.num, Ex.meter] using hu
      have m0 : (i * 5 + 1) % 5 = 1 := by omega
      have l0 : i * 5 + 1 < n * 5 := by omega
      simp [madeCells, zero5, l0, m0]
    | 2, hu =>
      obtain rfl : Value.string ByteArray.empty = u := by simpa [cells5, Z0, E0, Ex.kind, Ex.num, Ex.meter] using hu
      have m0 : (i * 5 + 2) % 5 = 2 := by omega
      have l0 : i * 5 + 2 < n * 5 := by omega
      simp [madeCells, zero5, l0, m0]
    | 3, hu =>
      obtain rfl : Value.slice none 0 0 = u := by simpa [cells5, Z0, E0, Ex.kind, Ex.num, Ex.meter] using hu
      have m0 : (i * 5 + 3) % 5 = 3 := by omega
      have l0 : i * 5 + 3 < n * 5 := by omega
      simp [madeCells, zero5, l0, m0]
    | 4, hu =>
      obtain rfl : Value.slice none 0 0 = u := by simpa [cells5, Z0, E0, Ex.kind, Ex.num, Ex.meter] using hu
      have m0 : (i * 5 + 4) % 5 = 4 := by omega
      have l0 : i * 5 + 4 < n * 5 := by omega
      simp [madeCells, zero5, l0, m0]
    | j + 5, hu => simp [cells5] at hu
  · simp only [World.frozen?]
    rw [e1]; simp
/-- the world with a kid laid at place j -/
def put5W (W : World) (b j : Nat) (x : X) : World :=
  ((((W.setCell ⟨b, j * 5, none⟩ (.int .i64 x.1.kind)).setCell ⟨b, j * 5 + 1, none⟩ (.int .i64 x.1.num)).setCell ⟨b, j * 5 + 2, none⟩ (.string x.1.meter)).setCell ⟨b, j * 5 + 3, none⟩ x.2.1).setCell ⟨b, j * 5 + 4, none⟩ x.2.2
theorem RowX.put5 {W : World} {b : Nat} {ys zs : List X} {x x' : X} (h : RowX W b (ys ++ x :: zs)) : RowX (put5W W b ys.length x') b (ys ++ x' :: zs) := by
  have r1 := h.set (x' := (.mk x'.1.kind x.1.num x.1.meter x.1.kids x.1.tiers, x.2.1, x.2.2)) (c := 0) (u := .int .i64 x'.1.kind) get_at (by omega) rfl (fun i hi => by match i, hi with | 0, h => exact absurd rfl h | 1, _ => rfl | 2, _ => rfl | 3, _ => rfl | 4, _ => rfl | i + 5, _ => rfl)
  rw [set_at, Nat.add_zero] at r1
  have r2 := r1.set (x' := (.mk x'.1.kind x'.1.num x.1.meter x.1.kids x.1.tiers, x.2.1, x.2.2)) (c := 1) (u := .int .i64 x'.1.num) get_at (by omega) rfl (fun i hi => by match i, hi with | 0, _ => rfl | 1, h => exact absurd rfl h | 2, _ => rfl | 3, _ => rfl | 4, _ => rfl | i + 5, _ => rfl)
  rw [set_at] at r2
  have r3 := r2.set (x' := (.mk x'.1.kind x'.1.num x'.1.meter x.1.kids x.1.tiers, x.2.1, x.2.2)) (c := 2) (u := .string x'.1.meter) get_at (by omega) rfl (fun i hi => by match i, hi with | 0, _ => rfl | 1, _ => rfl | 2, h => exact absurd rfl h | 3, _ => rfl | 4, _ => rfl | i + 5, _ => rfl)
  rw [set_at] at r3
  have r4 := r3.set (x' := (.mk x'.1.kind x'.1.num x'.1.meter x.1.kids x.1.tiers, x'.2.1, x.2.2)) (c := 3) (u := x'.2.1) get_at (by omega) rfl (fun i hi => by match i, hi with | 0, _ => rfl | 1, _ => rfl | 2, _ => rfl | 3, h => exact absurd rfl h | 4, _ => rfl | i + 5, _ => rfl)
  rw [set_at] at r4
  have r5 := r4.set (x' := x') (c := 4) (u := x'.2.2) get_at (by omega) rfl (fun i hi => by match i, hi with | 0, _ => rfl | 1, _ => rfl | 2, _ => rfl | 3, _ => rfl | 4, h => exact absurd rfl h | i + 5, _ => rfl)
  rw [set_at] at r5
  exact r5
theorem put5W_other (W : World) (b j : Nat) (x : X) (c : Nat) (h : c ≠ b) : (put5W W b j x).heap[c]? = W.heap[c]? := by
  have k : ∀ (V : World) (o : Nat) (u : Value), (V.setCell ⟨b, o, none⟩ u).heap[c]? = V.heap[c]? := fun V o u => Below.heap_setCell V ⟨b, o, none⟩ u c (by simpa using h)
  unfold put5W
  rw [k, k, k, k, k]
theorem put5W_size (W : World) (b j : Nat) (x : X) : (put5W W b j x).heap.size = W.heap.size := by simp [put5W]
theorem put5W_below {B : Nat} {w W : World} {b j : Nat} {x : X} (h : Below B w W) (hB : B ≤ b) : Below B w (put5W W b j x) :=
  ((((h.setCell (p := ⟨b, j * 5, none⟩) hB _).setCell (p := ⟨b, j * 5 + 1, none⟩) hB _).setCell (p := ⟨b, j * 5 + 2, none⟩) hB _).setCell (p := ⟨b, j * 5 + 3, none⟩) hB _).setCell (p := ⟨b, j * 5 + 4, none⟩) hB _

/-- kids under way: the boxes rb (the result) and eb (the expression), the row kb -/
structure RdK (w wr : World) (n rb eb kb nk : Nat) (k : Int) (r1 : List UInt8) (j : Nat) (xs : List X) (r : List UInt8) : Prop where
  len : xs.length = j ∧ j ≤ nk
  row : RowX wr kb (xs ++ List.replicate (nk - j) Z0)
  chain : Chain (OX wr n) (kb + 1) wr.heap.size xs
  ebox : Boxes.At wr eb [.int .i64 k, .int .i64 0, .string ⟨#[]⟩, .slice (some ⟨kb, 0, none⟩) nk nk, .slice none 0 0]
  rbox : Boxes.At wr rb [.int .i64 0, .int .i64 0, .string ⟨#[]⟩, .slice none 0 0, .slice none 0 0]
  kids : KidsOf (ReadsI n) r1 (xs.map (·.1)) r
  env : EnvR wr
  below : Below w.heap.size w wr
  blocks : rb < eb ∧ eb < kb ∧ kb < wr.heap.size ∧ w.heap.size ≤ rb
theorem RdK.rest {w wr : World} {n rb eb kb nk : Nat} {k : Int} {r1 : List UInt8} {j : Nat} {xs : List X} {r : List UInt8} (h : RdK w wr n rb eb kb nk k r1 j xs r) (h3 : nk ≤ 3) : r.length ≤ r1.length := by
  have := kids_len (fun t e r => reads_wt n t e r) h.kids
  have hl := h.len
  simp at this
  omega
/-- one kid more -/
theorem RdK.step {w wr w' : World} {n rb eb kb nk : Nat} {k : Int} {r1 : List UInt8} {j : Nat} {xs : List X} {r r' : List UInt8} {x : X} (h : RdK w wr n rb eb kb nk k r1 j xs r) (hj : j < nk) (hb : Below wr.heap.size wr w') (hx : OX w' n wr.heap.size w'.heap.size x) (hr : ReadsI n (trimSp r) x.1 r') (hE : EnvR (put5W w' kb j x)) :
    RdK w (put5W w' kb j x) n rb eb kb nk k r1 (j + 1) (xs ++ [x]) r' := by
  obtain ⟨⟨l1, l2⟩, hrow, hch, he, hrb, hk, hv, hbl, b1, b2, b3, b4⟩ := h
  have hz := hb.size
  have hs : ∀ s e, kb < s → e ≤ w'.heap.size → Same s e w' (put5W w' kb j x) := fun s e hs _ c c1 _ => put5W_other _ _ _ _ _ (by omega)
  refine ⟨⟨by simp [l1], by omega⟩, ?_, ?_, he.kept ((put5W_other _ _ _ _ _ (by omega)).trans (hb.block eb (by omega))), hrb.kept ((put5W_other _ _ _ _ _ (by omega)).trans (hb.block rb (by omega))), ?_, hE, put5W_below (below_trans hbl hb) (by omega), b1, b2, by rw [put5W_size]; omega, b4⟩
  · have e : List.replicate (nk - j) Z0 = Z0 :: List.replicate (nk - (j + 1)) Z0 := by
      rw [← List.replicate_succ]; congr 1; omega
    have h1 := hrow.kept (hb.block kb (by omega))
    rw [e] at h1
    have h2 := h1.put5 (x' := x)
    rw [l1] at h2
    simpa using h2
  · rw [put5W_size]
    refine Chain.append (m := wr.heap.size) (hch.imp (lo := kb + 1) (hi := wr.heap.size) (fun s e y hs1 he1 hy => hy.kept (same_trans (same_below hb he1) (hs s e (by omega) (by omega)))) (Nat.le_refl _) (Nat.le_refl _)) ⟨w'.heap.size, hz, Nat.le_refl _, hx.kept (hs _ _ b3 (Nat.le_refl _)), Nat.le_refl _⟩ (fun s s' e y hs hy => hy.mono hs (Nat.le_refl _))
  · rw [List.map_append]
    exact hk.snoc hr
end Go.Proofs.YtogkkkollmcijaaGreatDoor.Rule
end

section
/-
  DERIVED: THE SHELF's CONTRACTS AT THIS DUMP, IN PLAIN WORDS (tools/lay-plain.mjs out of 'YtogkkkollmcijaaGreatDoorShelfT.lean', which tools/lay-shelf.mjs wrote): THE SAME DECLARATIONS UNDER THE SAME NAMES: 'import', 'namespace', 'open', 'def', 'theorem' AND NOTHING ELSE: no command of the shelf's: FOR A HAND-IN. Each laying: the table of numbers ('.._ren') and one theorem, a field a fact of the dump's own or the kernel's comparison; each contract: ONE APPLICATION.
-/
namespace Go.Proofs
open Go.Shelf
def Tryz.lays156_ren : Go.Shelf.Ren := ⟨fun | 156 => 26 | 165 => 52 | 166 => 53 | 169 => 54 | 240 => 66 | 241 => 67 | 276 => 79 | 277 => 80 | n => n, fun | 31 => 48 | 9 => 9 | 3 => 3 | 4 => 4 | 0 => 0 | 20 => 20 | 72 => 98 | 76 => 102 | 70 => 96 | 37 => 22 | 75 => 101 | 127 => 113 | 164 => 131 | 5 => 5 | 80 => 80 | n => n, fun | n => n⟩
theorem Tryz.lays156 : Go.Proofs.Lays.n156 Tryz.prog Tryz.lays156_ren := {
  mixed := by kernel_rfl
  f156 := Tryz.func26.trans (congrArg some (by kernel_rfl))
  f165 := Tryz.func52.trans (congrArg some (by kernel_rfl))
  f166 := Tryz.func53.trans (congrArg some (by kernel_rfl))
  f169 := Tryz.func54.trans (congrArg some (by kernel_rfl))
  f240 := Tryz.func66.trans (congrArg some (by kernel_rfl))
  f241 := Tryz.func67.trans (congrArg some (by kernel_rfl))
  f276 := Tryz.func79.trans (congrArg some (by kernel_rfl))
  f277 := Tryz.func80.trans (congrArg some (by kernel_rfl))
  t0 := Tryz.underlying0
  a0 := Tryz.isAgg0
  z0 := Tryz.sizeOf0
  v0 := Tryz.zeroValue0
  t3 := Tryz.underlying3
  a3 := Tryz.isAgg3
  z3 := Tryz.sizeOf3
  v3 := Tryz.zeroValue3
  t4 := Tryz.underlying4
  a4 := Tryz.isAgg4
  z4 := Tryz.sizeOf4
  v4 := Tryz.zeroValue4
  t9 := Tryz.underlying9
  a9 := Tryz.isAgg9
  z9 := Tryz.sizeOf9
  v9 := Tryz.zeroValue9
  t20 := Tryz.underlying20
  a20 := Tryz.isAgg20
  z20 := Tryz.sizeOf20
  v20 := Tryz.zeroValue20
  t31 := Tryz.underlying48
  a31 := Tryz.isAgg48
  z31 := Tryz.sizeOf48
  v31 := Tryz.zeroValue48
  t37 := Tryz.underlying22
  a37 := Tryz.isAgg22
  z37 := Tryz.sizeOf22
  v37 := Tryz.zeroValue22
  t70 := Tryz.underlying96
  a70 := Tryz.isAgg96
  z70 := Tryz.sizeOf96
  v70 := Tryz.zeroValue96
  t72 := Tryz.underlying98
  a72 := Tryz.isAgg98
  z72 := Tryz.sizeOf98
  v72 := Tryz.zeroValue98
  t75 := Tryz.underlying101
  a75 := Tryz.isAgg101
  z75 := Tryz.sizeOf101
  v75 := Tryz.zeroValue101
  t76 := Tryz.underlying102
  a76 := Tryz.isAgg102
  z76 := Tryz.sizeOf102
  v76 := Tryz.zeroValue102
  t127 := Tryz.underlying113
  a127 := Tryz.isAgg113
  z127 := Tryz.sizeOf113
  v127 := Tryz.zeroValue113
  t164 := Tryz.underlying131
  a164 := Tryz.isAgg131
  z164 := Tryz.sizeOf131
  v164 := Tryz.zeroValue131 }
theorem Tryz.Builder_Extra_156 : Builder.Extra Tryz.prog Tryz.lays156_ren := {
  sizeBuilder := by kernel_rfl
  liesBuilder := by kernel_rfl
  t5 := Tryz.underlying5
  a5 := Tryz.isAgg5
  z5 := Tryz.sizeOf5
  v5 := Tryz.zeroValue5
  infoByte := by kernel_rfl
  cellsByte := by kernel_rfl
  sizeByte := by kernel_rfl
  neB5 := by decide }
open Go.RowKit in
/-- No element: the empty string; the world is as it was. (Whatever the slice's address and capacity: a nil slice too.) (LAID: no walk: one application.) -/
theorem Tryz.strings_Join_none (a : Option Addr) (c : Nat) (sep : ByteArray) (w : World) :
    Calls Tryz.prog 26 #[.slice a 0 c, .string sep] w fun e w' => e = .returned (.string ⟨#[]⟩) ∧ w' = w := Any.strings_Join_none Tryz.lays156 Tryz.Builder_Extra_156 a c sep w
open Go.RowKit in
/-- strings.Join: "Join concatenates the elements of its first argument to create a single string. The separator string sep is placed between elements in the resulting string.": HOWEVER MANY ELEMENTS. Below the heap's end the world is as it was. (LAID: no walk: one application.) -/
theorem Tryz.strings_Join (bk o c : Nat) (xs : List ByteArray) (sep : ByteArray) (w : World) (hcells : ∀ (j : Nat) x, xs[j]? = some x → w.cell? ⟨bk, o + j, none⟩ = some (.string x)) (hbk : bk < w.heap.size) (hN : xs.length ≤ 140737488355328) (hcap : xs.length ≤ c) (hlen : (Lib.join (xs.map (·.data.toList)) sep.data.toList).length ≤ 140737488355328) :
    Calls Tryz.prog 26 #[.slice (some ⟨bk, o, none⟩) xs.length c, .string sep] w fun e w' => e = .returned (.string ⟨(Lib.join (xs.map (·.data.toList)) sep.data.toList).toArray⟩) ∧ Below w.heap.size w w' := Any.strings_Join Tryz.lays156 Tryz.Builder_Extra_156 bk o c xs sep w hcells hbk hN hcap hlen
def Tryz.lays103_ren : Go.Shelf.Ren := ⟨fun | 103 => 27 | 210 => 55 | 206 => 68 | n => n, fun | 9 => 9 | 4 => 4 | 24 => 66 | 3 => 3 | n => n, fun | n => n⟩
theorem Tryz.lays103 : Go.Proofs.Lays.n103 Tryz.prog Tryz.lays103_ren := {
  mixed := by kernel_rfl
  f103 := Tryz.func27.trans (congrArg some (by kernel_rfl))
  f206 := Tryz.func68.trans (congrArg some (by kernel_rfl))
  f210 := Tryz.func55.trans (congrArg some (by kernel_rfl))
  t3 := Tryz.underlying3
  a3 := Tryz.isAgg3
  z3 := Tryz.sizeOf3
  v3 := Tryz.zeroValue3
  t4 := Tryz.underlying4
  a4 := Tryz.isAgg4
  z4 := Tryz.sizeOf4
  v4 := Tryz.zeroValue4
  t9 := Tryz.underlying9
  a9 := Tryz.isAgg9
  z9 := Tryz.sizeOf9
  v9 := Tryz.zeroValue9
  t24 := Tryz.underlying66
  a24 := Tryz.isAgg66
  z24 := Tryz.sizeOf66
  v24 := Tryz.zeroValue66 }
open Go.RowKit in
/-- strings.CutPrefix: "CutPrefix returns s without the provided leading prefix string and reports whether it found the prefix. If s doesn't start with prefix, CutPrefix returns s, false. If prefix is the empty string, CutPrefix returns s, true.": IT RETURNS '(Lib.trimPrefix s p, Lib.hasPrefix s p)'; the world is as it was. (LAID: no walk: one application.) -/
theorem Tryz.strings_CutPrefix (s p : ByteArray) (w : World) :
    Calls Tryz.prog 27 #[.string s, .string p] w fun e w' => e = .returned (.tuple #[.string ⟨(Lib.trimPrefix s.data.toList p.data.toList).toArray⟩, .bool (Lib.hasPrefix s.data.toList p.data.toList)]) ∧ w' = w := Any.strings_CutPrefix Tryz.lays103 s p w
def Tryz.lays101_ren : Go.Shelf.Ren := ⟨fun | 101 => 31 | 208 => 58 | 206 => 68 | n => n, fun | 9 => 9 | 4 => 4 | 3 => 3 | n => n, fun | n => n⟩
theorem Tryz.lays101 : Go.Proofs.Lays.n101 Tryz.prog Tryz.lays101_ren := {
  mixed := by kernel_rfl
  f101 := Tryz.func31.trans (congrArg some (by kernel_rfl))
  f206 := Tryz.func68.trans (congrArg some (by kernel_rfl))
  f208 := Tryz.func58.trans (congrArg some (by kernel_rfl))
  t3 := Tryz.underlying3
  a3 := Tryz.isAgg3
  z3 := Tryz.sizeOf3
  v3 := Tryz.zeroValue3
  t4 := Tryz.underlying4
  a4 := Tryz.isAgg4
  z4 := Tryz.sizeOf4
  v4 := Tryz.zeroValue4
  t9 := Tryz.underlying9
  a9 := Tryz.isAgg9
  z9 := Tryz.sizeOf9
  v9 := Tryz.zeroValue9 }
open Go.RowKit Go.Lib in
/-- strings.TrimPrefix: "TrimPrefix returns s without the provided leading prefix string. If s doesn't start with prefix, s is returned unchanged.": IT RETURNS 'Lib.trimPrefix s prefix'; the world is as it was. (LAID: no walk: one application.) -/
theorem Tryz.strings_TrimPrefix (s p : ByteArray) (w : World) :
    Calls Tryz.prog 31 #[.string s, .string p] w fun e w' => e = .returned (.string ⟨(Lib.trimPrefix s.data.toList p.data.toList).toArray⟩) ∧ w' = w := Any.strings_TrimPrefix Tryz.lays101 s p w
end Go.Proofs
end
