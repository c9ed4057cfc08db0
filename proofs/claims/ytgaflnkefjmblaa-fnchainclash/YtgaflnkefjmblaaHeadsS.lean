/-
  spec.ChainHeads, ChainHead, ChainCheck.
-/
import Derived.Test.YtgaflnkefjmblaaChainM
import Derived.Test.YtgaflnkefjmblaaAppK
import Derived.Test.YtgaflnkefjmblaaHeadI
import Derived.Deep.RegionHeld3
namespace Go.Proofs.Ytgaflnkefjmblaa.Chain
set_option linter.unusedVariables false
open Go.RowKit
open Txt (S0 TC TR)
open Ints (vals stepAppK)

theorem grown_da (w : World) (n : Nat) (o : Obj) (r : Option Nat) : w.grownBy ((w.drewN n).alloc o) r :=
  ⟨rfl, rfl, rfl, by simp [World.drewN], fun j hj _ => Below.heap_alloc (w.drewN n) o j hj⟩
/-- a new row of one number -/
theorem own_one (w : World) (q : Int) : Ints.Own (w.alloc (.cells #[.int .i64 q] 3)) w.heap.size w.heap.size 1 [q] :=
  ⟨by simp, .inr ⟨w.heap.size, 1, #[.int .i64 q], rfl, Nat.le_refl _, (MapKept.heap_alloc w _).1, by simp, by unfold maxLen; omega, by simp, by simp [vals]⟩⟩

set_option maxHeartbeats 2000000 in
/-- spec.ChainHeads -/
theorem headsS (v : Value) (l : List ByteArray) (w : World) (h : TR w v l) (hl : l.length ≤ maxLen) (hs : ∀ u ∈ l, u.size ≤ 100000000) :
    Calls Try.prog 23 #[v] w fun e w' => ∃ g cap, e = .returned (.slice (some ⟨g, 0, none⟩) (cnt l + 1) cap) ∧ Ints.Own w' w.heap.size g cap (headsF l) ∧ Below w.heap.size w w' := by
  unfold maxLen at hl
  have h0 := own_one w 27182
  have hb0 : Below w.heap.size w (w.alloc (.cells #[.int .i64 27182] 3)) := (Below.refl _ _).alloc (Nat.le_refl _) _
  by_cases hbig : 400 < l.length
  · have hcnt : cnt l = 0 := by unfold cnt; rw [if_neg (by omega)]
    have hH : headsF l = [27182] := by unfold headsF; rw [hcnt]; rfl
    rw [hH, hcnt]
    obtain ⟨a, c, rfl⟩ := h.form
    have H0 := hide h0
    clear h hs h0
    go_enter Try.func23, Try.ntmps23
    go_wp2
    go_ret
    exact ⟨_, _, rfl, unhide H0, hb0⟩
  · have hcnt : cnt l = l.length := by unfold cnt; rw [if_pos (by omega)]
    have HH : Hid (pre l (l.length + 1) = headsF l) := hide (by unfold pre headsF; rw [hcnt])
    rw [hcnt]
    clear hcnt
    have H0 := hide h0
    have HS := hide hs
    clear h0 hs
    rcases h with ⟨rfl, a, c, rfl⟩ | ⟨b, o, cap, rfl, h2⟩
    · go_enter Try.func23, Try.ntmps23
      go_wp2
      refine wp_loop_rounds 1 ?_
      rw [rounds_succ]
      go_wp2
      go_ret
      exact ⟨_, _, rfl, (unhide HH) ▸ unhide H0, hb0⟩
    · have H3 := hide h2
      have hbs := h2.1
      clear h2
      go_enter Try.func23, Try.ntmps23
      go_wp2
      go_loopw [3, 4] (fun p i wr => ∃ k g c : Nat, k ≤ l.length ∧ p = .slice (some ⟨g, 0, none⟩) (k + 1) c ∧ i = .int .i64 k ∧ Hid (Ints.Own wr w.heap.size g c (pre l (k + 1))) ∧ Below w.heap.size w wr) (fun _ i _ => l.length - (intOf i).toNat)
      case atStart => exact ⟨0, w.heap.size, 1, Nat.zero_le _, rfl, rfl, H0, hb0⟩
      case round =>
        clear H0 hb0
        obtain ⟨k, g, c, hk, rfl, rfl, h1, hb⟩ := hrel
        by_cases hlt : k < l.length
        · have c0 := (unhide H3).2 k hlt
          have c0' : wr.cell? ⟨b, o + k, none⟩ = some (.string (l.getD k S0)) := by rw [hb.cell (p := ⟨b, o + k, none⟩) hbs]; exact c0
          have hsz : (l.getD k S0).size ≤ 100000000 := unhide HS _ (by simp [List.getD, hlt])
          have i1 : (0 : Int) ≤ (k : Int) := by omega
          have i2 : (k : Int) < (l.length : Int) := by omega
          have i3 : (k : Int) < (k : Int) + 1 := by omega
          have hh := hdK_succ hlt
          unfold mixT at hh
          have hps := pre_succ l (k + 1)
          rw [hh] at hps
          have HPS := hide hps
          have hgk : (pre l (k + 1)).getD k 0 = hdK l k := by unfold pre; simp [List.getD]
          have c1 := (unhide h1).at_ (j := k) (by rw [pre_len]; omega)
          rw [hgk] at c1
          have HGK := hide hgk
          have hwb := hb.size
          have gl := (unhide h1).lt
          clear hh hps hgk c0
          generalize hdK l k = hk1 at *
          generalize l.getD k S0 = x at *
          have hbg : some b ≠ some g := by simp; omega
          have C0 := hide c0'
          go_wp2
          go_region_held3 (fun w2 => w2.cell? ⟨b, o + k, none⟩ = some (.string x) ∧ w2.cell? ⟨g, k, none⟩ = some (.int .i64 hk1)) (first | go_keep | exact ⟨hoc, hold⟩)
            (first
              | (refine stepAppK _ rfl _ _ rfl w.heap.size g c _ (k + 1) (pre l (k + 1)) _ (pre_len _ _) rfl (Ints.Own.kept (unhide h1) (grown_da _ _ _ none) (by simp)) rfl (MapKept.heap_alloc _ _).1 (by rw [pre_len]; omega) (by simp; omega) ?_
                 intro ga ca w1 ho1 hgr hat1 hlt1 hol
                 have hold := hol k (by rw [pre_len]; omega)
                 rw [unhide HGK] at hold
                 have hoc := (Ints.grown_trans (grown_da _ _ _ _) hgr).cell (unhide C0) hbg)
              | (go_at_call 20; refine (mixS _ _ _ hsz).mono ?_; rintro e w' ⟨rfl, rfl⟩))
          rw [unhide HPS] at ho1
          have H1 := hide ho1
          have hb1 : Below w.heap.size w w1 := hb.grown (Ints.grown_trans (grown_da _ _ _ _) hgr) hwb (fun q e => by cases e; exact gl.1)
          rename_i hHeld
          clear ho1 hgr hat1 hlt1 hol hold hoc hHeld c1 c0' C0 HGK HPS
          go_wp2
          exact ⟨⟨k + 1, ga, ca, by omega, rfl, by go_num, H1, hb1⟩, by simp [intOf]; omega⟩
        · obtain rfl : k = l.length := by omega
          rw [unhide HH] at h1
          go_wp2
          go_ret
          exact ⟨_, _, rfl, unhide h1, hb⟩

/-- spec.ChainHead -/
theorem headS (v : Value) (l : List ByteArray) (w : World) (h : TR w v l) (hl : l.length ≤ maxLen) (hs : ∀ u ∈ l, u.size ≤ 100000000) :
    Calls Try.prog 25 #[v] w fun e w' => e = .returned (.int .i64 (headF l)) ∧ Below w.heap.size w w' := by
  have HC := hide (headsS v l w h hl hs)
  obtain ⟨a, c, rfl⟩ := h.form
  have hle := (cnt_le l).2
  clear h hs
  go_enter Try.func25, Try.ntmps25
  go_wp2_with (fail)
  refine (unhide HC).mono ?_
  rintro e w' ⟨g, cap, rfl, ho, hb⟩
  have h1 := ho.at_ (j := cnt l) (by rw [headsF_len]; omega)
  rw [headsF_at l (Nat.le_refl _)] at h1
  rw [show hdK l (cnt l) = headF l from rfl] at h1
  obtain ⟨x, hx⟩ : ∃ x, headF l = x := ⟨_, rfl⟩
  rw [hx] at h1
  have HX := hide hx
  clear hx
  generalize cnt l = n at *
  clear ho HC
  have i1 : (0 : Int) ≤ (n : Int) := by omega
  have i2 : (n : Int) < (n : Int) + 1 := by omega
  go_wp2
  go_ret
  exact ⟨by rw [unhide HX]; rfl, hb⟩

/-- spec.ChainCheck -/
theorem checkS (v : Value) (l : List ByteArray) (h : Int) (w : World) (hv : TR w v l) (hl : l.length ≤ maxLen) (hs : ∀ u ∈ l, u.size ≤ 100000000) :
    Calls Try.prog 32 #[v, .int .i64 h] w fun e w' => e = .returned (.bool (checkF l h)) ∧ Below w.heap.size w w' := by
  have HC := hide (headS v l w hv hl hs)
  unfold maxLen at hl
  obtain ⟨a, c, rfl⟩ := hv.form
  clear hv hs
  by_cases hfit : l.length ≤ 400
  · have hd : decide ((l.length : Int) ≤ 400) = true := decide_eq_true (by omega)
    have hr : checkF l h = (headF l == h) := by
      unfold checkF; by_cases e : headF l = h <;> simp [e, hfit]
    rw [hr]
    go_enter Try.func32, Try.ntmps32
    go_wp2_with (fail)
    refine (unhide HC).mono ?_
    rintro e w' ⟨rfl, hb⟩
    go_wp2
    go_ret
    exact ⟨rfl, hb⟩
  · have hd : decide ((l.length : Int) ≤ 400) = false := decide_eq_false (by omega)
    have hr : checkF l h = false := by
      unfold checkF; simp [hfit]
    rw [hr]
    go_enter Try.func32, Try.ntmps32
    go_wp2
    go_ret
    exact ⟨rfl, Below.refl _ _⟩
end Go.Proofs.Ytgaflnkefjmblaa.Chain
