/-
  The draw of two lists of texts, one or nearly (DrawChainClash).
-/
import Derived.Test.YtgaflnkefjmblaaDrawTx
import Derived.Test.YtgaflnkefjmblaaDrawMix
import Derived.Test.YtgaflnkefjmblaaHeadsS
import Derived.Deep.RegionHeld3
import Derived.Laws.OwnMore
namespace Go.Proofs.Ytgaflnkefjmblaa.Draw
set_option linter.unusedVariables false
open Go.RowKit
open Txt (S0 TC TR)
open Chain (headsS mixS mixL hdK headsF headsF_len headsF_at hdK_bd cnt)

theorem TN.at_ {W : World} {B g n c : Nat} {l : List ByteArray} (h : TN W B (.slice (some ⟨g, 0, none⟩) n c) l) {k : Nat} (hk : k < l.length) : W.cell? ⟨g, k, none⟩ = some (.string (l.getD k S0)) := by
  have := World.ownsRow.cells h rfl k (.string (l.getD k S0)) (by simp [List.getD, hk])
  rwa [Addr.add_lit, Nat.zero_add] at this
theorem TN.froz {W : World} {B g c : Nat} {l : List ByteArray} (h : TN W B (.slice (some ⟨g, 0, none⟩) l.length c) l) (k : Nat) : W.frozen? ⟨g, k, none⟩ = false := World.ownsRow.frozenAt h k
theorem TN.set {W : World} {B g c : Nat} {l : List ByteArray} (h : TN W B (.slice (some ⟨g, 0, none⟩) l.length c) l) {k : Nat} (hk : k < l.length) (x : ByteArray) : TN (W.setCell ⟨g, k, none⟩ (.string x)) B (.slice (some ⟨g, 0, none⟩) l.length c) (l.set k x) := by
  unfold TN
  rw [List.length_set, List.map_set]
  exact (World.ownsRow.stored h k (.string x)).1
/-- a string of one byte, behind a draw -/
theorem conv1D (w : World) (c : Int) (h0 : 0 ≤ c) (h1 : c ≤ 255) : (convert 22 9 (.slice (some ⟨w.heap.size, 0, none⟩) 1 1)).run Try.prog (w.alloc (.cells #[.int .u8 c] 5)).drew = .ok (.string ⟨#[UInt8.ofNat c.toNat]⟩) (w.alloc (.cells #[.int .u8 c] 5)).drew := by
  have h := run_convert_bytes_back (P := Try.prog) (w.alloc (.cells #[.int .u8 c] 5)).drew 22 9 5 ⟨w.heap.size, 0, none⟩ 1 [UInt8.ofNat c.toNat] Try.underlying22 Try.underlying5 Try.underlying9 ?_
  · exact h
  · intro j hj
    obtain rfl : j = 0 := by simpa using hj
    have e : ((UInt8.ofNat c.toNat).toNat : Int) = c := by
      simp; omega
    rw [Addr.add_lit]
    show (w.alloc _).cell? _ = some (.int .u8 ((UInt8.ofNat c.toNat).toNat : Int))
    rw [e]
    have e1 := (MapKept.heap_alloc w (.cells #[.int .u8 c] 5)).1
    simp only [World.cell?]
    rw [e1]; rfl
theorem u8_bd (n : Int) : 0 ≤ IntKind.u8.wrap n ∧ IntKind.u8.wrap n ≤ 255 := by
  simp [IntKind.wrap, IntKind.bits, IntKind.signed]
  omega
/-- texts that may be forged -/
def IsTf (l : List ByteArray) : Prop := l.length ≤ 5 ∧ ∀ u ∈ l, u.size ≤ 12
theorem one_sz (c : UInt8) : (⟨#[c]⟩ : ByteArray).size = 1 := rfl

set_option maxHeartbeats 4000000 in
/-- l8Forged -/
theorem forgedD (v : Value) (l : List ByteArray) (k : Nat) (w : World) (h : TR w v l) (hI : IsTx l) (hk : k < l.length) :
    Calls Try.prog 36 #[v, .int .i64 k] w fun e w' => ∃ v' m, e = .returned v' ∧ TN w' w.heap.size v' m ∧ m.length = l.length ∧ IsTf m ∧ Below w.heap.size w w' := by
  have hcnt : cnt l = l.length := by have := hI.1; unfold cnt; rw [if_pos (by omega)]
  have hI' := hI
  obtain ⟨h5, hs⟩ := hI'
  have HS := hide hs
  have HI := hide hI
  rcases h with ⟨rfl, _⟩ | ⟨b, o, cp, rfl, htc⟩
  · simp at hk
  have H := hide (show TR w (.slice (some ⟨b, o, none⟩) l.length cp) l from .inr ⟨b, o, cp, rfl, htc⟩)
  have hbw := htc.1
  have hak := htc.2 k hk
  have hxs : (l.getD k S0).size ≤ 10 := hs _ (by simp [List.getD, hk])
  clear htc hs hI
  go_enter Try.func36, Try.ntmps36
  go_wp2_with fail
  refine (headsS _ l w (unhide H) (by unfold maxLen; omega) (fun u hu => by have := unhide HS u hu; omega)).mono ?_
  rintro e w1 ⟨gh, ch, rfl, oh, b1⟩
  rw [hcnt]
  have hh1 := oh.at_ (j := k) (by rw [headsF_len]; omega)
  have hh2 := oh.at_ (j := k + 1) (by rw [headsF_len]; omega)
  rw [headsF_at l (by omega)] at hh1 hh2
  have bd1 := hdK_bd l k
  have bd2 := hdK_bd l (k + 1)
  have ghl := oh.lt
  have hak1 : w1.cell? ⟨b, o + k, none⟩ = some (.string (l.getD k S0)) := (b1.cell (p := ⟨b, o + k, none⟩) hbw).trans hak
  have H1 := hide ((unhide H).kept b1)
  have z1 := b1.size
  have N0 := TN.new w1 w1.heap.size (Nat.le_refl _)
  have bN : Below w1.heap.size w1 (w1.alloc (.cells #[] 9)) := (Below.refl _ _).alloc (Nat.le_refl _) _
  have HAN := hide ((unhide H1).kept bN)
  have HN0 := hide N0
  have HBN := hide bN
  clear N0 bN oh hcnt hak H1 H
  generalize hdK l k = hk1 at *
  generalize hdK l (k + 1) = hk2 at *
  go_wp2_with (first
    | (at_builtin
       refine listAppTx _ rfl _ _ rfl w1.heap.size cp l.length 0 (some ⟨w1.heap.size, 0, none⟩) (some ⟨b, o, none⟩) 0 [] l rfl rfl rfl (unhide HN0) rfl (unhide HAN) (by omega) (by simp; omega) (by simp) ?_
       intro g1 c1 w2 t2 hc2 hg2
       have b2 : Below w1.heap.size w1 w2 := (unhide HBN).grown hg2 (by simp) (fun k e => by simp [Value.ownBlock] at e; omega)
       have T2 : Hid (TN w2 w1.heap.size (.slice g1 l.length c1) l) := hide (by simpa using t2)
       have B2 := hide b2
       have hc2' : l.length ≤ c1 := by omega
       clear t2 b2 hg2 HAN HN0 HBN hc2)
    | fail)
  obtain ⟨g, rfl⟩ : ∃ g, g1 = some ⟨g, 0, none⟩ := by
    rcases (unhide T2).2 with ⟨_, h0⟩ | ⟨g, cap, cur, e1, _⟩
    · omega
    · simp only [Value.slice.injEq, true_and] at e1
      exact ⟨g, e1.1⟩
  have gl := (unhide T2).lt g rfl
  have z2 := (unhide B2).size
  have a2 : w2.cell? ⟨b, o + k, none⟩ = some (.string (l.getD k S0)) := ((unhide B2).cell (p := ⟨b, o + k, none⟩) (by simp; omega)).trans hak1
  have c1' : w2.cell? ⟨gh, k, none⟩ = some (.int .i64 hk1) := ((unhide B2).cell (p := ⟨gh, k, none⟩) (by simp; omega)).trans hh1
  have c2' : w2.cell? ⟨gh, k + 1, none⟩ = some (.int .i64 hk2) := ((unhide B2).cell (p := ⟨gh, k + 1, none⟩) (by simp; omega)).trans hh2
  clear hak1 hh1 hh2
  generalize hX : l.getD k S0 = x at *
  clear hX
  go_loopw [7] (fun t7 wr => ∃ i : Nat, i ≤ 256 ∧ t7 = .int .i64 i ∧ Below w2.heap.size w2 wr) (fun t7 _ => 256 - (intOf t7).toNat)
  case atStart => exact ⟨0, by omega, rfl, Below.refl _ _⟩
  case round =>
    obtain ⟨i, hi, rfl, hb⟩ := hrel
    have az : wr.cell? ⟨b, o + k, none⟩ = some (.string x) := (hb.cell (p := ⟨b, o + k, none⟩) (by simp; omega)).trans a2
    have cz1 : wr.cell? ⟨gh, k, none⟩ = some (.int .i64 hk1) := (hb.cell (p := ⟨gh, k, none⟩) (by simp; omega)).trans c1'
    have cz2 : wr.cell? ⟨gh, k + 1, none⟩ = some (.int .i64 hk2) := (hb.cell (p := ⟨gh, k + 1, none⟩) (by simp; omega)).trans c2'
    have zr := hb.size
    by_cases hlt : i < 256
    · have i1 : (0 : Int) ≤ (k : Int) := by omega
      have i2 : (k : Int) < (l.length : Int) := by omega
      have i3 : (k : Int) < (l.length : Int) + 1 := by omega
      have i4 : (k : Int) + 1 < (l.length : Int) + 1 := by omega
      have J1 : (i : Int) < 256 := by omega
      have hcv := conv1D wr (IntKind.u8.wrap (i : Int)) (u8_bd _).1 (u8_bd _).2
      obtain ⟨q1, hq1⟩ : ∃ q, UInt8.ofNat (IntKind.u8.wrap (i : Int)).toNat = q := ⟨_, rfl⟩
      rw [hq1] at hcv
      clear hq1
      have BD := hide bd2
      clear hlt hi bd1 bd2
      have HCV := hide hcv
      clear hcv
      go_wp2
      have hcv := unhide HCV
      have hsz1 : ¬ 9223372036854775807 < x.size + 1 := by omega
      have HX := hide hxs
      clear hxs
      go_region_held_law (fun w7 => w7.cell? ⟨b, o + k, none⟩ = some (.string x)) (go_keep) (fail)
      rename_i hHeld
      have hb3 : Below w2.heap.size w2 (wr.alloc (.cells #[.int .u8 (IntKind.u8.wrap (i : Int))] 5)).drew := by
        have := hb.alloc hb.size (.cells #[.int .u8 (IntKind.u8.wrap (i : Int))] 5)
        exact ⟨this.os, this.tape, this.output, this.size, this.block⟩
      have cy1 : (wr.alloc (.cells #[.int .u8 (IntKind.u8.wrap (i : Int))] 5)).drew.cell? ⟨gh, k, none⟩ = some (.int .i64 hk1) := (hb3.cell (p := ⟨gh, k, none⟩) (by simp; omega)).trans c1'
      have cy2 : (wr.alloc (.cells #[.int .u8 (IntKind.u8.wrap (i : Int))] 5)).drew.cell? ⟨gh, k + 1, none⟩ = some (.int .i64 hk2) := (hb3.cell (p := ⟨gh, k + 1, none⟩) (by simp; omega)).trans c2'
      generalize (wr.alloc (.cells #[.int .u8 (IntKind.u8.wrap (i : Int))] 5)).drew = w3 at *
      have hy : (x ++ ⟨#[q1]⟩ : ByteArray).size ≤ 11 := by rw [ByteArray.size_append]; have := unhide HX; show x.size + 1 ≤ 11; omega
      generalize (x ++ ⟨#[q1]⟩ : ByteArray) = y at *
      clear hHeld hcv HCV hb az cz1 cz2 zr hsz1
      have hcv := conv1D w3 0 (by omega) (by omega)
      obtain ⟨q0, hq0⟩ : ∃ q, UInt8.ofNat (0 : Int).toNat = q := ⟨_, rfl⟩
      rw [hq0] at hcv
      clear hq0
      have hsz2 : ¬ 9223372036854775807 < y.size + 1 := by omega
      have HM : Hid (∀ W, Calls Try.prog 20 #[.int .i64 hk1, .string (y ++ ⟨#[q0]⟩)] W fun e w' => e = .returned (.int .i64 (mixL hk1 (y ++ ⟨#[q0]⟩ : ByteArray).data.toList)) ∧ w' = W) := hide (fun W => mixS hk1 _ W (by rw [ByteArray.size_append]; show y.size + 1 ≤ _; omega))
      have hfar := Chain.mixL_bd hk1 (y ++ ⟨#[q0]⟩ : ByteArray).data.toList
      generalize mixL hk1 (y ++ ⟨#[q0]⟩ : ByteArray).data.toList = far at *
      have HF := hide hfar
      have HY := hide hy
      clear hfar hy
      have z3 := hb3.size
      go_wp2
      go_region_held_law (fun w7 => w7.cell? ⟨gh, k, none⟩ = some (.int .i64 hk1)) (go_keep) (first | (go_at_call 20; refine (unhide HM _).mono ?_; rintro e w' ⟨rfl, rfl⟩))
      rename_i hHeld
      have hb4 : Below w2.heap.size w2 (w3.alloc (.cells #[.int .u8 0] 5)).drew := by
        have := hb3.alloc hb3.size (.cells #[.int .u8 0] 5)
        exact ⟨this.os, this.tape, this.output, this.size, this.block⟩
      have cx2 : (w3.alloc (.cells #[.int .u8 0] 5)).drew.cell? ⟨gh, k + 1, none⟩ = some (.int .i64 hk2) := (hb4.cell (p := ⟨gh, k + 1, none⟩) (by simp; omega)).trans c2'
      generalize (w3.alloc (.cells #[.int .u8 0] 5)).drew = w4 at *
      clear hHeld hcv hb3 cy1 cy2 z3 hsz2 HM
      have hfar := unhide HF
      have bd := unhide BD
      clear HF BD
      obtain ⟨l0, hl0⟩ : ∃ l0 : Int, (hk2 - far + 65521) % 65521 = l0 := ⟨_, rfl⟩
      obtain ⟨k1, hkk⟩ : ∃ k1, k + 1 = k1 := ⟨_, rfl⟩
      rw [hkk] at cx2
      have kk : (k : Int) + 1 = (k1 : Int) := by omega
      have j1 : (0 : Int) ≤ (k1 : Int) := by omega
      have j2 : (k1 : Int) < (l.length : Int) + 1 := by omega
      have HKK := hide hkk
      clear i4 hkk c1' c2'
      have lb1 : 0 ≤ l0 := by omega
      have lb2 : l0 ≤ 65520 := by omega
      have f1 := hfar.1
      have f2 := hfar.2
      have d1 := bd.1
      have d2 := bd.2
      clear hfar bd
      have T4 := hide ((unhide T2).below hb4)
      have t4c := (unhide T4).at_ hk
      have t4f := (unhide T4).froz k
      generalize l.getD k S0 = xo at t4c
      have z4 := hb4.size
      have hy3 := unhide HY
      clear HY
      by_cases hl : l0 < 256
      · have hcv := conv1 w4 l0 lb1 (by omega)
        obtain ⟨q2, hq2⟩ : ∃ q, UInt8.ofNat l0.toNat = q := ⟨_, rfl⟩
        rw [hq2] at hcv
        have gz : g < w4.heap.size := by omega
        clear hq2
        have hsz2 : ¬ 9223372036854775807 < y.size + 1 := by omega
        have HY := hide hy3
        clear hy3
        go_wp2
        go_ret
        have tset := (unhide T4).set hk (y ++ ⟨#[q2]⟩ : ByteArray)
        have tal := tset.kept (World.grownBy_alloc (w4.setCell ⟨g, k, none⟩ (.string (y ++ ⟨#[q2]⟩ : ByteArray))) (.cells #[.int .u8 l0] 5) none) (by simp)
        have hzz : (y ++ ⟨#[q2]⟩ : ByteArray).size ≤ 12 := by rw [ByteArray.size_append]; have := unhide HY; show y.size + 1 ≤ 12; omega
        refine ⟨_, l.set k (y ++ ⟨#[q2]⟩ : ByteArray), rfl, by simpa [TN] using World.ownsRow.mono tal (show w.heap.size ≤ w1.heap.size by omega), by simp, ⟨by simpa using h5, fun u hu => ?_⟩, ?_⟩
        · rcases List.mem_or_eq_of_mem_set hu with hu | rfl
          · have := unhide HS u hu; omega
          · exact hzz
        · have hw4 : Below w.heap.size w w4 := (b1.trans ((unhide B2).mono z1)).trans (hb4.mono (by omega))
          exact (hw4.setCell (p := ⟨g, k, none⟩) (by simp; omega) _).alloc (by simp; omega) _
      · go_wp2
        exact ⟨⟨i + 1, by omega, by go_num, hb4⟩, by simp [intOf]; omega⟩
    · obtain rfl : i = 256 := by omega
      have T := hide ((unhide T2).below hb)
      go_wp2
      go_ret
      refine ⟨_, l, rfl, World.ownsRow.mono (unhide T) (by omega), rfl, ⟨h5, fun u hu => by have := unhide HS u hu; omega⟩, (b1.trans ((unhide B2).mono z1)).trans (hb.mono (by omega))⟩
end Go.Proofs.Ytgaflnkefjmblaa.Draw
