/-
  CoinShare, the document's: what it answers.
-/
import Derived.Test.YthhkjbhkginecaaShareS
namespace Go.Proofs.Ythhkjbhkginecaa.Share
set_option linter.unusedVariables false
open Go.RowKit Ints

theorem pts_len (T : Int) (ws : List Int) : (pts T ws).length = ws.length := by simp [pts]
theorem rss_len (T : Int) (ws : List Int) : (rss T ws).length = ws.length := by simp [rss]
theorem pts_at (T : Int) (ws : List Int) (k : Nat) (h : k < ws.length) : (pts T ws).getD k 0 = ptV T ws.sum (ws.getD k 0) := by simp [pts, List.getD, h]
theorem rss_at (T : Int) (ws : List Int) (k : Nat) (h : k < ws.length) : (rss T ws).getD k 0 = rsV T ws.sum (ws.getD k 0) := by simp [rss, List.getD, h]
theorem take_step (l : List Int) (k : Nat) (h : k < l.length) : l.take (k + 1) = l.take k ++ [l.getD k 0] := by
  rw [List.take_add_one, List.getElem?_eq_getElem h]; simp [List.getD, h]
theorem take_len (l : List Int) (k : Nat) (h : k ≤ l.length) : (l.take k).length = k := by simp; omega
theorem sum_bd' (l : List Int) (M : Int) : ∀ k : Nat, (∀ j, j < k → 0 ≤ l.getD j 0 ∧ l.getD j 0 ≤ M) → k ≤ l.length → 0 ≤ (l.take k).sum ∧ (l.take k).sum ≤ k * M := by
  intro k
  induction k with
  | zero => intro _ _; simp
  | succ k ih =>
    intro h hk
    have h1 := ih (fun j hj => h j (by omega)) (by omega)
    have h2 := h k (by omega)
    rw [sum_take l k (by omega)]
    have : ((k + 1 : Nat) : Int) * M = k * M + M := by rw [Int.natCast_add, Int.add_mul]; simp
    rw [this]
    omega

theorem grown_da (w : World) (n : Nat) (o : Obj) (r : Option Nat) : w.grownBy ((w.drewN n).drew.alloc o) r := by
  have h := World.grownBy_alloc (w.drewN n).drew o none
  exact ⟨h.os, h.tape, h.output, h.size, fun j hj _ => h.block j hj (by simp)⟩

theorem below_gr {B : Nat} {w W W1 : World} {r : Option Nat} (h : Below B w W) (k : W.grownBy W1 r) (hB : B ≤ W.heap.size) (hr : ∀ g, r = some g → B ≤ g) : Below B w W1 :=
  ⟨k.os.trans h.os, k.tape.trans h.tape, k.output.trans h.output, Nat.le_trans h.size k.size, fun j hj => (k.block j (by omega) (fun e => by have := hr j e.symm; omega)).trans (h.block j hj)⟩

theorem take_get (l : List Int) (k : Nat) : (l.take (k + 1)).getD k 0 = l.getD k 0 := by
  rw [List.getD_eq_getElem?_getD, List.getD_eq_getElem?_getD, List.getElem?_take]; simp
def mixV (F : Nat → Int) (P : List Int) (n k : Nat) : List Int := (List.range n).map fun i => if i < k then F i else P.getD i 0
theorem mix_len (F : Nat → Int) (P : List Int) (n k : Nat) : (mixV F P n k).length = n := by simp [mixV]
theorem mix_at (F : Nat → Int) (P : List Int) (n k i : Nat) (h : i < n) : (mixV F P n k).getD i 0 = if i < k then F i else P.getD i 0 := by simp [mixV, List.getD, h]
theorem mix_get (F : Nat → Int) (P : List Int) (n k : Nat) (h : k < n) : (mixV F P n k).getD k 0 = P.getD k 0 := by rw [mix_at F P n k k h, if_neg (by omega)]
theorem mix_zero (F : Nat → Int) (P : List Int) (n : Nat) (h : P.length = n) : mixV F P n 0 = P := by
  apply getD_eq (by rw [mix_len, h])
  intro i hi
  rw [mix_len] at hi
  rw [mix_at F P n 0 i hi, if_neg (by omega)]
theorem mix_all (F : Nat → Int) (P : List Int) (n : Nat) : mixV F P n n = (List.range n).map F := by
  unfold mixV
  apply List.map_congr_left
  intro i hi
  rw [if_pos (List.mem_range.1 hi)]
theorem mix_set (F : Nat → Int) (P : List Int) (n k : Nat) (h : k < n) : (mixV F P n k).set k (F k) = mixV F P n (k + 1) := by
  apply getD_eq (by simp [mix_len])
  intro i hi
  rw [List.length_set, mix_len] at hi
  rw [mix_at F P n (k + 1) i hi]
  by_cases e : i = k
  · subst e
    rw [List.getD_eq_getElem?_getD, List.getElem?_set_self (by rw [mix_len]; exact hi), if_pos (by omega)]; rfl
  · rw [List.getD_eq_getElem?_getD, List.getElem?_set_ne (by omega), ← List.getD_eq_getElem?_getD, mix_at F P n k i hi]
    by_cases e2 : i < k
    · rw [if_pos e2, if_pos (by omega)]
    · rw [if_neg e2, if_neg (by omega)]
theorem mix_same (F : Nat → Int) (P : List Int) (n k : Nat) (h : k < n) (hf : F k = P.getD k 0) : mixV F P n k = mixV F P n (k + 1) := by
  apply getD_eq (by rw [mix_len, mix_len])
  intro i hi
  rw [mix_len] at hi
  rw [mix_at F P n (k + 1) i hi, mix_at F P n k i hi]
  by_cases e : i = k
  · subst e; rw [if_neg (by omega), if_pos (by omega), hf]
  · by_cases e2 : i < k
    · rw [if_pos e2, if_pos (by omega)]
    · rw [if_neg e2, if_neg (by omega)]

theorem moreQ (g n c : Nat) (R : List Int) (i j q : Nat) (w : World) (B : Bool) (h : Cells w g 0 R) (hn : R.length = n) (hl : n ≤ 1048576) (hi : i < n) (hj : j < n) (hB : moreB R i j = B) :
    Calls Try.prog 34 #[.slice (some ⟨g, 0, none⟩) n c, .int .i64 i, .int .i64 j] (w.drewN q) fun e w' => e = .returned (.bool B) ∧ ∃ k, w' = w.drewN k := by
  subst hn
  have h1 : IR (w.drewN q) (.slice (some ⟨g, 0, none⟩) R.length c) R := .inr ⟨g, 0, c, rfl, hl, h⟩
  have := moreS _ R i j (w.drewN q) h1 hi hj
  refine this.mono ?_
  rintro e w' ⟨rfl, k, rfl⟩
  exact ⟨by rw [← hB]; rfl, _, World.drewN_drewN _ _ _⟩

set_option maxHeartbeats 1600000 in
theorem shareS_yes (v : Value) (ws : List Int) (T : Int) (w : World) (h : IR w v ws) (hg : wgtB ws = true) (hT : 0 ≤ T) (hT' : T ≤ 1000000000000000) :
    Calls Try.prog 10 #[.int .i64 T, v] w fun e w' => ∃ g c, e = .returned (.tuple #[.slice (some ⟨g, 0, none⟩) ws.length c, .bool true]) ∧ Cells w' g 0 (shareV T ws) ∧ w.heap.size ≤ g ∧ Below w.heap.size w w' := by
  have hw := wgtS v ws w h
  obtain ⟨g1, g2, g3, g4, g5, g6⟩ := wgt_good hg
  have s0 : ¬ ws.sum = 0 := by omega
  rw [g5, hg] at hw
  rcases h with ⟨rfl, rfl⟩ | ⟨b, o, cap, rfl, _, hc⟩
  · simp at g6
  have hbs := hc.1
  have HC := hide hc; clear hc
  have PB : Hid (∀ j, j < ws.length → 0 ≤ (pts T ws).getD j 0 ∧ (pts T ws).getD j 0 ≤ 1000000000000000) := fun j hj => by
    have := g2 j hj
    have := ptBd hT hT' this.1 this.2.1 this.2.2 g3 g4
    rw [pts_at T ws j hj]; unfold ptV; omega
  have PA : Hid (∀ k, k < ws.length → (pts T ws).getD k 0 = ptV T ws.sum (ws.getD k 0)) := fun k hk => pts_at T ws k hk
  have RA : Hid (∀ k, k < ws.length → (rss T ws).getD k 0 = rsV T ws.sum (ws.getD k 0)) := fun k hk => rss_at T ws k hk
  have PL := hide (pts_len T ws)
  have RL := hide (rss_len T ws)
  have G2 := hide g2; clear g2 hg g5
  generalize hS : ws.sum = S at *
  have HS := hide hS; clear hS
  have FIN : Hid (∀ i, finV T ws i = (pts T ws).getD i 0 + if (cnt (rss T ws) i ws.length : Int) < T - (pts T ws).sum then 1 else 0) := fun i => rfl
  have SHV : Hid (shareV T ws = (List.range ws.length).map (finV T ws)) := rfl
  generalize pts T ws = P at *
  generalize rss T ws = R at *
  generalize finV T ws = F at *
  generalize shareV T ws = V at *
  go_enter Try.func10, Try.ntmps10
  go_wp2_with (first | (go_at_call 33; refine hw.mono ?_; rintro e w' ⟨rfl, rfl⟩))
  clear hw
  go_loopw [8, 9, 10, 11] (fun p r l i wr => ∃ k g c g' c' : Nat, k ≤ ws.length ∧ p = .slice (some ⟨g, 0, none⟩) k c ∧ r = .slice (some ⟨g', 0, none⟩) k c' ∧ l = .int .i64 (T - (P.take k).sum) ∧ i = .int .i64 k ∧ g ≠ g' ∧ Hid (Own wr w'.heap.size g c (P.take k)) ∧ Hid (Own wr w'.heap.size g' c' (R.take k)) ∧ Below w'.heap.size w' wr) (fun _ _ _ i _ => ws.length - (intOf i).toNat)
  case atStart =>
    refine ⟨0, w'.heap.size, 0, w'.heap.size + 1, 0, Nat.zero_le _, rfl, rfl, by simp, rfl, by omega, ?_, ?_, ((Below.refl _ _).alloc (Nat.le_refl _) _).alloc (by simp) _⟩
    · exact Own.kept (Own.new w' w'.heap.size (Nat.le_refl _)) (World.grownBy_alloc _ _ none) (by simp)
    · have := Own.new (w'.alloc (.cells #[] 3)) w'.heap.size (by simp)
      show Own _ _ _ _ _
      simpa using this
  case round =>
    obtain ⟨k, g, c, g', c', hk, rfl, rfl, rfl, rfl, hgg, h1, h2, hb⟩ := hrel
    have hsb := sum_bd' P 1000000000000000 k (fun j hj => unhide PB j (by omega)) (by have := unhide PL; omega)
    by_cases hlt : k < ws.length
    · have hx := ((unhide HC).2 k hlt).1
      have hx' : wr.cell? ⟨b, o + k, none⟩ = some (.int .i64 (ws.getD k 0)) := by rw [hb.cell (p := ⟨b, o + k, none⟩) hbs]; exact hx
      have hp := unhide PA k hlt
      have hr := unhide RA k hlt
      have hG := unhide G2 k hlt
      obtain ⟨b1, b2, b3, b4, b5, b6, b7, b8, b9, b10, b11, b12⟩ := ptBd hT hT' hG.1 hG.2.1 hG.2.2 g3 g4
      have i1 : (0 : Int) ≤ (k : Int) := by omega
      have i2 : (k : Int) < (ws.length : Int) := by omega
      have hP1 := take_step P k (by have := unhide PL; omega)
      have hR1 := take_step R k (by have := unhide RL; omega)
      have hS1 := sum_take P k (by have := unhide PL; omega)
      have lP := take_len P k (by have := unhide PL; omega)
      have lR := take_len R k (by have := unhide RL; omega)
      rw [hp] at hP1 hS1; rw [hr] at hR1; unfold ptV at hp
      have HPV := hide hp
      unfold ptV at hP1 hS1; unfold rsV at hR1
      have HP1 := hide hP1; have HR1 := hide hR1; have HS1 := hide hS1; have LP := hide lP; have LR := hide lR
      have hwb := hb.size
      have gl := (unhide h1).lt
      have gl' := (unhide h2).lt
      clear hP1 hR1 hS1 hp hr hx hG lP lR
      generalize ws.getD k 0 = x at *
      generalize hy : (P.take k).sum = y at *
      go_wp2
      go_quiet (fail)
      go_wp2
      go_region_held_law (fun w2 => w2.cell? ⟨b, o + k, none⟩ = some (.int .i64 x)) (first | go_keep | (rw [hgr.cell_far _ (by simp; omega) (by simp; omega)]; go_keep)) (first | (refine stepApp _ rfl _ _ rfl w'.heap.size g c _ k (P.take k) _ (unhide LP) rfl (Own.kept (unhide h1) (grown_da _ _ _ none) (by simp)) rfl (MapKept.heap_alloc _ _).1 (by have := unhide LP; omega) (by simp; omega) ?_; intro ga ca w1 ho1 hgr hat1 hlt1))
      have e1 : IntKind.i64.wrap (IntKind.i64.wrap (IntKind.i64.wrap (T.tdiv S) * x) + IntKind.i64.wrap ((T % S * x).tdiv S)) = T / S * x + T % S * x / S := by
        rw [IntWalk.i64_quo T S ⟨hT, by omega, g3⟩, IntWalk.i64_quo (T % S * x) S ⟨b5, by omega, g3⟩, IntWalk.i64_in (T / S * x) (by omega), IntWalk.i64_in _ (by omega)]
      rw [e1, ← unhide HP1] at ho1
      have hg1 : wr.grownBy w1 (some g) := grown_trans (grown_da wr nq _ (some g)) hgr
      have H1 := hide ho1
      have H2 : Hid (Own w1 w'.heap.size g' c' (R.take k)) := (unhide h2).kept hg1 (by simp; omega)
      have hb1 := below_gr hb hg1 hwb (fun q hq => by cases hq; omega)
      have hga : w'.heap.size ≤ ga ∧ ga ≠ g' := by
        rcases hat1 with rfl | rfl
        · exact ⟨gl.1, hgg⟩
        · simp; omega
      have hs1 := hg1.size
      rename_i hHeld
      clear ho1 hgr hat1 hHeld e1 h1 h2 hg1 HP1
      go_wp2_with (first
                         | (at_builtin
                            refine listApp _ rfl _ _ rfl w'.heap.size g' c' _ k (R.take k) _ (unhide LR) rfl (Own.kept (unhide H2) (World.grownBy_alloc _ _ none) (by simp)) rfl (MapKept.heap_alloc _ _).1 (by have := unhide LR; omega) (by simp; omega) ?_
                            intro gb cb w2 ho2 hgr2 hat2 hlt2
                            rw [← unhide HR1] at ho2
                            have hg2 : w1.grownBy w2 (some g') := grown_trans (World.grownBy_alloc _ _ (some g')) hgr2
                            have H3 := hide ho2
                            have H4 : Hid (Own w2 w'.heap.size ga ca (P.take (k + 1))) := (unhide H1).kept hg2 (by simp; omega)
                            have hb2 := below_gr hb1 hg2 (by omega) (fun q hq => by cases hq; omega)
                            have hgb : ga ≠ gb := by
                              rcases hat2 with rfl | rfl
                              · exact hga.2
                              · simp; omega
                            have hcl : w2.cell? ⟨ga, k, none⟩ = some (.int .i64 (T / S * x + T % S * x / S)) := by
                              have h0 := ((Own.cells (unhide H4)).2 k (by rw [take_len P (k + 1) (by have := unhide PL; omega)]; omega)).1
                              rw [Nat.zero_add, take_get P k, unhide HPV] at h0
                              exact h0
                            clear ho2 hgr2 hat2 hg2 H1 H2 hb1 HR1))
      exact ⟨⟨k + 1, ga, ca, gb, cb, by omega, rfl, rfl, by rw [unhide HS1]; go_num, by go_num, hgb, H4, H3, hb2⟩, by simp [intOf]; omega⟩
    · obtain rfl : k = ws.length := by omega
      have eP : P.take ws.length = P := List.take_of_length_le (by have := unhide PL; omega)
      have eR : R.take ws.length = R := List.take_of_length_le (by have := unhide RL; omega)
      rw [eP] at h1 hsb ⊢
      rw [eR] at h2
      have C1 := hide (unhide h1).cells
      have C2 := hide (unhide h2).cells
      have gl := (unhide h1).lt
      have gl' := (unhide h2).lt
      clear h1 h2 eP eR
      generalize hL : T - P.sum = L at *
      have hLb : -16000000000000000 ≤ L ∧ L ≤ 1000000000000000 := by omega
      clear hL hsb
      go_wp2
      go_loopw [13] (fun i wr2 => ∃ k : Nat, k ≤ ws.length ∧ i = .int .i64 k ∧ Hid (Cells wr2 g 0 (mixV F P ws.length k)) ∧ Hid (Cells wr2 g' 0 R) ∧ Below w'.heap.size w' wr2) (fun i _ => ws.length - (intOf i).toNat)
      case atStart => exact ⟨0, Nat.zero_le _, rfl, by rw [mix_zero F P ws.length (unhide PL)]; exact C1, C2, hb⟩
      case round =>
        clear hb C1 C2
        obtain ⟨k, hk2, rfl, D1, D2, hb⟩ := hrel
        by_cases hlt : k < ws.length
        · have hF := unhide FIN k
          have hlm : k < (mixV F P ws.length k).length := by rw [mix_len]; exact hlt
          have hc0 := (unhide D1).2 k hlm
          rw [mix_get F P ws.length k hlt, Nat.zero_add] at hc0
          obtain ⟨hc1, hc2⟩ := hc0
          have hPb := unhide PB k hlt
          have DS := hide ((unhide D1).set hlm (F k))
          have DE := hide (mix_set F P ws.length k hlt)
          have DM : Hid (F k = P.getD k 0 → mixV F P ws.length k = mixV F P ws.length (k + 1)) := mix_same F P ws.length k hlt
          have HF := hide hF; clear hF hlm
          generalize P.getD k 0 = p at *
          go_wp2
          go_loopw [14, 15] (fun a j wr3 => ∃ m q : Nat, m ≤ ws.length ∧ j = .int .i64 m ∧ a = .int .i64 (cnt R k m) ∧ wr3 = wr.drewN q) (fun _ j _ => ws.length - (intOf j).toNat)
          case atStart => exact ⟨0, 0, Nat.zero_le _, rfl, rfl, rfl⟩
          case round =>
            obtain ⟨m, q, hm, rfl, rfl, rfl⟩ := hrel
            have hcl := cnt_le R k m
            by_cases hmt : m < ws.length
            · have hst := cnt_step R k m
              by_cases hmk : m = k
              · have hmk' : ((m : Int) != (k : Int)) = false := by simp; omega
                have hst' : cnt R k (m + 1) = cnt R k m := by rw [hst, hmk, more_irr]; simp
                have HST := hide hst'
                clear hst hst' hmk
                generalize cnt R k m = C at *
                go_wp2
                exact ⟨⟨m + 1, _, by omega, by go_num, by rw [unhide HST], rfl⟩, by simp [intOf]; omega⟩
              · have hmk' : ((m : Int) != (k : Int)) = true := by simp; omega
                cases hmb : moreB R m k
                · have HST : Hid (cnt R k (m + 1) = cnt R k m) := by show _ = _; rw [hst, hmb]; simp
                  have HMB := hide hmb
                  clear hst hmk hmb
                  generalize cnt R k m = C at *
                  go_wp2_with (first | (go_at_call 34; refine (moreQ g' ws.length c' R m k _ _ _ (unhide D2) (unhide RL) (by omega) hmt hlt (unhide HMB)).mono ?_; rintro e w3 ⟨rfl, q2, rfl⟩))
                  exact ⟨⟨m + 1, _, by omega, by go_num, by rw [unhide HST], rfl⟩, by simp [intOf]; omega⟩
                · have HST : Hid (cnt R k (m + 1) = cnt R k m + 1) := by show _ = _; rw [hst, hmb]; simp
                  have HMB := hide hmb
                  clear hst hmk hmb
                  generalize cnt R k m = C at *
                  go_wp2_with (first | (go_at_call 34; refine (moreQ g' ws.length c' R m k _ _ _ (unhide D2) (unhide RL) (by omega) hmt hlt (unhide HMB)).mono ?_; rintro e w3 ⟨rfl, q2, rfl⟩))
                  exact ⟨⟨m + 1, _, by omega, by go_num, by rw [unhide HST]; go_num, rfl⟩, by simp [intOf]; omega⟩
            · obtain rfl : m = ws.length := by omega
              by_cases hcl2 : (cnt R k ws.length : Int) < L
              · have hF : F k = p + 1 := by rw [unhide HF, if_pos hcl2]
                have DS2 := unhide DS
                rw [unhide DE, Nat.zero_add, hF] at DS2
                have DS3 := hide DS2
                clear DS2 hF
                generalize cnt R k ws.length = C at *
                go_wp2
                exact ⟨⟨k + 1, by omega, by go_num, unhide DS3, (unhide D2).kept (grown_trans (drew_grown _ q (some g)) (set_grown (World.drewN _ q) g k _)) (by simp; omega), (show Below w'.heap.size w' (World.drewN _ q) from ⟨hb.os, hb.tape, hb.output, hb.size, hb.block⟩).setCell gl.1 _⟩, by simp [intOf]; omega⟩
              · have hF : F k = p := by rw [unhide HF, if_neg hcl2]; simp
                have D1' := unhide D1
                rw [unhide DM hF] at D1'
                have D2' := hide D1'
                clear hF D1'
                generalize cnt R k ws.length = C at *
                go_wp2
                exact ⟨⟨k + 1, by omega, by go_num, unhide D2', unhide D2, ⟨hb.os, hb.tape, hb.output, hb.size, hb.block⟩⟩, by simp [intOf]; omega⟩
        · obtain rfl : k = ws.length := by omega
          have hV := unhide D1
          rw [mix_all F P, ← unhide SHV] at hV
          have HV := hide hV; clear hV
          go_wp2
          go_ret2
          exact ⟨g, c, rfl, unhide HV, gl.1, hb⟩
end Go.Proofs.Ythhkjbhkginecaa.Share
