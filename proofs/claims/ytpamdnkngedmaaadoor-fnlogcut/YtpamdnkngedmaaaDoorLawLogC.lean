/-
  FnLogCut.
-/
import Derived.Test.YtpamdnkngedmaaaDoorLawLogR
import Derived.Test.YtpamdnkngedmaaaDoorDrawLf
import Derived.Test.YtpamdnkngedmaaaDoorDrawTx
import Derived.Test.YtpamdnkngedmaaaDoorAppK
namespace Go.Proofs.YtpamdnkngedmaaaDoor.Fr
set_option linter.unusedVariables false
open Go.RowKit
open _root_.Go.Proofs.YtpamdnkngedmaaaDoor.Text (Env)
open Txt (S0 TC TR waSm txt_eq txt_ne)
open Draw (TN Bytes drawHead drawFrm listAppT grown_trans grown_far below_of)
open Ints (listApp)

/-- where the frames end -/
def endsF (T : List ByteArray) (k : Nat) : List Int := (List.range k).map fun i => ((frs (T.take (i + 1))).length : Int)
theorem endsF_len (T : List ByteArray) (k : Nat) : (endsF T k).length = k := by simp [endsF]
theorem endsF_step (T : List ByteArray) (k : Nat) : endsF T k ++ [((frs (T.take (k + 1))).length : Int)] = endsF T (k + 1) := by simp [endsF, List.range_succ]
theorem endsF_at (T : List ByteArray) {k j : Nat} (h : j < k) : (endsF T k).getD j 0 = ((frs (T.take (j + 1))).length : Int) := by simp [endsF, List.getD, h]
theorem TN.take {W : World} {b c : Nat} {l : List ByteArray} (h : TR W (.slice (some ⟨b, 0, none⟩) l.length c) l) {n : Nat} (hn : n ≤ l.length) : TR W (.slice (some ⟨b, 0, none⟩) n c) (l.take n) := by
  rcases h with ⟨rfl, _⟩ | ⟨b', o, cap, e, hlt, hc⟩
  · obtain rfl : n = 0 := by simpa using hn
    exact .inl ⟨rfl, _, _, rfl⟩
  · simp only [Value.slice.injEq, Option.some.injEq, Addr.mk.injEq, and_true, true_and] at e
    obtain ⟨⟨rfl, rfl⟩, rfl⟩ := e
    refine .inr ⟨b, 0, c, ?_, hlt, fun i hi => ?_⟩
    · rw [List.length_take, Nat.min_eq_left hn]
    · rw [List.length_take] at hi
      rw [hc i (by omega)]
      simp [List.getD, show i < n by omega]
theorem frs_bound {T : List ByteArray} (h : Short T) : (frs T).length ≤ 1050 * T.length := by
  induction T with
  | nil => simp [frs]
  | cons t ts ih =>
    have h1 := ih (fun u hu => h u (List.mem_cons_of_mem _ hu))
    have h2 := frB_len (t := t.data.toList) (by rw [toL]; exact h t (by simp))
    rw [frs_cons, List.length_append, List.length_cons]
    omega

set_option maxRecDepth 4000 in
set_option maxHeartbeats 8000000 in
theorem lawLogC (a : Option Addr) (len cap : Nat) (a' : Option Addr) (len' cap' : Nat) (tp : TypeId) (v : Value) (w : World) (h : Bytes w a len cap) (h' : Bytes w a' len' cap') (he : Env w) (hv : ErrAt w tp v) :
    Calls Tryd.prog 3 #[.slice a len cap, .slice a' len' cap'] w fun e w' => e = .returned (.bool true) ∧ Below w.heap.size w w' := by
  have HBy := hide h
  have HBy' := hide h'
  clear h h'
  by_cases hbig : 1048576 < len
  · have hbi : (1048576 : Int) < (len : Int) := by omega
    go_enter Tryd.func3, Tryd.ntmps3
    go_wp2_with (fail)
    go_ret
    exact ⟨rfl, Below.refl _ _⟩
  have hbi : (len : Int) ≤ 1048576 := by omega
  by_cases hbig' : 1048576 < len'
  · have hbi' : (1048576 : Int) < (len' : Int) := by omega
    go_enter Tryd.func3, Tryd.ntmps3
    go_wp2_with (fail)
    go_ret
    exact ⟨rfl, Below.refl _ _⟩
  have hbi' : (len' : Int) ≤ 1048576 := by omega
  go_enter Tryd.func3, Tryd.ntmps3
  go_wp2_with (fail)
  refine (drawHead a len cap w (unhide HBy)).mono ?_
  rintro e w1 ⟨v0, l, rfl, ht1, hI, hb1⟩
  go_wp2_with (fail)
  refine (drawFrm a' len' cap' w1 (Draw.Bytes.kept (unhide HBy') hb1)).mono ?_
  rintro e w2 ⟨z, rfl, hz, hb2⟩
  have T2 := hide (ht1.below hb2)
  have hbb := below_trans hb1 hb2
  have HE := hide he
  have HV := hide hv
  have hl5 := hI.1
  have HS : Hid (∀ u ∈ l ++ [z], u.size ≤ 1100) := hide (fun u hu => by
    rcases List.mem_append.1 hu with hu | hu
    · have := hI.2 u hu; omega
    · rw [List.mem_singleton.1 hu]; exact hz)
  have HZ : Hid (w.heap.size ≤ (w2.alloc (.cells #[.string z] 9)).heap.size) := hide (by have := hbb.size; simp; omega)
  have HLL : Hid (l.length + [z].length ≤ 4000000) := hide (by simp; omega)
  have HBB := hide hbb
  clear ht1 hI hb1 hb2 hbb he hv HBy HBy' hz
  obtain ⟨x0, c0, rfl⟩ := (unhide T2).form
  go_wp2_with (first
    | (at_builtin
       refine listAppT _ rfl _ _ rfl w.heap.size w2.heap.size 1 1 l.length _ l [z] rfl rfl rfl ((unhide T2).below ((Below.refl _ _).alloc (Nat.le_refl _) _)) rfl (newOneT w2 z _) (by simp) (unhide HLL) (unhide HZ) ?_
       intro g1 c1 w3 ht3 hg3 hl3
       have hb3 := hide ((unhide HBB).grown (grown_trans (World.grownBy_alloc w2 _ _) hg3) (unhide HBB).size (fun k e => ((unhide T2).lt k e).1))
       have T3 := hide ht3
       clear ht3 hg3)
    | fail)
  have hK : (l ++ [z]).length = l.length + 1 := by simp
  have hK6 : l.length + 1 ≤ 6 := by omega
  generalize l ++ [z] = T at *
  generalize l.length + 1 = K at *
  have O3 := hide (Ints.Own.new w3 w.heap.size (unhide hb3).size)
  have B3 := hide ((unhide hb3).alloc (o := .cells #[] 3) (unhide hb3).size)
  have T4 := hide ((unhide T3).below ((Below.refl w3.heap.size w3).alloc (Nat.le_refl _) (.cells #[] 3)))
  have z3 : w3.heap.size < (w3.alloc (.cells #[] 3)).heap.size := by simp
  obtain ⟨W4, hW4⟩ : ∃ W4, w3.alloc (.cells #[] 3) = W4 := ⟨_, rfl⟩
  rw [hW4] at O3 B3 T4 z3 ⊢
  clear hW4 T2 HBB HLL HZ T3 hb3
  have hng : w3.heap.size ≠ g1 := by omega
  have hcap : K ≤ c1 := by
    rcases (unhide T4).2 with ⟨e, _⟩ | ⟨gg, cp, cur, e, _, _, h1, _⟩
    · cases e
    · simp only [Value.slice.injEq] at e
      obtain ⟨_, _, rfl⟩ := e
      omega
  have hg1w : g1 < W4.heap.size := by omega
  go_loopw [6, 7, 8] (fun t6 t7 t8 wr => ∃ (j g c : Nat), j ≤ K ∧ t8 = .int .i64 j ∧ t6 = .string (Num.bytesOf (frs (T.take j))) ∧ t7 = .slice (some ⟨g, 0, none⟩) j c ∧ g ≠ g1 ∧ Hid (Ints.Own wr w.heap.size g c (endsF T j)) ∧ Hid (Short (T.take j)) ∧ Hid (TN wr w.heap.size (.slice (some ⟨g1, 0, none⟩) K c1) T) ∧ Hid (Below w.heap.size w wr) ∧ W4.heap.size ≤ wr.heap.size) (fun _ _ t8 _ => K - (intOf t8).toNat)
  case atStart => exact ⟨0, w3.heap.size, 0, Nat.zero_le _, rfl, rfl, rfl, hng, O3, hide (fun u hu => by simp at hu), T4, B3, Nat.le_refl _⟩
  case round =>
    obtain ⟨j, g, c, hj, rfl, rfl, rfl, hgg, hO, hSh, hT, hB, hsz⟩ := hrel
    clear O3 B3 T4
    by_cases hlt : j < K
    · have hjT : j < T.length := by omega
      have i1 : (0 : Int) ≤ (j : Int) := by omega
      have i2 : (j : Int) < (K : Int) := by omega
      have cz : wr.cell? ⟨g1, j, none⟩ = some (.string (T.getD j S0)) := by
        rcases (unhide hT).tr with ⟨h0, _⟩ | ⟨b, o, cp, e, _, hc⟩
        · rw [h0] at hjT; simp at hjT
        · simp only [Value.slice.injEq, Option.some.injEq, Addr.mk.injEq, and_true] at e
          obtain ⟨⟨rfl, rfl⟩, _⟩ := e
          have := hc j hjT
          rwa [Nat.zero_add] at this
      have hxs : (T.getD j S0).size ≤ 1100 := unhide HS _ (by simp [List.getD, hjT])
      have hst := frs_take hjT
      have htk : T.take (j + 1) = T.take j ++ [T.getD j S0] := by rw [List.take_add_one]; simp [List.getD, hjT]
      have HTK := hide htk
      have HST := hide hst
      clear hst htk
      have hbd := frs_bound (unhide hSh)
      have hlen : (T.take j).length = j := by rw [List.length_take]; omega
      rw [hlen] at hbd
      have hbz := bytesOf_size (frs (T.take j))
      have HF := hide (frameI (T.getD j S0))
      have HFS := hide (frameS (T.getD j S0))
      by_cases hx1 : (T.getD j S0).size ≤ 1000
      · have hxl : (T.getD j S0).data.toList.length ≤ 1000 := by rw [toL]; exact hx1
        rw [frT_of hxl] at HF HFS
        have HC := hide (cat_bytes (frs (T.take j)) (frB (T.getD j S0).data.toList))
        rw [← unhide HST] at HC
        have hfz := bytesOf_size (frB (T.getD j S0).data.toList)
        have hfl4 := frB_pos (T.getD j S0).data.toList
        have hfl5 := frB_len hxl
        have hlen2 := congrArg List.length (unhide HST)
        rw [List.length_append] at hlen2
        have hSh2 : Hid (Short (T.take (j + 1))) := hide (fun u hu => by
          rw [unhide HTK] at hu
          rcases List.mem_append.1 hu with hu | hu
          · exact unhide hSh u hu
          · rw [List.mem_singleton.1 hu]; exact hx1)
        have HEND := hide (endsF_step T j)
        generalize T.getD j S0 = x at *
        generalize Num.bytesOf (frB x.data.toList) = F at *
        generalize (frB x.data.toList).length = fl at *
        generalize (frs (T.take (j + 1))).length = el at *
        generalize (frs (T.take j)).length = bl at *
        generalize Num.bytesOf (frs (T.take j)) = G at *
        obtain ⟨hFn, hFi⟩ := not_nil (F := F) (by omega)
        clear HST HTK hSh
        go_wp2_with (fail)
        refine (unhide HF _ (by unfold maxLen; omega) ((unhide HE).kept (unhide hB)).1).mono ?_
        rintro e w5 ⟨rfl, hb5⟩
        have cz5 := (hb5.cell (p := ⟨g1, j, none⟩) (by show g1 < wr.heap.size; omega)).trans cz
        have O5 := hide ((unhide hO).below hb5)
        have T5 := hide ((unhide hT).below hb5)
        have B5 := hide (below_trans (unhide hB) hb5)
        have z5 : W4.heap.size ≤ w5.heap.size := Nat.le_trans hsz hb5.size
        clear hb5 cz hO hT hB HF
        go_wp2_with (fail)
        refine (unhide HFS _ (by unfold maxLen; omega)).mono ?_
        rintro e w6 ⟨rfl, hb6⟩
        have O6 := hide ((unhide O5).below hb6)
        have T6 := hide ((unhide T5).below hb6)
        have B6 := hide (below_trans (unhide B5) hb6)
        have z6 : W4.heap.size ≤ w6.heap.size := Nat.le_trans z5 hb6.size
        clear hb6 cz5 O5 T5 B5 HFS
        have hz6w := (unhide B6).size
        have HZ6 : Hid (w.heap.size ≤ (w6.alloc (.cells #[.int .i64 el] 3)).heap.size) := hide (by simp; omega)
        have HL6 : Hid ((endsF T j).length ≤ 1000000) := hide (by rw [endsF_len]; omega)
        have hbe : ((bl + fl : Nat) : Int) = (el : Int) := by omega
        go_wp2_with (first
          | (at_builtin
             refine listApp _ rfl _ _ rfl w.heap.size g c w6.heap.size j (endsF T j) (el : Int) (endsF_len T j) rfl ((unhide O6).kept (World.grownBy_alloc _ _ none) (by simp)) rfl (MapKept.heap_alloc _ _).1 (unhide HL6) (unhide HZ6) ?_
             intro g7 c7 w7 ho7 hg7 hgn7 hl7
             rw [unhide HEND] at ho7
             have O7 := hide ho7
             have hgw := ((unhide O6).lt).1
             have hG7 := grown_trans (World.grownBy_alloc w6 (.cells #[.int .i64 el] 3) (some g)) hg7
             have B7 := hide ((unhide B6).grown hG7 hz6w (fun k e => by cases e; exact hgw))
             have T7 := hide ((unhide T6).kept hG7 (by intro q e; cases e; simp [Value.ownBlock]; omega))
             have hgg7 : g7 ≠ g1 := by
               rcases hgn7 with e | e
               · rw [← e]; exact hgg
               · rw [World.size_alloc] at e; omega
             have z7 : W4.heap.size ≤ w7.heap.size := Nat.le_trans z6 hG7.size
             clear ho7 hg7 hG7 hgw hgn7)
          | fail)
        exact ⟨⟨j + 1, g7, c7, by omega, by simp, congrArg Value.string (unhide HC), rfl, hgg7, O7, hSh2, T7, B7, z7⟩, by simp [intOf]; omega⟩
      · have hxl : ¬ (T.getD j S0).data.toList.length ≤ 1000 := by rw [toL]; exact hx1
        rw [frT_no hxl] at HF HFS
        have hF0 : (Num.bytesOf [] : ByteArray) = ⟨#[]⟩ := rfl
        rw [hF0] at HF HFS
        have hx2 : (1000 : Int) < ((T.getD j S0).size : Int) := by omega
        generalize T.getD j S0 = x at *
        clear HST HTK hSh
        go_wp2_with (fail)
        refine (unhide HF _ (by unfold maxLen; omega) ((unhide HE).kept (unhide hB)).1).mono ?_
        rintro e w5 ⟨rfl, hb5⟩
        have cz5 := (hb5.cell (p := ⟨g1, j, none⟩) (by show g1 < wr.heap.size; omega)).trans cz
        have B5 := hide (below_trans (unhide hB) hb5)
        have z5 : W4.heap.size ≤ w5.heap.size := Nat.le_trans hsz hb5.size
        clear hb5 cz hO hT hB HF
        go_wp2_with (fail)
        refine (unhide HFS _ (by unfold maxLen; omega)).mono ?_
        rintro e w6 ⟨rfl, hb6⟩
        have cz6 := (hb6.cell (p := ⟨g1, j, none⟩) (by show g1 < w5.heap.size; omega)).trans cz5
        have B6 := hide (below_trans (unhide B5) hb6)
        clear hb6 cz5 B5 HFS
        go_wp2_with (fail)
        go_ret
        exact ⟨by simp, unhide B6⟩
    · obtain rfl : j = K := by omega
      have hTT : T.take j = T := by rw [List.take_of_length_le]; omega
      rw [hTT] at hSh ⊢
      have HRD := hide (read_all (unhide hSh))
      have hbd := frs_bound (unhide hSh)
      have hA1 := hide (bytesOf_list (frs T))
      have hA2 := bytesOf_size (frs T)
      generalize Num.bytesOf (frs T) = A at *
      obtain ⟨cut, hcut, hcl⟩ : ∃ cut : Nat, ((len : Int) * 31) % ((A.size : Int) + 1) = (cut : Int) ∧ cut ≤ A.size :=
        ⟨(((len : Int) * 31) % ((A.size : Int) + 1)).toNat, by have := Int.emod_nonneg ((len : Int) * 31) (show (A.size : Int) + 1 ≠ 0 by omega); omega, by have := Int.emod_lt_of_pos ((len : Int) * 31) (show 0 < (A.size : Int) + 1 by omega); omega⟩
      have HA2 := hide hA2
      clear hA2
      have hAs : A.size ≤ 6300 := by rw [unhide HA2]; omega
      go_wp2_with (fail)
      simp only [hcut]
      refine (readI A tp v wr (by unfold maxLen; omega) ((unhide HE).kept (unhide hB)) ((unhide HV).kept (unhide hB))).mono ?_
      rintro e w5 ⟨v5, ts5, n5, rfl, ht5, ho5, hb5⟩
      have hr5 := ho5.read (by omega)
      rw [unhide hA1] at hr5
      obtain ⟨rfl, hn5⟩ := hr5.uniq (unhide HRD)
      rw [← unhide HA2] at hn5
      subst hn5
      have R5 := hide ht5.tr
      have T5 := hide ((unhide hT).tr.kept hb5)
      have O5 := hide ((unhide hO).below hb5)
      have B5 := hide (below_trans (unhide hB) hb5)
      clear hO hT hB ht5 ho5 hr5 hb5
      have hXs : (A.extract 0 cut).size = cut := by rw [ByteArray.size_extract]; omega
      have HX := hide (show (A.extract 0 cut).data.toList = (frs ts5).take cut by rw [ext_list, unhide hA1]; simp)
      generalize hX : A.extract 0 cut = X at *
      have hci : (cut : Int) ≤ (A.size : Int) := by omega
      go_wp2_with (fail)
      refine (readI X tp v w5 (by unfold maxLen; omega) ((unhide HE).kept (unhide B5)) ((unhide HV).kept (unhide B5))).mono ?_
      rintro e w6 ⟨v6, ts6, n6, rfl, ht6, ho6, hb6⟩
      have hr6 := ho6.read (by omega)
      rw [unhide HX] at hr6
      have hn6 := hr6.1.le
      rw [List.length_take] at hn6
      have HR6 := hide hr6
      have R6 := hide ht6.tr
      have R56 := hide ((unhide R5).kept hb6)
      have T6 := hide ((unhide T5).kept hb6)
      have O6 := hide ((unhide O5).below hb6)
      have B6 := hide (below_trans (unhide B5) hb6)
      clear ht6 ho6 hr6 hb6 R5 T5 O5 B5
      go_wp2_with (fail)
      subst hK
      have hnc : ¬ (cut : Int) < (n6 : Int) := by omega
      have hnc2 : decide (cut < n6) = false := decide_eq_false (by omega)
      refine (waSm v5 _ ts5 ts5 w6 (unhide R56) (unhide T6) (by unfold maxLen; omega) (by unfold maxLen; omega)).mono ?_
      rintro e w7 ⟨rfl, k7, rfl⟩
      have hd : decide (ts5 = ts5) = true := by simp
      rw [hd]
      have hb7 : Below w6.heap.size w6 (w6.drewN k7) := ⟨rfl, rfl, rfl, Nat.le_refl _, fun _ _ => rfl⟩
      have R7 := hide ((unhide R6).kept hb7)
      have T7 := hide ((unhide T6).kept hb7)
      have O7 := hide ((unhide O6).below hb7)
      have B7 := hide (below_trans (unhide B6) hb7)
      generalize w6.drewN k7 = W7 at *
      clear R6 R56 T6 O6 B6 hb7 hd hn6 hcut hbd
      have HD0 : Hid ((frs (ts5.take 0)).length ≤ cut) := hide (by simp [frs])
      go_wp2_with (fail)
      go_loop [15] (fun t15 => ∃ n : Nat, n ≤ ts5.length ∧ t15 = .int .i64 n ∧ Hid ((frs (ts5.take n)).length ≤ cut)) (fun t15 => ts5.length - (intOf t15).toNat)
      case atStart => exact ⟨0, Nat.zero_le _, rfl, HD0⟩
      case round =>
        obtain ⟨n, hn, rfl, hd⟩ := hrel
        clear HD0
        have i1 : (0 : Int) ≤ (n : Int) := by omega
        have hnc1 : n ≤ c1 := by omega
        have hnc3 : (n : Int) ≤ (c1 : Int) := by omega
        have HFIN : Hid ((n < ts5.length → cut < (frs (ts5.take (n + 1))).length) → ts6 = ts5.take n) := hide (fun h2 => by
          have h3 := read_cut (unhide hSh) hn (unhide hd) h2 (by rw [← unhide HA2]; exact hcl)
          exact ((unhide HR6).uniq h3).1)
        have TT := hide (TN.take (unhide T7) hn)
        by_cases hlt : n < ts5.length
        · have i2 : (n : Int) < (ts5.length : Int) := by omega
          have cz := (unhide O7).at_ (j := n) (by rw [endsF_len]; exact hlt)
          rw [endsF_at ts5 hlt] at cz
          by_cases hle : (frs (ts5.take (n + 1))).length ≤ cut
          · obtain ⟨el, hel⟩ : ∃ el, (frs (ts5.take (n + 1))).length = el := ⟨_, rfl⟩
            have HD2 := hide hle
            rw [hel] at cz hle
            clear hel
            have hle2 : (el : Int) ≤ (cut : Int) := by omega
            have hle3 : decide (el ≤ cut) = true := decide_eq_true hle
            clear HFIN
            go_wp2_with (fail)
            exact ⟨⟨n + 1, by omega, by simp, HD2⟩, by simp [intOf]; omega⟩
          · have hfin := unhide HFIN (fun _ => by omega)
            generalize (frs (ts5.take (n + 1))).length = el at *
            have hle2 : ¬ (el : Int) ≤ (cut : Int) := by omega
            have hle3 : decide (el ≤ cut) = false := decide_eq_false hle
            clear HFIN
            subst hfin
            go_wp2_with (fail)
            refine (waSm v6 _ _ _ W7 (unhide R7) (unhide TT) (by rw [List.length_take]; unfold maxLen; omega) (by rw [List.length_take]; unfold maxLen; omega)).mono ?_
            rintro e w8 ⟨rfl, k8, rfl⟩
            have hb8 : Below W7.heap.size W7 (W7.drewN k8) := ⟨rfl, rfl, rfl, Nat.le_refl _, fun _ _ => rfl⟩
            have B8 := hide (below_trans (unhide B7) hb8)
            generalize W7.drewN k8 = W8 at *
            go_wp2_with (fail)
            go_ret
            exact ⟨by simp, unhide B8⟩
        · have hfin := unhide HFIN (fun h => absurd h hlt)
          obtain rfl : n = ts5.length := by omega
          clear HFIN
          subst hfin
          go_wp2_with (fail)
          refine (waSm v6 _ _ _ W7 (unhide R7) (unhide TT) (by rw [List.length_take]; unfold maxLen; omega) (by rw [List.length_take]; unfold maxLen; omega)).mono ?_
          rintro e w8 ⟨rfl, k8, rfl⟩
          have hb8 : Below W7.heap.size W7 (W7.drewN k8) := ⟨rfl, rfl, rfl, Nat.le_refl _, fun _ _ => rfl⟩
          have B8 := hide (below_trans (unhide B7) hb8)
          generalize W7.drewN k8 = W8 at *
          go_wp2_with (fail)
          go_ret
          exact ⟨by simp, unhide B8⟩
end Go.Proofs.YtpamdnkngedmaaaDoor.Fr
