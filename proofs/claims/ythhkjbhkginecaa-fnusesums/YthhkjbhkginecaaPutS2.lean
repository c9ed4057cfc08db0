/-
  spec.UsePut: what it answers.
-/
import Derived.Test.YthhkjbhkginecaaPutS
import Derived.Deep.RegionLaw
namespace Go.Proofs.Ythhkjbhkginecaa.Evs
set_option linter.unusedVariables false
open Go.RowKit Go.Maps MapM RegIn

theorem ER.take {W : World} {v : Value} {l : List E} (h : ER W v l) (k : Nat) (hk : k ≤ l.length) : ∃ a c, v = .slice a l.length c ∧ ∀ c', ER W (.slice a k c') (l.take k) := by
  rcases h with ⟨rfl, a, c, rfl⟩ | ⟨b, o, cap, rfl, hc⟩
  · refine ⟨a, c, rfl, fun c' => .inl ⟨by simp, a, c', ?_⟩⟩
    have : k = 0 := by simpa using hk
    rw [this]
  · refine ⟨_, _, rfl, fun c' => .inr ⟨b, o, c', by simp [Nat.min_eq_left hk], hc.1, fun i hi => ?_⟩⟩
    have hi' : i < k := by simp at hi; omega
    have e : (l.take k).getD i E0 = l.getD i E0 := by simp [List.getD, hi']
    rw [e]
    exact hc.2 i (by omega)

theorem XO.mk0 {w : World} {B b : Nat} (hB : B ≤ w.heap.size) (hb : w.heap.size = b) : XO (w.alloc (.cells #[] 31)) B b 0 [] := by
  rw [← hb]; exact XO.made w B hB _ rfl
theorem XO.up {w : World} {B b c : Nat} {l : List E} {o : Obj} (h : XO w B b c l) : XO (w.alloc o) B b c l := h.kept (grown_alloc w o) (by simp)
theorem XO.mk1 {w : World} {B b : Nat} {o : Obj} (hB : B ≤ w.heap.size) (hb : w.heap.size = b) : XO ((w.alloc (.cells #[] 31)).alloc o) B b 0 [] := (XO.mk0 hB hb).up
theorem bw1 (w : World) (n : Nat) (x : Obj) : Below w.heap.size w ((w.drewN n).alloc x) := (below_drewN' (Below.refl _ _) n).alloc (by simp) _
theorem bw2 (w : World) (n : Nat) (x y : Obj) : Below w.heap.size w (((w.drewN n).alloc x).alloc y) := (bw1 w n x).alloc (by simp) _
theorem ER.up1 {w : World} {n : Nat} {x : Obj} {v : Value} {l : List E} (h : ER w v l) : ER ((w.drewN n).alloc x) v l := h.kept (bw1 w n x)
theorem ER.up2 {w : World} {n : Nat} {x y : Obj} {v : Value} {l : List E} (h : ER w v l) : ER (((w.drewN n).alloc x).alloc y) v l := h.kept (bw2 w n x y)

theorem srcNew (w : World) (s m : ByteArray) (q : Int) : ER (w.alloc (.cells #[.string s, .string m, .int .i64 q] 31)) (.slice (some ⟨w.heap.size, 0, none⟩) 1 1) [(s, m, q)] := by
  have e1 := (MapKept.heap_alloc w (.cells #[.string s, .string m, .int .i64 q] 31)).1
  refine .inr ⟨w.heap.size, 0, 1, rfl, by simp, fun i hi => ?_⟩
  have : i = 0 := by simpa using hi
  subst this
  simp only [World.cell?]
  rw [e1]
  exact ⟨rfl, rfl, rfl⟩
theorem srcN {w : World} {N : Nat} (hN : w.heap.size = N) (s m : ByteArray) (q : Int) : ER (w.alloc (.cells #[.string s, .string m, .int .i64 q] 31)) (.slice (some ⟨N, 0, none⟩) 1 1) [(s, m, q)] := by
  rw [← hN]; exact srcNew w s m q
theorem srcN1 {w : World} {N : Nat} {o : Obj} (hN : w.heap.size = N) (s m : ByteArray) (q : Int) : ER ((w.alloc (.cells #[.string s, .string m, .int .i64 q] 31)).alloc o) (.slice (some ⟨N, 0, none⟩) 1 1) [(s, m, q)] :=
  (srcN hN s m q).kept ((Below.refl _ _).alloc (Nat.le_refl _) _)
theorem ER.grown1 {W W' : World} {N o n c b : Nat} {l : List E} (h : ER W (.slice (some ⟨N, o, none⟩) n c) l) (hg : W.grownBy W' (some b)) (hne : N ≠ b) : ER W' (.slice (some ⟨N, o, none⟩) n c) l := by
  rcases h with h | ⟨b', o', cap, hv, hc⟩
  · exact .inl h
  · simp only [Value.slice.injEq, Option.some.injEq, Addr.mk.injEq, and_true] at hv
    obtain ⟨⟨rfl, rfl⟩, rfl, rfl⟩ := hv
    have hblk : W'.heap[N]? = W.heap[N]? := hg.block N hc.1 (fun e => hne (by simpa using e))
    have key : ∀ o : Nat, W'.cell? ⟨N, o, none⟩ = W.cell? ⟨N, o, none⟩ := fun o => World.cell?_of_block hblk
    refine .inr ⟨N, o, c, rfl, Nat.lt_of_lt_of_le hc.1 hg.size, fun i hi => ?_⟩
    obtain ⟨c0, c1, c2⟩ := hc.2 i hi
    exact ⟨(key _).trans c0, (key _).trans c1, (key _).trans c2⟩

/-- 'list[p:]' -/
theorem run_dropE {w : World} {va : Option Addr} {l : List E} {p vc : Nat} (h : ER w (.slice va l.length vc) l) (hp : p ≤ l.length) (hv : l.length ≤ vc) :
    ∃ a' c', (Instr.sliceAt 29 (.slice va l.length vc) (some (.int .i64 (p : Int))) none none).run Try.prog w = .ok (.slice a' (l.length - p) c') w ∧ ER w (.slice a' (l.length - p) c') (l.drop p) := by
  have h0 : (0 : Int) ≤ (p : Int) := by omega
  have h1 : (p : Int) ≤ (l.length : Int) := by omega
  have h2 : (p : Int) ≤ (vc : Int) := by omega
  rcases h with ⟨rfl, a, c, hv'⟩ | ⟨b, o, cap, hv', hc⟩
  · obtain rfl : p = 0 := by simpa using hp
    cases va with
    | none => exact ⟨none, vc, by go_simp, .inl ⟨by simp, none, vc, rfl⟩⟩
    | some ad => exact ⟨some ad, vc, by go_simp, .inl ⟨by simp, some ad, vc, rfl⟩⟩
  · simp only [Value.slice.injEq, true_and] at hv'
    obtain ⟨rfl, rfl⟩ := hv'
    by_cases hpv : vc = p
    · have hlp : l.length = p := by omega
      subst hpv
      refine ⟨some ⟨b, o, none⟩, 0, ?_, .inl ⟨by rw [List.drop_eq_nil_iff]; omega, _, _, by rw [hlp, Nat.sub_self]⟩⟩
      rw [hlp]
      go_simp
    · refine ⟨some ⟨b, o + p * 3, none⟩, vc - p, by go_simp, .inr ⟨b, o + p * 3, vc - p, by simp, hc.1, fun i hi => ?_⟩⟩
      have hi' : p + i < l.length := by simp at hi; omega
      have e : (l.drop p).getD i E0 = l.getD (p + i) E0 := by simp [List.getD]
      have e2 : o + p * 3 + i * 3 = o + (p + i) * 3 := by omega
      rw [e, e2]
      exact hc.2 _ hi'
/-- .. for the walk -/
theorem wpList_dropE {ops : Array Oper} {o : Oper} {a : Act} {Q : Exit → Act → World → Prop} {w : World} {rest : List Oper} (hgd : o.guard = none) (s x : Operand) (ho : o.op = Op.slice 29 s (some x) none none)
    (va : Option Addr) (l : List E) (p vc : Nat) (hs : a.eval s = .slice va l.length vc) (hx : a.eval x = .int .i64 (p : Int)) (h : ER w (.slice va l.length vc) l) (hp : p ≤ l.length) (hv : l.length ≤ vc)
    (hK : ∀ a' c', ER w (.slice a' (l.length - p) c') (l.drop p) → wpList Try.prog ops Q rest (a.put o.dst (.slice a' (l.length - p) c')) w) : wpList Try.prog ops Q (o :: rest) a w := by
  refine wpList_plain hgd fun K' hK' => ?_
  obtain ⟨a', c', hr, h2⟩ := run_dropE h hp hv
  unfold Oper.wp execOp
  simp only [ho, hs, hx, Option.map_some, Option.map_none, Sem.run_bind, hr, Result.andThen_ok, Sem.run_pure]
  exact hK' _ _ (hK a' c' h2)

end Go.Proofs.Ythhkjbhkginecaa.Evs
