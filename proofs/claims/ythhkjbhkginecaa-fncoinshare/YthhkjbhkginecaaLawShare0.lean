/-
  What the law on CoinShare leans on: the copy of an argument, and both answers as one.
-/
import Derived.Test.YthhkjbhkginecaaShareI2
namespace Go.Proofs.Ythhkjbhkginecaa.Share
set_option linter.unusedVariables false
open Go.RowKit Ints

/-- a slice that is read alone -/
def Rd (W : World) (a : Option Addr) (n : Nat) (l : List Int) : Prop := l.length = n ∧ n ≤ 1048576 ∧ (n = 0 ∨ ∃ b o, a = some ⟨b, o, none⟩ ∧ b < W.heap.size ∧ ∀ i, i < n → W.cell? ⟨b, o + i, none⟩ = some (.int .i64 (l.getD i 0)))

theorem Rd.kept {W W' : World} {a : Option Addr} {n : Nat} {l : List Int} (h : Rd W a n l) (hb : Below W.heap.size W W') : Rd W' a n l := by
  refine ⟨h.1, h.2.1, ?_⟩
  rcases h.2.2 with h | ⟨b, o, rfl, h1, h2⟩
  · exact .inl h
  · exact .inr ⟨b, o, rfl, Nat.lt_of_lt_of_le h1 hb.size, fun i hi => by rw [hb.cell (p := ⟨b, o + i, none⟩) h1]; exact h2 i hi⟩

/-- what both answer -/
def okS (T : Int) (ws : List Int) : Bool := wgtB ws && decide (0 ≤ T ∧ T ≤ 1000000000000000)
def outS (T : Int) (ws : List Int) : List Int := if okS T ws = true then shareV T ws else []

theorem share_len (T : Int) (ws : List Int) : (shareV T ws).length = ws.length := by simp [shareV]

/-- where the answer lies: nowhere, or in a block that is new -/
def NewIn (B : Nat) (v : Value) : Prop := v.ownBlock = none ∨ ∃ g, v.ownBlock = some g ∧ B ≤ g

theorem answer {P : Program} {f : FuncId} {v : Value} {ws : List Int} {T : Int} {w : World} (hl : ws.length ≤ 1048576)
    (hno : (wgtB ws = false ∨ T < 0 ∨ 1000000000000000 < T) → Calls P f #[.int .i64 T, v] w fun e w' => e = .returned (.tuple #[.slice none 0 0, .bool false]) ∧ w' = w)
    (hyes : wgtB ws = true → 0 ≤ T → T ≤ 1000000000000000 → Calls P f #[.int .i64 T, v] w fun e w' => ∃ g c, e = .returned (.tuple #[.slice (some ⟨g, 0, none⟩) ws.length c, .bool true]) ∧ Cells w' g 0 (shareV T ws) ∧ w.heap.size ≤ g ∧ Below w.heap.size w w') :
    Calls P f #[.int .i64 T, v] w fun e w' => ∃ u, e = .returned (.tuple #[u, .bool (okS T ws)]) ∧ IR w' u (outS T ws) ∧ NewIn w.heap.size u ∧ Below w.heap.size w w' := by
  by_cases h : wgtB ws = true ∧ 0 ≤ T ∧ T ≤ 1000000000000000
  · have e : okS T ws = true := by simp [okS, h]
    refine (hyes h.1 h.2.1 h.2.2).mono ?_
    rintro e' w' ⟨g, c, rfl, h1, h2, h3⟩
    refine ⟨_, by rw [e], ?_, .inr ⟨g, rfl, h2⟩, h3⟩
    unfold outS; rw [if_pos e]
    exact .inr ⟨g, 0, c, by rw [share_len], by rw [share_len]; exact hl, h1⟩
  · have h' : wgtB ws = false ∨ T < 0 ∨ 1000000000000000 < T := by
      cases hb : wgtB ws
      · exact .inl rfl
      · right
        rw [hb] at h
        simp only [true_and] at h
        omega
    have e : okS T ws = false := by
      unfold okS
      rcases h' with h' | h'
      · rw [h']; rfl
      · have : decide (0 ≤ T ∧ T ≤ 1000000000000000) = false := by simp; omega
        rw [this, Bool.and_false]
    refine (hno h').mono ?_
    rintro e' w' ⟨rfl, rfl⟩
    refine ⟨_, by rw [e], ?_, .inl rfl, Below.refl _ _⟩
    unfold outS; rw [e]
    exact .inl ⟨rfl, rfl⟩

theorem ansS (v : Value) (ws : List Int) (T : Int) (w : World) (h : IR w v ws) :
    Calls Try.prog 10 #[.int .i64 T, v] w fun e w' => ∃ u, e = .returned (.tuple #[u, .bool (okS T ws)]) ∧ IR w' u (outS T ws) ∧ NewIn w.heap.size u ∧ Below w.heap.size w w' :=
  answer h.len (fun hn => shareS_no v ws T w h hn) (fun h1 h2 h3 => shareS_yes v ws T w h h1 h2 h3)

theorem ansI (v : Value) (ws : List Int) (T : Int) (w : World) (h : IR w v ws) :
    Calls Try.prog 9 #[.int .i64 T, v] w fun e w' => ∃ u, e = .returned (.tuple #[u, .bool (okS T ws)]) ∧ IR w' u (outS T ws) ∧ NewIn w.heap.size u ∧ Below w.heap.size w w' :=
  answer h.len (fun hn => shareI_no v ws T w h hn) (fun h1 h2 h3 => shareI_yes v ws T w h h1 h2 h3)
end Go.Proofs.Ythhkjbhkginecaa.Share
