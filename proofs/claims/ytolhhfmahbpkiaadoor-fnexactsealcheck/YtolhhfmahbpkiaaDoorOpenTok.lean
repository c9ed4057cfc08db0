/-
  A token that came in by value, opened.
-/
import Derived.Test.YtolhhfmahbpkiaaDoorLawTok
namespace Go.Proofs.YtolhhfmahbpkiaaDoor.Tok
set_option linter.unusedVariables false
open Go.RowKit Go.Deep Go.ChangeShapes Go.WideShapes

section
variable {H : Type} {enc : TypeId × Value → H} {w : World} {base : Nat} {held : Bool}

theorem list4 {α : Type} {cs : List α} (h : cs.length = 4) : ∃ a b c d, cs = [a, b, c, d] := by
  match cs, h with
  | [a, b, c, d], _ => exact ⟨a, b, c, d, rfl⟩

set_option maxRecDepth 100000 in
theorem openTok {r0 : Reach} {b0 : Nat} {v : Value} {dd : DataW H} {p : List MemPlace} (hv : Value.okWide Tryd.prog w r0 b0 27 v) (h : DataW.Trod enc Tryd.prog w base (fun _ => true) held 27 v dd p) :
    ∃ r u e m : Int, v = tokV r u e m ∧ i64 r ∧ i64 u ∧ i64 e ∧ i64 m := by
  obtain ⟨cs, rfl, hsz⟩ := okWide_struct Tryd.underlying27 hv
  obtain ⟨fuel, hf⟩ := h
  obtain ⟨xs, n, hn, _, hl, hxl, hf⟩ := DataW.trod_struct Tryd.underlying27 hf
  have hl3 : cs.toList.length = 4 := by
    have := hl.trans (show _ = 4 by kernel_rfl)
    simpa [Value.cells] using this
  obtain ⟨c0, c1, c2, c3, hcs⟩ := list4 hl3
  obtain rfl : cs = #[c0, c1, c2, c3] := Array.toList_inj.1 hcs
  obtain ⟨x0, x1, x2, x3, rfl⟩ := list4 (by simpa using hxl)
  have k1 : Tryd.prog.cellsOf 3 = 1 := by kernel_rfl
  have h0 := hf 0 _ rfl
  have h1 := hf 1 _ rfl
  have h2 := hf 2 _ rfl
  have h3 := hf 3 _ rfl
  simp [k1, Value.cells] at h0 h1 h2 h3
  obtain ⟨n0, e0, _, w0⟩ := DataW.trod_int Tryd.underlying3 h0
  obtain ⟨n1, e1, _, w1⟩ := DataW.trod_int Tryd.underlying3 h1
  obtain ⟨n2, e2, _, w2⟩ := DataW.trod_int Tryd.underlying3 h2
  obtain ⟨n3, e3, _, w3⟩ := DataW.trod_int Tryd.underlying3 h3
  simp only [List.cons.injEq, and_true] at e0 e1 e2 e3
  subst e0 e1 e2 e3
  exact ⟨n0, n1, n2, n3, rfl, wf_i64 w0, wf_i64 w1, wf_i64 w2, wf_i64 w3⟩
end
end Go.Proofs.YtolhhfmahbpkiaaDoor.Tok
