/-
  Expressions that name a certain meter nowhere; no program in it.
-/
import Derived.Test.YtdpefmjlmpjjbaaRuleM
namespace Go.Proofs.Ytdpefmjlmpjjbaa.Rule
set_option linter.unusedVariables false

/-- "other" -/
def oth : ByteArray := ⟨#[111, 116, 104, 101, 114]⟩
mutual
/-- no meter of it is this -/
def noE (o : ByteArray) : Ex → Prop | .mk _ _ m ks _ => m ≠ o ∧ noL o ks
def noL (o : ByteArray) : List Ex → Prop | [] => True | e :: es => noE o e ∧ noL o es
end
theorem noE_eq (o : ByteArray) (e : Ex) : noE o e = (e.meter ≠ o ∧ noL o e.kids) := by cases e; rfl
theorem noL_at {o : ByteArray} (ho : ByteArray.empty ≠ o) : ∀ {l : List Ex} (_ : noL o l) (i : Nat), noE o (l.getD i E0)
  | [], _, i => by rw [show ([] : List Ex).getD i E0 = E0 by simp]; exact ⟨ho, trivial⟩
  | e :: es, h, 0 => h.1
  | e :: es, h, i + 1 => by rw [show (e :: es).getD (i + 1) E0 = es.getD i E0 by simp]; exact noL_at ho h.2 i
theorem noL_app {o : ByteArray} : ∀ {a b : List Ex}, noL o a → noL o b → noL o (a ++ b)
  | [], b, _, hb => hb
  | e :: es, b, ha, hb => ⟨ha.1, noL_app ha.2 hb⟩
theorem noL0 (o : ByteArray) : noL o [] := trivial
theorem noL1 {o : ByteArray} {a : Ex} (h : noE o a) : noL o [a] := ⟨h, trivial⟩
theorem noL2 {o : ByteArray} {a b : Ex} (h : noE o a) (h2 : noE o b) : noL o [a, b] := ⟨h, h2, trivial⟩
theorem noL3 {o : ByteArray} {a b c : Ex} (h : noE o a) (h2 : noE o b) (h3 : noE o c) : noL o [a, b, c] := ⟨h, h2, h3, trivial⟩
theorem nil_oth : (⟨#[]⟩ : ByteArray) ≠ oth := by decide
theorem empty_oth : ByteArray.empty ≠ oth := by decide
/-- a text with such an end is not that one -/
def isEnd (z : ByteArray) : Prop := z.size ≤ 8 ∧ ∀ m : ByteArray, m ++ z ≠ oth
theorem isEnd_of (z : UInt8) (zs : List UInt8) (hz : z ≠ 114) (hl : zs.length ≤ 7) : isEnd ⟨(zs ++ [z]).toArray⟩ := by
  refine ⟨by show (zs ++ [z]).toArray.size ≤ 8; simp; omega, fun m h => hz ?_⟩
  have := congrArg (fun b => b.data.toList.getLast?) h
  simpa [oth, ByteArray.data_append] using this
/-- a drawn word -/
def isWd (z : ByteArray) : Prop := z.size ≤ 8 ∧ z ≠ oth
end Go.Proofs.Ytdpefmjlmpjjbaa.Rule
