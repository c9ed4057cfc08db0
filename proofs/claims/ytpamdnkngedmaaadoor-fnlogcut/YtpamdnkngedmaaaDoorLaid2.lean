/-
  What the listed package variables give: all that strconv and strings read.
-/
import Derived.Test.YtpamdnkngedmaaaDoorLaid
import Derived.Test.YtpamdnkngedmaaaDoorReadI
namespace Go.Proofs.YtpamdnkngedmaaaDoor.Laid
open Go.RowKit

theorem gES : Tryd.prog.globalNamed "strconv.ErrSyntax" = some 4 := by kernel_rfl
theorem tES : (Tryd.prog.globals[4]?).map (·.type) = some 67 := by kernel_rfl
theorem gER : Tryd.prog.globalNamed "strconv.ErrRange" = some 5 := by kernel_rfl
theorem tER : (Tryd.prog.globals[5]?).map (·.type) = some 67 := by kernel_rfl
theorem cES : Tryd.prog.cellsOf 101 = 1 := by kernel_rfl
theorem cStr : Tryd.prog.cellsOf 9 = 1 := by kernel_rfl
theorem star : "*" ++ "errors.errorString" = "*errors.errorString" := by decide
theorem rowES (u : TypeId) (h : Tryd.prog.typeName? 3 u = some "*errors.errorString") : u = 99 :=
  typeName_ptr_named (nm := "errors.errorString") (by rw [star]; kernel_rfl) (by kernel_rfl) (by decide) u (by rw [star]; exact h)

theorem env5 {W : World} {x y : String × DataW Unit} {rest : List (String × DataW Unit)} (hsh : W.ShapedOpen Tryd.prog) (h : laidMet Tryd.prog (x :: y :: ("internal/strconv.uint64pow10", Rows.laid_internal_strconv_uint64pow10) :: ("strconv.ErrRange", Rows.laid_strconv_ErrRange) :: ("strconv.ErrSyntax", Rows.laid_strconv_ErrSyntax) :: rest) W) : Text.Env W := by
  have h3 := h.tail.tail.tail
  obtain ⟨a0, s0, hv0, -, -, -⟩ := laid_sentinel h3 gER tER Tryd.underlying67 rowES Tryd.underlying99 Tryd.underlying101 rfl rfl Tryd.underlying9 cES cStr
  obtain ⟨a1, s1, hv1, -, -, -⟩ := laid_sentinel h3.tail gES tES Tryd.underlying67 rowES Tryd.underlying99 Tryd.underlying101 rfl rfl Tryd.underlying9 cES cStr
  exact ⟨tens3 h, Tryd.laysM145.s1_3 W hsh, ⟨_, _, hv1⟩, ⟨_, _, hv0⟩⟩
end Go.Proofs.YtpamdnkngedmaaaDoor.Laid
