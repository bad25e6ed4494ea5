/- Arrays of eight and of three integers, opened. No program is named. -/
import Derived.Test.YtelnkbikgboblaaDoorFrame
namespace Go.Proofs.YtelnkbikgboblaaDoor.Frame
theorem eight_of {zs : List Int} {k : IntKind} (h : zs.length = 8) (hw : ∀ z ∈ zs, (Lit.int k z).wf = true) : ∃ a b c d e f g i, zs = [a, b, c, d, e, f, g, i] ∧
    (Lit.int k a).wf = true ∧ (Lit.int k b).wf = true ∧ (Lit.int k c).wf = true ∧ (Lit.int k d).wf = true ∧ (Lit.int k e).wf = true ∧ (Lit.int k f).wf = true ∧ (Lit.int k g).wf = true ∧ (Lit.int k i).wf = true := by
  match zs, h with
  | [a, b, c, d, e, f, g, i], _ => exact ⟨a, b, c, d, e, f, g, i, rfl, hw a (by simp), hw b (by simp), hw c (by simp), hw d (by simp), hw e (by simp), hw f (by simp), hw g (by simp), hw i (by simp)⟩
theorem three_of {zs : List Int} {k : IntKind} (h : zs.length = 3) (hw : ∀ z ∈ zs, (Lit.int k z).wf = true) : ∃ a b c, zs = [a, b, c] ∧ (Lit.int k a).wf = true ∧ (Lit.int k b).wf = true ∧ (Lit.int k c).wf = true := by
  match zs, h with
  | [a, b, c], _ => exact ⟨a, b, c, rfl, hw a (by simp), hw b (by simp), hw c (by simp)⟩
end Go.Proofs.YtelnkbikgboblaaDoor.Frame
