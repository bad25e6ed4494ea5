/- Opening arguments: a struct of a struct of four integers, and an integer. No program is named. -/
import Derived.Test.YtpefngpmbladeaaFour
namespace Go.Proofs.Ytpefngpmbladeaa.Open
set_option maxRecDepth 20000
open Go.ChangeShapes Go.WideShapes Go.RowKit Go.Deep Go.Joins Lay

section
variable {H : Type} {enc : TypeId × Value → H} {P : Program} {w : World} {base : Nat} {spare : Nat → Bool} {held : Bool}
theorem open_four_and {r : Reach} {b0 : Nat} {t : TypeId} {f0 f1 g0 g1 g2 g3 : Field} {k0 k1 k2 k3 k4 : IntKind} {v : Value} {d : DataW H} {p : List MemPlace} (he : P.underlying t = some (.struct #[f0, f1])) (o0 : f0.offset = 0) (o1 : f1.offset = 4)
    (c0 : P.cellsOf f0.type = 4) (c1 : P.cellsOf f1.type = 1) (hC : P.cellsOf t = 5) (hf : P.underlying f0.type = some (.struct #[g0, g1, g2, g3])) (hone : oneCellFields P #[g0, g1, g2, g3] = true)
    (h0 : P.underlying g0.type = some (.int k0)) (h1 : P.underlying g1.type = some (.int k1)) (h2 : P.underlying g2.type = some (.int k2)) (h3 : P.underlying g3.type = some (.int k3)) (h4 : P.underlying f1.type = some (.int k4))
    (hv : Value.okWide P w r b0 t v) (h : DataW.Trod enc P w base spare held t v d p) :
    ∃ x : Int × Int × Int × Int × Int, v = .agg #[.int k0 x.1, .int k1 x.2.1, .int k2 x.2.2.1, .int k3 x.2.2.2.1, .int k4 x.2.2.2.2] ∧ (Lit.int k0 x.1).wf = true ∧ (Lit.int k1 x.2.1).wf = true ∧ (Lit.int k2 x.2.2.1).wf = true ∧ (Lit.int k3 x.2.2.2.1).wf = true ∧ (Lit.int k4 x.2.2.2.2).wf = true := by
  obtain ⟨cs, rfl, hsz⟩ := okWide_struct he hv
  obtain ⟨fuel, hfu⟩ := h
  have hsz5 : (Value.agg cs).cells.toList.length = 5 := by simpa [Value.cells] using hsz.trans hC
  have hin : ∀ l : List Value, l.length = 5 → ∀ {y}, DataW.trod enc P w base spare held fuel t l = some y → ∃ x : Int × Int × Int × Int × Int, l = [.int k0 x.1, .int k1 x.2.1, .int k2 x.2.2.1, .int k3 x.2.2.2.1, .int k4 x.2.2.2.2] ∧ (Lit.int k0 x.1).wf = true ∧ (Lit.int k1 x.2.1).wf = true ∧ (Lit.int k2 x.2.2.1).wf = true ∧ (Lit.int k3 x.2.2.2.1).wf = true ∧ (Lit.int k4 x.2.2.2.2).wf = true := by
    intro l hl y h
    match l, hl with
    | [a0, a1, a2, a3, a4], _ =>
      obtain ⟨y0, y1, m, _, _, q0, q1⟩ := trod_struct2 he h
      rw [o0, c0] at q0
      rw [o1, c1] at q1
      obtain ⟨x, ex, w0, w1, w2, w3⟩ := four_ints hf hone h0 h1 h2 h3 m _ _ q0 (by simp)
      obtain ⟨b, eb, _, wb⟩ := DataW.trod_int h4 q1
      simp [enc4] at ex eb
      exact ⟨(x.1, x.2.1, x.2.2.1, x.2.2.2, b), by rw [ex.1, ex.2.1, ex.2.2.1, ex.2.2.2, eb], w0, w1, w2, w3, wb⟩
  obtain ⟨x, e, w0, w1, w2, w3, w4⟩ := hin _ hsz5 hfu
  refine ⟨x, ?_, w0, w1, w2, w3, w4⟩
  have : cs = #[.int k0 x.1, .int k1 x.2.1, .int k2 x.2.2.1, .int k3 x.2.2.2.1, .int k4 x.2.2.2.2] := by
    apply Array.toList_inj.1
    simpa [Value.cells] using e
  rw [this]
end
end Go.Proofs.Ytpefngpmbladeaa.Open
