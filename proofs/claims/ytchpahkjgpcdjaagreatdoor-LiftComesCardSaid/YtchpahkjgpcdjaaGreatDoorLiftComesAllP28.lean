import Derived.Test.YtchpahkjgpcdjaaGreatDoorLiftComesAllP9
/- Opening arguments: a struct of an integer, a struct of two integers, and an integer. No program is named. -/
namespace Go.Proofs.YtchpahkjgpcdjaaGreatDoor.Open
set_option maxRecDepth 20000
open Go.ChangeShapes Go.WideShapes Go.RowKit Go.Deep Go.Joins Lay

section
variable {H : Type} {enc : TypeId × Value → H} {P : Program} {w : World} {base : Nat} {spare : Nat → Bool} {held : Bool}
theorem open_nest {r : Reach} {b0 : Nat} {t : TypeId} {f0 f1 f2 g0 g1 : Field} {k0 k1 k2 k3 : IntKind} {v : Value} {d : DataW H} {p : List MemPlace} (he : P.underlying t = some (.struct #[f0, f1, f2])) (o0 : f0.offset = 0) (o1 : f1.offset = 1) (o2 : f2.offset = 3)
    (c0 : P.cellsOf f0.type = 1) (c1 : P.cellsOf f1.type = 2) (c2 : P.cellsOf f2.type = 1) (hC : P.cellsOf t = 4) (hf : P.underlying f1.type = some (.struct #[g0, g1])) (hone : oneCellFields P #[g0, g1] = true)
    (h0 : P.underlying f0.type = some (.int k0)) (h1 : P.underlying g0.type = some (.int k1)) (h2 : P.underlying g1.type = some (.int k2)) (h3 : P.underlying f2.type = some (.int k3))
    (hv : Value.okWide P w r b0 t v) (h : DataW.Trod enc P w base spare held t v d p) :
    ∃ x : Int × Int × Int × Int, v = .agg #[.int k0 x.1, .int k1 x.2.1, .int k2 x.2.2.1, .int k3 x.2.2.2] ∧ (Lit.int k0 x.1).wf = true ∧ (Lit.int k1 x.2.1).wf = true ∧ (Lit.int k2 x.2.2.1).wf = true ∧ (Lit.int k3 x.2.2.2).wf = true := by
  obtain ⟨cs, rfl, hsz⟩ := okWide_struct he hv
  obtain ⟨fuel, hfu⟩ := h
  have hsz4 : (Value.agg cs).cells.toList.length = 4 := by simpa [Value.cells] using hsz.trans hC
  have hin : ∀ l : List Value, l.length = 4 → ∀ {y}, DataW.trod enc P w base spare held fuel t l = some y → ∃ x : Int × Int × Int × Int, l = enc4 k0 k1 k2 k3 x ∧ (Lit.int k0 x.1).wf = true ∧ (Lit.int k1 x.2.1).wf = true ∧ (Lit.int k2 x.2.2.1).wf = true ∧ (Lit.int k3 x.2.2.2).wf = true := by
    intro l hl y h
    match l, hl with
    | [a0, a1, a2, a3], _ =>
      obtain ⟨y0, y1, y2, m, _, _, q0, q1, q2⟩ := trod_struct3 he h
      rw [o0, c0] at q0
      rw [o1, c1] at q1
      rw [o2, c2] at q2
      obtain ⟨a, ea, _, wa⟩ := DataW.trod_int h0 q0
      obtain ⟨x, ex, w0, w1⟩ := two_ints hf hone h1 h2 m _ _ q1 (by simp)
      obtain ⟨b, eb, _, wb⟩ := DataW.trod_int h3 q2
      simp at ea ex eb
      exact ⟨(a, x.1, x.2, b), by rw [ea, ex.1, ex.2, eb]; rfl, wa, w0, w1, wb⟩
  obtain ⟨x, e, w0, w1, w2, w3⟩ := hin _ hsz4 hfu
  refine ⟨x, ?_, w0, w1, w2, w3⟩
  have : cs = #[.int k0 x.1, .int k1 x.2.1, .int k2 x.2.2.1, .int k3 x.2.2.2] := by
    apply Array.toList_inj.1
    simpa [Value.cells, enc4] using e
  rw [this]
end
end Go.Proofs.YtchpahkjgpcdjaaGreatDoor.Open
