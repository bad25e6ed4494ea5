/- Opening arguments: structs of four integers, by value and in slices. No program is named. -/
import Derived.Test.YtjbfhnkjcfpfpaaDoorOpen
namespace Go.Proofs.YtjbfhnkjcfpfpaaDoor.Open
open Go.ChangeShapes Go.WideShapes Go.RowKit Go.Deep Go.Joins Lay

section
variable {H : Type} {enc : TypeId × Value → H} {P : Program} {w : World} {base : Nat} {spare : Nat → Bool} {held : Bool}

/-- The four cells. -/
def enc4 (k0 k1 k2 k3 : IntKind) (x : Int × Int × Int × Int) : List Value := [.int k0 x.1, .int k1 x.2.1, .int k2 x.2.2.1, .int k3 x.2.2.2]
theorem enc4_length (k0 k1 k2 k3 : IntKind) (x : Int × Int × Int × Int) : (enc4 k0 k1 k2 k3 x).length = 4 := rfl

/-- A struct of four integers: its four cells. -/
theorem four_ints {e : TypeId} {f0 f1 f2 f3 : Field} {k0 k1 k2 k3 : IntKind} (he : P.underlying e = some (.struct #[f0, f1, f2, f3])) (hone : oneCellFields P #[f0, f1, f2, f3] = true)
    (h0 : P.underlying f0.type = some (.int k0)) (h1 : P.underlying f1.type = some (.int k1)) (h2 : P.underlying f2.type = some (.int k2)) (h3 : P.underlying f3.type = some (.int k3))
    (n : Nat) (cs : List Value) (y : DataW H × List MemPlace) (h : DataW.trod enc P w base spare held n e cs = some y) (hl : cs.length = 4) :
    ∃ x : Int × Int × Int × Int, cs = enc4 k0 k1 k2 k3 x ∧ (Lit.int k0 x.1).wf = true ∧ (Lit.int k1 x.2.1).wf = true ∧ (Lit.int k2 x.2.2.1).wf = true ∧ (Lit.int k3 x.2.2.2).wf = true := by
  match cs, hl with
  | [c0, c1, c2, c3], _ =>
    obtain ⟨y0, y1, y2, y3, m, _, _, g0, g1, g2, g3⟩ := trod_struct4 he h
    obtain ⟨o0, s0⟩ := hone_of hone 0 f0 rfl
    obtain ⟨o1, s1⟩ := hone_of hone 1 f1 rfl
    obtain ⟨o2, s2⟩ := hone_of hone 2 f2 rfl
    obtain ⟨o3, s3⟩ := hone_of hone 3 f3 rfl
    rw [o0, s0] at g0
    rw [o1, s1] at g1
    rw [o2, s2] at g2
    rw [o3, s3] at g3
    obtain ⟨a, ea, _, wa⟩ := DataW.trod_int h0 g0
    obtain ⟨b, eb, _, wb⟩ := DataW.trod_int h1 g1
    obtain ⟨c, ec, _, wc⟩ := DataW.trod_int h2 g2
    obtain ⟨d, ed, _, wd⟩ := DataW.trod_int h3 g3
    simp at ea eb ec ed
    exact ⟨(a, b, c, d), by rw [ea, eb, ec, ed]; rfl, wa, wb, wc, wd⟩

/-- .. by value. -/
theorem open_four_ints {r : Reach} {b0 : Nat} {t : TypeId} {f0 f1 f2 f3 : Field} {k0 k1 k2 k3 : IntKind} {v : Value} {d : DataW H} {p : List MemPlace} (he : P.underlying t = some (.struct #[f0, f1, f2, f3])) (hone : oneCellFields P #[f0, f1, f2, f3] = true) (hC : P.cellsOf t = 4)
    (h0 : P.underlying f0.type = some (.int k0)) (h1 : P.underlying f1.type = some (.int k1)) (h2 : P.underlying f2.type = some (.int k2)) (h3 : P.underlying f3.type = some (.int k3))
    (hv : Value.okWide P w r b0 t v) (h : DataW.Trod enc P w base spare held t v d p) :
    ∃ x : Int × Int × Int × Int, v = .agg #[.int k0 x.1, .int k1 x.2.1, .int k2 x.2.2.1, .int k3 x.2.2.2] ∧ (Lit.int k0 x.1).wf = true ∧ (Lit.int k1 x.2.1).wf = true ∧ (Lit.int k2 x.2.2.1).wf = true ∧ (Lit.int k3 x.2.2.2).wf = true := by
  obtain ⟨cs, rfl, hsz⟩ := okWide_struct he hv
  obtain ⟨fuel, hf⟩ := h
  obtain ⟨x, e, w0, w1, w2, w3⟩ := four_ints he hone h0 h1 h2 h3 fuel _ _ hf (by simpa [Value.cells] using hsz.trans hC)
  refine ⟨x, ?_, w0, w1, w2, w3⟩
  have : cs = #[.int k0 x.1, .int k1 x.2.1, .int k2 x.2.2.1, .int k3 x.2.2.2] := by
    apply Array.toList_inj.1
    simpa [Value.cells, enc4] using e
  rw [this]
end

section
variable {w : World} {B : Nat} {A : Option Addr} {k0 k1 k2 k3 : IntKind}
/-- Where a slice of them has its j-th one. -/
theorem four_at {l : List (Int × Int × Int × Int)} {i : Nat} (h : Row w B A (flat (enc4 k0 k1 k2 k3) l)) (hi : i < l.length) :
    ∃ b o, A = some ⟨b, o, none⟩ ∧ b < B ∧ ∀ j x, l[j]? = some x → w.cell? ⟨b, o + j * 4, none⟩ = some (.int k0 x.1) ∧ w.cell? ⟨b, o + j * 4 + 1, none⟩ = some (.int k1 x.2.1) ∧ w.cell? ⟨b, o + j * 4 + 2, none⟩ = some (.int k2 x.2.2.1) ∧ w.cell? ⟨b, o + j * 4 + 3, none⟩ = some (.int k3 x.2.2.2) := by
  obtain ⟨b, o, hA, hb, hc⟩ := h.get (enc4_length k0 k1 k2 k3) hi (by decide)
  exact ⟨b, o, hA, hb, fun j x hx => ⟨hc j x 0 _ hx (by decide) rfl, hc j x 1 _ hx (by decide) rfl, hc j x 2 _ hx (by decide) rfl, hc j x 3 _ hx (by decide) rfl⟩⟩
end
end Go.Proofs.YtjbfhnkjcfpfpaaDoor.Open
