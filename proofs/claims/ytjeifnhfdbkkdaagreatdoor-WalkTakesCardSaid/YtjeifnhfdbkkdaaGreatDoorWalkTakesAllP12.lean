import Derived.Test.YtjeifnhfdbkkdaaGreatDoorWalkTakesAllP9
import Derived.Deep.Strs
/- Opening arguments: structs of three integers, by value and in slices; rows of the call's own. No program is named. -/
namespace Go.Proofs.YtjeifnhfdbkkdaaGreatDoor.Open
open Go.ChangeShapes Go.WideShapes Go.RowKit Go.Deep Go.Joins Lay

section
variable {H : Type} {enc : TypeId × Value → H} {P : Program} {w : World} {base : Nat} {spare : Nat → Bool} {held : Bool}

/-- The three cells. -/
def enc3 (k0 k1 k2 : IntKind) (x : Int × Int × Int) : List Value := [.int k0 x.1, .int k1 x.2.1, .int k2 x.2.2]
theorem enc3_length (k0 k1 k2 : IntKind) (x : Int × Int × Int) : (enc3 k0 k1 k2 x).length = 3 := rfl
theorem enc3_one (k0 k1 k2 : IntKind) (x : Int × Int × Int) : ∀ v ∈ enc3 k0 k1 k2 x, v.oneCell' = true := by
  intro v hv
  simp [enc3] at hv
  rcases hv with rfl | rfl | rfl <;> rfl

/-- A struct of three integers: its three cells. -/
theorem three_ints {e : TypeId} {f0 f1 f2 : Field} {k0 k1 k2 : IntKind} (he : P.underlying e = some (.struct #[f0, f1, f2])) (hone : oneCellFields P #[f0, f1, f2] = true)
    (h0 : P.underlying f0.type = some (.int k0)) (h1 : P.underlying f1.type = some (.int k1)) (h2 : P.underlying f2.type = some (.int k2))
    (n : Nat) (cs : List Value) (y : DataW H × List MemPlace) (h : DataW.trod enc P w base spare held n e cs = some y) (hl : cs.length = 3) :
    ∃ x : Int × Int × Int, cs = enc3 k0 k1 k2 x ∧ (Lit.int k0 x.1).wf = true ∧ (Lit.int k1 x.2.1).wf = true ∧ (Lit.int k2 x.2.2).wf = true := by
  match cs, hl with
  | [c0, c1, c2], _ =>
    obtain ⟨y0, y1, y2, m, _, _, g0, g1, g2⟩ := trod_struct3 he h
    obtain ⟨o0, s0⟩ := hone_of hone 0 f0 rfl
    obtain ⟨o1, s1⟩ := hone_of hone 1 f1 rfl
    obtain ⟨o2, s2⟩ := hone_of hone 2 f2 rfl
    rw [o0, s0] at g0
    rw [o1, s1] at g1
    rw [o2, s2] at g2
    obtain ⟨a, ea, _, wa⟩ := DataW.trod_int h0 g0
    obtain ⟨b, eb, _, wb⟩ := DataW.trod_int h1 g1
    obtain ⟨c, ec, _, wc⟩ := DataW.trod_int h2 g2
    simp at ea eb ec
    exact ⟨(a, b, c), by rw [ea, eb, ec]; rfl, wa, wb, wc⟩

/-- .. by value. -/
theorem open_three_ints {r : Reach} {b0 : Nat} {t : TypeId} {f0 f1 f2 : Field} {k0 k1 k2 : IntKind} {v : Value} {d : DataW H} {p : List MemPlace} (he : P.underlying t = some (.struct #[f0, f1, f2])) (hone : oneCellFields P #[f0, f1, f2] = true) (hC : P.cellsOf t = 3)
    (h0 : P.underlying f0.type = some (.int k0)) (h1 : P.underlying f1.type = some (.int k1)) (h2 : P.underlying f2.type = some (.int k2))
    (hv : Value.okWide P w r b0 t v) (h : DataW.Trod enc P w base spare held t v d p) :
    ∃ x : Int × Int × Int, v = .agg #[.int k0 x.1, .int k1 x.2.1, .int k2 x.2.2] ∧ (Lit.int k0 x.1).wf = true ∧ (Lit.int k1 x.2.1).wf = true ∧ (Lit.int k2 x.2.2).wf = true := by
  obtain ⟨cs, rfl, hsz⟩ := okWide_struct he hv
  obtain ⟨fuel, hf⟩ := h
  obtain ⟨x, e, w0, w1, w2⟩ := three_ints he hone h0 h1 h2 fuel _ _ hf (by simpa [Value.cells] using hsz.trans hC)
  refine ⟨x, ?_, w0, w1, w2⟩
  have : cs = #[.int k0 x.1, .int k1 x.2.1, .int k2 x.2.2] := by
    apply Array.toList_inj.1
    simpa [Value.cells, enc3] using e
  rw [this]
end

section
variable {w : World} {B : Nat} {A : Option Addr} {k0 k1 k2 : IntKind}
/-- Where a slice of them has its j-th one. -/
theorem three_at {l : List (Int × Int × Int)} {i : Nat} (h : Row w B A (flat (enc3 k0 k1 k2) l)) (hi : i < l.length) :
    ∃ b o, A = some ⟨b, o, none⟩ ∧ b < B ∧ ∀ j x, l[j]? = some x → w.cell? ⟨b, o + j * 3, none⟩ = some (.int k0 x.1) ∧ w.cell? ⟨b, o + j * 3 + 1, none⟩ = some (.int k1 x.2.1) ∧ w.cell? ⟨b, o + j * 3 + 2, none⟩ = some (.int k2 x.2.2) := by
  obtain ⟨b, o, hA, hb, hc⟩ := h.get (enc3_length k0 k1 k2) hi (by decide)
  exact ⟨b, o, hA, hb, fun j x hx => ⟨hc j x 0 _ hx (by decide) rfl, hc j x 1 _ hx (by decide) rfl, hc j x 2 _ hx (by decide) rfl⟩⟩
end
/-- A new block of n elements of k cells, as a row of the call's own. -/
theorem own_made_k (w : World) (cs : List Value) {base n k : Nat} {e : TypeId} (hb : base ≤ w.heap.size) (hn : cs.length = n * k) (hm : n ≤ maxLen) : (w.alloc (.cells cs.toArray e)).ownsRow base e k (.slice (some ⟨w.heap.size, 0, none⟩) n n) n cs :=
  ⟨hn, .inr ⟨w.heap.size, n, cs.toArray, rfl, hb, heap_alloc_new w _, Nat.le_refl _, hm, by simpa using hn, by rw [List.take_of_length_le (by simp; omega)]⟩⟩
end Go.Proofs.YtjeifnhfdbkkdaaGreatDoor.Open
