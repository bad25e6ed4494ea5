import Derived.Test.YtafjokjmogadnaaGreatDoorCollectFreesAllP3
/- Structs of two integers: their cells, in slices and in rows of the call's own; a struct of such a one and a bool. No program is named. -/
namespace Go.Proofs.YtafjokjmogadnaaGreatDoor.Open
open Go.ChangeShapes Go.WideShapes Go.RowKit Go.Deep Go.Joins Lay

/-- The two cells. -/
def enc2 (k0 k1 : IntKind) (x : Int × Int) : List Value := [.int k0 x.1, .int k1 x.2]
theorem enc2_length (k0 k1 : IntKind) (x : Int × Int) : (enc2 k0 k1 x).length = 2 := rfl
theorem enc2_one (k0 k1 : IntKind) (x : Int × Int) : ∀ v ∈ enc2 k0 k1 x, v.oneCell' = true := by
  intro v hv
  simp [enc2] at hv
  rcases hv with rfl | rfl <;> rfl
section
variable {w : World} {B : Nat} {A : Option Addr} {k0 k1 : IntKind}
/-- Where a slice of them has its j-th one. -/
theorem two_at {l : List (Int × Int)} {i : Nat} (h : Row w B A (flat (enc2 k0 k1) l)) (hi : i < l.length) :
    ∃ b o, A = some ⟨b, o, none⟩ ∧ b < B ∧ ∀ j x, l[j]? = some x → w.cell? ⟨b, o + j * 2, none⟩ = some (.int k0 x.1) ∧ w.cell? ⟨b, o + j * 2 + 1, none⟩ = some (.int k1 x.2) := by
  obtain ⟨b, o, hA, hb, hc⟩ := h.get (enc2_length k0 k1) hi (by decide)
  exact ⟨b, o, hA, hb, fun j x hx => ⟨hc j x 0 _ hx (by decide) rfl, hc j x 1 _ hx (by decide) rfl⟩⟩
end

/-- The three cells of a struct of two integers and a bool. -/
def enc2b (k0 k1 : IntKind) (x : Int × Int × Bool) : List Value := [.int k0 x.1, .int k1 x.2.1, .bool x.2.2]
theorem enc2b_length (k0 k1 : IntKind) (x : Int × Int × Bool) : (enc2b k0 k1 x).length = 3 := rfl
section
variable {w : World} {B : Nat} {A : Option Addr} {k0 k1 : IntKind}
theorem two_bool_at {l : List (Int × Int × Bool)} {i : Nat} (h : Row w B A (flat (enc2b k0 k1) l)) (hi : i < l.length) :
    ∃ b o, A = some ⟨b, o, none⟩ ∧ b < B ∧ ∀ j x, l[j]? = some x → w.cell? ⟨b, o + j * 3, none⟩ = some (.int k0 x.1) ∧ w.cell? ⟨b, o + j * 3 + 1, none⟩ = some (.int k1 x.2.1) ∧ w.cell? ⟨b, o + j * 3 + 2, none⟩ = some (.bool x.2.2) := by
  obtain ⟨b, o, hA, hb, hc⟩ := h.get (enc2b_length k0 k1) hi (by decide)
  exact ⟨b, o, hA, hb, fun j x hx => ⟨hc j x 0 _ hx (by decide) rfl, hc j x 1 _ hx (by decide) rfl, hc j x 2 _ hx (by decide) rfl⟩⟩
end
section
variable {H : Type} {enc : TypeId × Value → H} {P : Program} {w : World} {base : Nat} {spare : Nat → Bool} {held : Bool}
/-- Opened: a struct of a struct of two integers and a bool. -/
theorem two_bool {e : TypeId} {f0 f1 g0 g1 : Field} {k0 k1 : IntKind} (he : P.underlying e = some (.struct #[f0, f1])) (o0 : f0.offset = 0) (o1 : f1.offset = 2) (c0 : P.cellsOf f0.type = 2) (c1 : P.cellsOf f1.type = 1)
    (hf : P.underlying f0.type = some (.struct #[g0, g1])) (hone : oneCellFields P #[g0, g1] = true) (h0 : P.underlying g0.type = some (.int k0)) (h1 : P.underlying g1.type = some (.int k1)) (hb : P.underlying f1.type = some .bool)
    (n : Nat) (cs : List Value) (y : DataW H × List MemPlace) (h : DataW.trod enc P w base spare held n e cs = some y) (hl : cs.length = 3) :
    ∃ x : Int × Int × Bool, cs = enc2b k0 k1 x ∧ (Lit.int k0 x.1).wf = true ∧ (Lit.int k1 x.2.1).wf = true := by
  match cs, hl with
  | [a0, a1, a2], _ =>
    obtain ⟨y0, y1, m, _, _, q0, q1⟩ := trod_struct2 he h
    rw [o0, c0] at q0
    rw [o1, c1] at q1
    obtain ⟨x, ex, w0, w1⟩ := two_ints hf hone h0 h1 m _ _ q0 (by simp)
    obtain ⟨b, eb, _⟩ := DataW.trod_bool hb q1
    simp at ex eb
    exact ⟨(x.1, x.2, b), by rw [ex.1, ex.2, eb]; rfl, w0, w1⟩
end
end Go.Proofs.YtafjokjmogadnaaGreatDoor.Open
