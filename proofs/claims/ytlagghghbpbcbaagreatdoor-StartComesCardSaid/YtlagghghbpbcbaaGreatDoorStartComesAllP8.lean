import Derived.Test.YtlagghghbpbcbaaGreatDoorStartComesAllP7
import Derived.Lib.SmallJoins
/- Opening arguments: slices of structs whose fields are one cell each; structs of two integers. No program is named. -/
namespace Go.Proofs.YtlagghghbpbcbaaGreatDoor.Open
open Go.ChangeShapes Go.WideShapes Go.RowKit Go.Deep Go.Joins Lay

theorem list_of {α : Type} {n : Nat} {p : Nat → α → Prop} (h : ∀ i, i < n → ∃ x, p i x) : ∃ l : List α, l.length = n ∧ ∀ i x, l[i]? = some x → p i x := by
  induction n with
  | zero => exact ⟨[], rfl, fun i x hx => by simp at hx⟩
  | succ n ih =>
    obtain ⟨l, hl, hp⟩ := ih fun i hi => h i (by omega)
    obtain ⟨x, hx⟩ := h n (by omega)
    refine ⟨l ++ [x], by simp [hl], fun i y hy => ?_⟩
    by_cases hi : i < n
    · rw [List.getElem?_append_left (by omega)] at hy
      exact hp i y hy
    · have hlt := (List.getElem?_eq_some_iff.1 hy).1
      simp at hlt
      obtain rfl : i = n := by omega
      rw [List.getElem?_append_right (by omega)] at hy
      simp [hl] at hy
      rw [← hy]
      exact hx

section
variable {H : Type} {enc : TypeId × Value → H} {P : Program} {w : World} {base : Nat} {spare : Nat → Bool} {held : Bool}

/-- A slice whose elements are k cells each: 'hel' says what one element's cells are. -/
theorem open_rows {α : Type} {k : Nat} (lay : α → List Value) (ok : α → Prop) {r : Reach} {b0 : Nat} {t e : TypeId} {v : Value} {d : DataW H} {ps : List MemPlace} (ht : P.underlying t = some (.slice e)) (hC : P.cellsOf e = k) (h0 : 0 < k)
    (hk : ∀ x, (lay x).length = k)
    (hel : ∀ (n : Nat) (cs : List Value) (y : DataW H × List MemPlace), DataW.trod enc P w base (fun _ => true) held n e cs = some y → cs.length = k → ∃ x, cs = lay x ∧ ok x)
    (hv : Value.okWide P w r b0 t v) (h : DataW.Trod enc P w base (fun _ => true) held t v d ps) :
    ∃ (A : Option Addr) (l : List α) (c : Nat), v = .slice A l.length c ∧ l.length ≤ c ∧ c ≤ maxLen ∧ Row w w.heap.size A (flat lay l) ∧ ∀ x ∈ l, ok x := by
  obtain ⟨a0, len, cap, rfl⟩ := okWide_slice ht hv
  obtain ⟨fuel, hf⟩ := h
  rcases open_slice ht hf with ⟨hcs, _⟩ | ⟨a, len', cap', m, n, D, Pl, hcs, _, hl, hm, hmm, _, hi⟩
  · simp [Value.cells] at hcs
    obtain ⟨rfl, rfl, rfl⟩ := hcs
    exact ⟨none, [], 0, rfl, by simp, by simp [maxLen], Row.none_, fun x hx => by simp at hx⟩
  · simp [Value.cells] at hcs
    obtain ⟨rfl, rfl, rfl⟩ := hcs
    simp only [if_true] at hmm
    subst hmm
    rw [hC] at hi
    obtain ⟨l, hll, hp⟩ := list_of (n := len) (p := fun i x => (∀ j v, (lay x)[j]? = some v → w.cell? (a.add (i * k + j)) = some v) ∧ ok x) fun i hlt => by
      obtain ⟨cs', hc, ht'⟩ := hi i (by omega)
      obtain ⟨_, hcl, hat⟩ := World.cells?_some hc
      obtain ⟨x, rfl, hx⟩ := hel n cs' _ ht' hcl
      refine ⟨x, fun j v hj => ?_, hx⟩
      have hlt' : j < k := by have := (List.getElem?_eq_some_iff.1 hj).1; rw [hk] at this; exact this
      have h2 := hat j hlt'
      rw [add_add, hj] at h2
      exact h2
    refine ⟨some a, l, m, by rw [hll], by omega, hm, fun hne => ?_, fun x hx => ?_⟩
    · have hpos : 0 < l.length := by
        rcases Nat.eq_zero_or_pos l.length with h | h
        · rw [List.eq_nil_of_length_eq_zero h] at hne; exact absurd rfl hne
        · exact h
      obtain ⟨b, off, spot⟩ := a
      have h00 : w.cell? ((⟨b, off, spot⟩ : Addr).add (0 * k + 0)) = some ((lay l[0])[0]'(by rw [hk]; exact h0)) := (hp 0 l[0] (List.getElem?_eq_getElem hpos)).1 0 _ (List.getElem?_eq_getElem (by rw [hk]; exact h0))
      have hspot : spot = none := by simpa [Addr.add] using World.cell?_spot h00
      subst hspot
      refine ⟨b, off, rfl, ?_, fun j v hj => ?_⟩
      · have := World.block_lt_of_cell? _ _ h00
        simpa [Addr.add] using this
      · have hjl := (List.getElem?_eq_some_iff.1 hj).1
        rw [flat_length hk] at hjl
        have hd : j / k < l.length := Nat.div_lt_of_lt_mul (by rwa [Nat.mul_comm])
        have hm' := Nat.mod_lt j h0
        have hx := List.getElem?_eq_getElem hd
        have e2 : j / k * k + j % k = j := Nat.div_add_mod' j k
        have h3 := flat_get hk hm' l (j / k) _ hx
        rw [e2, hj] at h3
        have h4 := (hp (j / k) _ hx).1 (j % k) v h3.symm
        rw [e2, add_plain] at h4
        exact h4
    · obtain ⟨i, hi'⟩ := List.getElem?_of_mem hx
      exact (hp i x hi').2
end
end Go.Proofs.YtlagghghbpbcbaaGreatDoor.Open

/- Slices of integers of one kind, one cell each: reading them as lists, rows of the call's own, opening them. No program is named. -/
namespace Go.Proofs.YtlagghghbpbcbaaGreatDoor.Ints
open Go.ChangeShapes Go.WideShapes Go.RowKit Go.Deep Lay

/-- An integer's cell. -/
def encZ (k : IntKind) (v : Int) : List Value := [.int k v]
theorem encZ_length (k : IntKind) (v : Int) : (encZ k v).length = 1 := rfl
theorem encZ_one (k : IntKind) (x : Int) : ∀ v ∈ encZ k x, v.oneCell' = true := by
  intro v hv
  simp [encZ] at hv
  rcases hv with rfl
  rfl
theorem flat_ints (k : IntKind) : ∀ l : List Int, flat (encZ k) l = l.map (Value.int k)
  | [] => rfl
  | x :: l => by rw [flat_cons, flat_ints k l]; rfl
theorem flat_ints_length (k : IntKind) (l : List Int) : (flat (encZ k) l).length = l.length := by rw [flat_ints, List.length_map]

theorem int_at {w : World} {B : Nat} {A : Option Addr} {k : IntKind} {l : List Int} {i : Nat} (h : Row w B A (flat (encZ k) l)) (hi : i < l.length) :
    ∃ b o, A = some ⟨b, o, none⟩ ∧ b < B ∧ ∀ (j : Nat) (v : Int), l[j]? = some v → w.cell? ⟨b, o + j, none⟩ = some (.int k v) := by
  obtain ⟨b, o, hA, hb, hc⟩ := h.get (encZ_length k) hi (by decide)
  exact ⟨b, o, hA, hb, fun j v hv => by have := hc j v 0 _ hv (by decide) rfl; simpa using this⟩

theorem own_int_at {w : World} {base g cap n : Nat} {e : TypeId} {k : IntKind} {l : List Int} (h : w.ownsRow base e 1 (.slice (some ⟨g, 0, none⟩) n cap) n (flat (encZ k) l)) (hn : n = l.length) {j : Nat} {v : Int} (hv : l[j]? = some v) :
    w.cell? ⟨g, j, none⟩ = some (.int k v) ∧ w.frozen? ⟨g, j, none⟩ = false := by
  have hj := (List.getElem?_eq_some_iff.1 hv).1
  refine ⟨?_, h.frozenAt _⟩
  rw [h.cellAt _ (by omega)]
  have := flat_get (encZ_length k) (i := 0) (by decide) l j v hv
  simpa [encZ] using this
theorem flat_int_set (k : IntKind) (l : List Int) (j : Nat) (y : Int) : (flat (encZ k) l).set j (.int k y) = flat (encZ k) (l.set j y) := by
  rw [flat_ints, flat_ints, List.map_set]
theorem own_int_set {w : World} {base g cap n : Nat} {e : TypeId} {k : IntKind} {l : List Int} (h : w.ownsRow base e 1 (.slice (some ⟨g, 0, none⟩) n cap) n (flat (encZ k) l)) (j : Nat) (y : Int) :
    (w.setCell ⟨g, j, none⟩ (.int k y)).ownsRow base e 1 (.slice (some ⟨g, 0, none⟩) n cap) n (flat (encZ k) (l.set j y)) := by
  rw [← flat_int_set]
  exact (h.stored _ _).1
/-- What 'make' lays: zeros. -/
theorem made_ints (k : IntKind) (z : Int) (n : Nat) : (madeCells (Value.int k z).cells (n * 1)).toList = flat (encZ k) (List.replicate n z) := by
  rw [flat_ints, List.map_replicate]
  apply List.ext_getElem?
  intro i
  simp [madeCells, Value.cells, List.getElem?_replicate]
  by_cases h : i < n <;> simp [h, Nat.mod_one]

section
variable {H : Type} {enc : TypeId × Value → H} {P : Program} {w : World} {base : Nat} {spare : Nat → Bool} {held : Bool}
/-- An element: its cell. -/
theorem one_int {e : TypeId} {k : IntKind} (he : P.underlying e = some (.int k)) (n : Nat) (cs : List Value) (y : DataW H × List MemPlace) (h : DataW.trod enc P w base spare held n e cs = some y) (hl : cs.length = 1) :
    ∃ x : Int, cs = encZ k x ∧ (Lit.int k x).wf = true := by
  match cs, hl with
  | [c], _ =>
    obtain ⟨a, ea, _, wa⟩ := DataW.trod_int he h
    simp at ea
    exact ⟨a, by rw [ea]; rfl, wa⟩
end
end Go.Proofs.YtlagghghbpbcbaaGreatDoor.Ints

/- Opening arguments: structs of four integers, by value and in slices. No program is named. -/
namespace Go.Proofs.YtlagghghbpbcbaaGreatDoor.Open
open Go.ChangeShapes Go.WideShapes Go.RowKit Go.Deep Go.Joins Lay

section
variable {H : Type} {enc : TypeId × Value → H} {P : Program} {w : World} {base : Nat} {spare : Nat → Bool} {held : Bool}

/-- The four cells. -/
def enc4 (k0 k1 k2 k3 : IntKind) (x : Int × Int × Int × Int) : List Value := [.int k0 x.1, .int k1 x.2.1, .int k2 x.2.2.1, .int k3 x.2.2.2]
/-- A struct of four integers: its four cells. -/
theorem four_ints {e : TypeId} {f0 f1 f2 f3 : Field} {k0 k1 k2 k3 : IntKind} (he : P.underlying e = some (.struct #[f0, f1, f2, f3])) (hone : oneCellFields P #[f0, f1, f2, f3] = true)
    (h0 : P.underlying f0.type = some (.int k0)) (h1 : P.underlying f1.type = some (.int k1)) (h2 : P.underlying f2.type = some (.int k2)) (h3 : P.underlying f3.type = some (.int k3))
    (n : Nat) (cs : List Value) (y : DataW H × List MemPlace) (h : DataW.trod enc P w base spare held n e cs = some y) (hl : cs.length = 4) :
    ∃ x : Int × Int × Int × Int, cs = enc4 k0 k1 k2 k3 x ∧ (Lit.int k0 x.1).wf = true ∧ (Lit.int k1 x.2.1).wf = true ∧ (Lit.int k2 x.2.2.1).wf = true ∧ (Lit.int k3 x.2.2.2).wf = true := by
  match cs, hl with
  | [c0, c1, c2, c3], _ =>
    obtain ⟨y0, y1, y2, y3, m, _, _, g0, g1, g2, g3⟩ := trod_struct4 he h
    obtain ⟨o0, s0⟩ := hone_of hone 0 f0 rfl
    obtain ⟨o1, s1⟩ := hone_of hone 1 f1 rfl
    obtain ⟨o2, s2⟩ := hone_of hone 2 f2 rfl
    obtain ⟨o3, s3⟩ := hone_of hone 3 f3 rfl
    rw [o0, s0] at g0
    rw [o1, s1] at g1
    rw [o2, s2] at g2
    rw [o3, s3] at g3
    obtain ⟨a, ea, _, wa⟩ := DataW.trod_int h0 g0
    obtain ⟨b, eb, _, wb⟩ := DataW.trod_int h1 g1
    obtain ⟨c, ec, _, wc⟩ := DataW.trod_int h2 g2
    obtain ⟨d, ed, _, wd⟩ := DataW.trod_int h3 g3
    simp at ea eb ec ed
    exact ⟨(a, b, c, d), by rw [ea, eb, ec, ed]; rfl, wa, wb, wc, wd⟩

end

section
variable {w : World} {B : Nat} {A : Option Addr} {k0 k1 k2 k3 : IntKind}
end
end Go.Proofs.YtlagghghbpbcbaaGreatDoor.Open

/- Opening arguments: structs of five integers, by value and in slices. No program is named. -/
namespace Go.Proofs.YtlagghghbpbcbaaGreatDoor.Open
open Go.ChangeShapes Go.WideShapes Go.RowKit Go.Deep Go.Joins Lay

section
variable {H : Type} {enc : TypeId × Value → H} {P : Program} {w : World} {base : Nat} {spare : Nat → Bool} {held : Bool}

/-- The five cells. -/
def enc5 (k0 k1 k2 k3 k4 : IntKind) (x : Int × Int × Int × Int × Int) : List Value := [.int k0 x.1, .int k1 x.2.1, .int k2 x.2.2.1, .int k3 x.2.2.2.1, .int k4 x.2.2.2.2]
theorem enc5_length (k0 k1 k2 k3 k4 : IntKind) (x : Int × Int × Int × Int × Int) : (enc5 k0 k1 k2 k3 k4 x).length = 5 := rfl

/-- A struct of five integers: its five cells. -/
theorem five_ints {e : TypeId} {f0 f1 f2 f3 f4 : Field} {k0 k1 k2 k3 k4 : IntKind} (he : P.underlying e = some (.struct #[f0, f1, f2, f3, f4])) (hone : oneCellFields P #[f0, f1, f2, f3, f4] = true)
    (h0 : P.underlying f0.type = some (.int k0)) (h1 : P.underlying f1.type = some (.int k1)) (h2 : P.underlying f2.type = some (.int k2)) (h3 : P.underlying f3.type = some (.int k3)) (h4 : P.underlying f4.type = some (.int k4))
    (n : Nat) (cs : List Value) (y : DataW H × List MemPlace) (h : DataW.trod enc P w base spare held n e cs = some y) (hl : cs.length = 5) :
    ∃ x : Int × Int × Int × Int × Int, cs = enc5 k0 k1 k2 k3 k4 x ∧ (Lit.int k0 x.1).wf = true ∧ (Lit.int k1 x.2.1).wf = true ∧ (Lit.int k2 x.2.2.1).wf = true ∧ (Lit.int k3 x.2.2.2.1).wf = true ∧ (Lit.int k4 x.2.2.2.2).wf = true := by
  match cs, hl with
  | [c0, c1, c2, c3, c4], _ =>
    obtain ⟨xs, m, _, _, _, hlen, hg⟩ := DataW.trod_struct he h
    match xs, hlen with
    | [y0, y1, y2, y3, y4], _ =>
      have g0 := hg 0 f0 rfl
      have g1 := hg 1 f1 rfl
      have g2 := hg 2 f2 rfl
      have g3 := hg 3 f3 rfl
      have g4 := hg 4 f4 rfl
      obtain ⟨o0, s0⟩ := hone_of hone 0 f0 rfl
      obtain ⟨o1, s1⟩ := hone_of hone 1 f1 rfl
      obtain ⟨o2, s2⟩ := hone_of hone 2 f2 rfl
      obtain ⟨o3, s3⟩ := hone_of hone 3 f3 rfl
      obtain ⟨o4, s4⟩ := hone_of hone 4 f4 rfl
      rw [o0, s0] at g0
      rw [o1, s1] at g1
      rw [o2, s2] at g2
      rw [o3, s3] at g3
      rw [o4, s4] at g4
      obtain ⟨a, ea, _, wa⟩ := DataW.trod_int h0 (x := y0) g0
      obtain ⟨b, eb, _, wb⟩ := DataW.trod_int h1 (x := y1) g1
      obtain ⟨c, ec, _, wc⟩ := DataW.trod_int h2 (x := y2) g2
      obtain ⟨d, ed, _, wd⟩ := DataW.trod_int h3 (x := y3) g3
      obtain ⟨f, ef, _, wf⟩ := DataW.trod_int h4 (x := y4) g4
      simp at ea eb ec ed ef
      exact ⟨(a, b, c, d, f), by rw [ea, eb, ec, ed, ef]; rfl, wa, wb, wc, wd, wf⟩

end

section
variable {w : World} {B : Nat} {A : Option Addr} {k0 k1 k2 k3 k4 : IntKind}
/-- Where a slice of them has its j-th one. -/
theorem five_at {l : List (Int × Int × Int × Int × Int)} {i : Nat} (h : Row w B A (flat (enc5 k0 k1 k2 k3 k4) l)) (hi : i < l.length) :
    ∃ b o, A = some ⟨b, o, none⟩ ∧ b < B ∧ ∀ j x, l[j]? = some x → w.cell? ⟨b, o + j * 5, none⟩ = some (.int k0 x.1) ∧ w.cell? ⟨b, o + j * 5 + 1, none⟩ = some (.int k1 x.2.1) ∧ w.cell? ⟨b, o + j * 5 + 2, none⟩ = some (.int k2 x.2.2.1) ∧ w.cell? ⟨b, o + j * 5 + 3, none⟩ = some (.int k3 x.2.2.2.1) ∧ w.cell? ⟨b, o + j * 5 + 4, none⟩ = some (.int k4 x.2.2.2.2) := by
  obtain ⟨b, o, hA, hb, hc⟩ := h.get (enc5_length k0 k1 k2 k3 k4) hi (by decide)
  exact ⟨b, o, hA, hb, fun j x hx => ⟨hc j x 0 _ hx (by decide) rfl, hc j x 1 _ hx (by decide) rfl, hc j x 2 _ hx (by decide) rfl, hc j x 3 _ hx (by decide) rfl, hc j x 4 _ hx (by decide) rfl⟩⟩
end
end Go.Proofs.YtlagghghbpbcbaaGreatDoor.Open

/- Structs of two integers: their cells, in slices and in rows of the call's own; a struct of such a one and a bool. No program is named. -/
namespace Go.Proofs.YtlagghghbpbcbaaGreatDoor.Open
open Go.ChangeShapes Go.WideShapes Go.RowKit Go.Deep Go.Joins Lay

/-- The two cells. -/
def enc2 (k0 k1 : IntKind) (x : Int × Int) : List Value := [.int k0 x.1, .int k1 x.2]
theorem enc2_one (k0 k1 : IntKind) (x : Int × Int) : ∀ v ∈ enc2 k0 k1 x, v.oneCell' = true := by
  intro v hv
  simp [enc2] at hv
  rcases hv with rfl | rfl <;> rfl
section
variable {w : World} {B : Nat} {A : Option Addr} {k0 k1 : IntKind}
end

/-- The three cells of a struct of two integers and a bool. -/
def enc2b (k0 k1 : IntKind) (x : Int × Int × Bool) : List Value := [.int k0 x.1, .int k1 x.2.1, .bool x.2.2]
section
variable {w : World} {B : Nat} {A : Option Addr} {k0 k1 : IntKind}
end
section
variable {H : Type} {enc : TypeId × Value → H} {P : Program} {w : World} {base : Nat} {spare : Nat → Bool} {held : Bool}
end
end Go.Proofs.YtlagghghbpbcbaaGreatDoor.Open

/- Opening arguments: a struct of a struct of four integers, an integer, a struct of five integers, and one cell more, of which nothing is said. No program is named. -/
namespace Go.Proofs.YtlagghghbpbcbaaGreatDoor.Open
set_option maxRecDepth 20000
open Go.ChangeShapes Go.WideShapes Go.RowKit Go.Deep Go.Joins Lay

section
variable {H : Type} {enc : TypeId × Value → H} {P : Program} {w : World} {base : Nat} {spare : Nat → Bool} {held : Bool}
theorem open_call_ask {r : Reach} {b0 : Nat} {t : TypeId} {f0 f1 f2 f3 g0 g1 g2 g3 e0 e1 e2 e3 e4 : Field} {k0 k1 k2 k3 kk j0 j1 j2 j3 j4 : IntKind} {v : Value} {d : DataW H} {p : List MemPlace} (he : P.underlying t = some (.struct #[f0, f1, f2, f3])) (o0 : f0.offset = 0) (o1 : f1.offset = 4) (o2 : f2.offset = 5)
    (c0 : P.cellsOf f0.type = 4) (c1 : P.cellsOf f1.type = 1) (c2 : P.cellsOf f2.type = 5) (hC : P.cellsOf t = 11) (hf : P.underlying f0.type = some (.struct #[g0, g1, g2, g3])) (hone : oneCellFields P #[g0, g1, g2, g3] = true) (hc : P.underlying f2.type = some (.struct #[e0, e1, e2, e3, e4])) (hco : oneCellFields P #[e0, e1, e2, e3, e4] = true)
    (h0 : P.underlying g0.type = some (.int k0)) (h1 : P.underlying g1.type = some (.int k1)) (h2 : P.underlying g2.type = some (.int k2)) (h3 : P.underlying g3.type = some (.int k3)) (hk : P.underlying f1.type = some (.int kk))
    (i0 : P.underlying e0.type = some (.int j0)) (i1 : P.underlying e1.type = some (.int j1)) (i2 : P.underlying e2.type = some (.int j2)) (i3 : P.underlying e3.type = some (.int j3)) (i4 : P.underlying e4.type = some (.int j4))
    (hv : Value.okWide P w r b0 t v) (h : DataW.Trod enc P w base spare held t v d p) :
    ∃ (x : Int × Int × Int × Int) (y : Int) (z : Int × Int × Int × Int × Int) (V : Value), v = .agg #[.int k0 x.1, .int k1 x.2.1, .int k2 x.2.2.1, .int k3 x.2.2.2, .int kk y, .int j0 z.1, .int j1 z.2.1, .int j2 z.2.2.1, .int j3 z.2.2.2.1, .int j4 z.2.2.2.2, V] ∧
      ((Lit.int k0 x.1).wf = true ∧ (Lit.int k1 x.2.1).wf = true ∧ (Lit.int k2 x.2.2.1).wf = true ∧ (Lit.int k3 x.2.2.2).wf = true) ∧ (Lit.int kk y).wf = true ∧ (Lit.int j0 z.1).wf = true ∧ (Lit.int j1 z.2.1).wf = true ∧ (Lit.int j2 z.2.2.1).wf = true ∧ (Lit.int j3 z.2.2.2.1).wf = true ∧ (Lit.int j4 z.2.2.2.2).wf = true := by
  obtain ⟨cs, rfl, hsz⟩ := okWide_struct he hv
  obtain ⟨fuel, hfu⟩ := h
  have hsz4 : (Value.agg cs).cells.toList.length = 11 := by simpa [Value.cells] using hsz.trans hC
  have hin : ∀ l : List Value, l.length = 11 → ∀ {y}, DataW.trod enc P w base spare held fuel t l = some y → ∃ (x : Int × Int × Int × Int) (y : Int) (z : Int × Int × Int × Int × Int) (V : Value), l = [.int k0 x.1, .int k1 x.2.1, .int k2 x.2.2.1, .int k3 x.2.2.2, .int kk y, .int j0 z.1, .int j1 z.2.1, .int j2 z.2.2.1, .int j3 z.2.2.2.1, .int j4 z.2.2.2.2, V] ∧
      ((Lit.int k0 x.1).wf = true ∧ (Lit.int k1 x.2.1).wf = true ∧ (Lit.int k2 x.2.2.1).wf = true ∧ (Lit.int k3 x.2.2.2).wf = true) ∧ (Lit.int kk y).wf = true ∧ (Lit.int j0 z.1).wf = true ∧ (Lit.int j1 z.2.1).wf = true ∧ (Lit.int j2 z.2.2.1).wf = true ∧ (Lit.int j3 z.2.2.2.1).wf = true ∧ (Lit.int j4 z.2.2.2.2).wf = true := by
    intro l hl y h
    match l, hl with
    | [a0, a1, a2, a3, a4, a5, a6, a7, a8, a9, a10], _ =>
      obtain ⟨y0, y1, y2, y3, m, _, _, q0, q1, q2, -⟩ := trod_struct4 he h
      rw [o0, c0] at q0
      rw [o1, c1] at q1
      rw [o2, c2] at q2
      obtain ⟨x, ex, w0, w1, w2, w3⟩ := four_ints hf hone h0 h1 h2 h3 m _ _ q0 (by simp)
      obtain ⟨a, ea, _, wa⟩ := DataW.trod_int hk q1
      obtain ⟨z, ez, v0, v1, v2, v3, v4⟩ := five_ints hc hco i0 i1 i2 i3 i4 m _ _ q2 (by simp)
      simp [enc4] at ex
      simp at ea
      simp [enc5] at ez
      exact ⟨x, a, z, a10, by rw [ex.1, ex.2.1, ex.2.2.1, ex.2.2.2, ea, ez.1, ez.2.1, ez.2.2.1, ez.2.2.2.1, ez.2.2.2.2], ⟨w0, w1, w2, w3⟩, wa, v0, v1, v2, v3, v4⟩
  obtain ⟨x, y, z, V, e, q⟩ := hin _ hsz4 hfu
  refine ⟨x, y, z, V, ?_, q⟩
  have : cs = #[.int k0 x.1, .int k1 x.2.1, .int k2 x.2.2.1, .int k3 x.2.2.2, .int kk y, .int j0 z.1, .int j1 z.2.1, .int j2 z.2.2.1, .int j3 z.2.2.2.1, .int j4 z.2.2.2.2, V] := by
    apply Array.toList_inj.1
    simpa [Value.cells] using e
  rw [this]
end
end Go.Proofs.YtlagghghbpbcbaaGreatDoor.Open
