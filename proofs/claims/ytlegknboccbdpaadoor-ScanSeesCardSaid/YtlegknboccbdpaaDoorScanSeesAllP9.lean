import Derived.Test.YtlegknboccbdpaaDoorScanSeesAllP2
import Derived.Lib.SmallJoins
/- Opening arguments: slices of structs whose fields are one cell each; structs of two integers. No program is named. -/
namespace Go.Proofs.YtlegknboccbdpaaDoor.Open
open Go.ChangeShapes Go.WideShapes Go.RowKit Go.Deep Go.Joins Lay

theorem list_of {α : Type} {n : Nat} {p : Nat → α → Prop} (h : ∀ i, i < n → ∃ x, p i x) : ∃ l : List α, l.length = n ∧ ∀ i x, l[i]? = some x → p i x := by
  induction n with
  | zero => exact ⟨[], rfl, fun i x hx => by simp at hx⟩
  | succ n ih =>
    obtain ⟨l, hl, hp⟩ := ih fun i hi => h i (by omega)
    obtain ⟨x, hx⟩ := h n (by omega)
    refine ⟨l ++ [x], by simp [hl], fun i y hy => ?_⟩
    by_cases hi : i < n
    · rw [List.getElem?_append_left (by omega)] at hy
      exact hp i y hy
    · have hlt := (List.getElem?_eq_some_iff.1 hy).1
      simp at hlt
      obtain rfl : i = n := by omega
      rw [List.getElem?_append_right (by omega)] at hy
      simp [hl] at hy
      rw [← hy]
      exact hx

section
variable {H : Type} {enc : TypeId × Value → H} {P : Program} {w : World} {base : Nat} {spare : Nat → Bool} {held : Bool}

/-- A struct of two integers: its two cells. -/
theorem two_ints {e : TypeId} {f0 f1 : Field} {k0 k1 : IntKind} (he : P.underlying e = some (.struct #[f0, f1])) (hone : oneCellFields P #[f0, f1] = true) (h0 : P.underlying f0.type = some (.int k0)) (h1 : P.underlying f1.type = some (.int k1))
    (n : Nat) (cs : List Value) (y : DataW H × List MemPlace) (h : DataW.trod enc P w base spare held n e cs = some y) (hl : cs.length = 2) :
    ∃ x : Int × Int, cs = [.int k0 x.1, .int k1 x.2] ∧ (Lit.int k0 x.1).wf = true ∧ (Lit.int k1 x.2).wf = true := by
  match cs, hl with
  | [c0, c1], _ =>
    obtain ⟨y0, y1, m, _, _, g0, g1⟩ := trod_struct2 he h
    obtain ⟨o0, s0⟩ := hone_of hone 0 f0 rfl
    obtain ⟨o1, s1⟩ := hone_of hone 1 f1 rfl
    rw [o0, s0] at g0
    rw [o1, s1] at g1
    obtain ⟨a, ea, _, wa⟩ := DataW.trod_int h0 g0
    obtain ⟨b, eb, _, wb⟩ := DataW.trod_int h1 g1
    simp at ea eb
    exact ⟨(a, b), by rw [ea, eb], wa, wb⟩

/-- .. by value. -/
theorem open_two_ints {r : Reach} {b0 : Nat} {t : TypeId} {f0 f1 : Field} {k0 k1 : IntKind} {v : Value} {d : DataW H} {p : List MemPlace} (he : P.underlying t = some (.struct #[f0, f1])) (hone : oneCellFields P #[f0, f1] = true) (hC : P.cellsOf t = 2)
    (h0 : P.underlying f0.type = some (.int k0)) (h1 : P.underlying f1.type = some (.int k1)) (hv : Value.okWide P w r b0 t v) (h : DataW.Trod enc P w base spare held t v d p) :
    ∃ x : Int × Int, v = .agg #[.int k0 x.1, .int k1 x.2] ∧ (Lit.int k0 x.1).wf = true ∧ (Lit.int k1 x.2).wf = true := by
  obtain ⟨cs, rfl, hsz⟩ := okWide_struct he hv
  obtain ⟨fuel, hf⟩ := h
  obtain ⟨x, e, w0, w1⟩ := two_ints he hone h0 h1 fuel _ _ hf (by simpa [Value.cells] using hsz.trans hC)
  refine ⟨x, ?_, w0, w1⟩
  have : cs = #[.int k0 x.1, .int k1 x.2] := by
    apply Array.toList_inj.1
    simpa [Value.cells] using e
  rw [this]

/-- A slice whose elements are k cells each: 'hel' says what one element's cells are. -/
theorem open_rows {α : Type} {k : Nat} (lay : α → List Value) (ok : α → Prop) {r : Reach} {b0 : Nat} {t e : TypeId} {v : Value} {d : DataW H} {ps : List MemPlace} (ht : P.underlying t = some (.slice e)) (hC : P.cellsOf e = k) (h0 : 0 < k)
    (hk : ∀ x, (lay x).length = k)
    (hel : ∀ (n : Nat) (cs : List Value) (y : DataW H × List MemPlace), DataW.trod enc P w base (fun _ => true) held n e cs = some y → cs.length = k → ∃ x, cs = lay x ∧ ok x)
    (hv : Value.okWide P w r b0 t v) (h : DataW.Trod enc P w base (fun _ => true) held t v d ps) :
    ∃ (A : Option Addr) (l : List α) (c : Nat), v = .slice A l.length c ∧ l.length ≤ c ∧ c ≤ maxLen ∧ Row w w.heap.size A (flat lay l) ∧ ∀ x ∈ l, ok x := by
  obtain ⟨a0, len, cap, rfl⟩ := okWide_slice ht hv
  obtain ⟨fuel, hf⟩ := h
  rcases open_slice ht hf with ⟨hcs, _⟩ | ⟨a, len', cap', m, n, D, Pl, hcs, _, hl, hm, hmm, _, hi⟩
  · simp [Value.cells] at hcs
    obtain ⟨rfl, rfl, rfl⟩ := hcs
    exact ⟨none, [], 0, rfl, by simp, by simp [maxLen], Row.none_, fun x hx => by simp at hx⟩
  · simp [Value.cells] at hcs
    obtain ⟨rfl, rfl, rfl⟩ := hcs
    simp only [if_true] at hmm
    subst hmm
    rw [hC] at hi
    obtain ⟨l, hll, hp⟩ := list_of (n := len) (p := fun i x => (∀ j v, (lay x)[j]? = some v → w.cell? (a.add (i * k + j)) = some v) ∧ ok x) fun i hlt => by
      obtain ⟨cs', hc, ht'⟩ := hi i (by omega)
      obtain ⟨_, hcl, hat⟩ := World.cells?_some hc
      obtain ⟨x, rfl, hx⟩ := hel n cs' _ ht' hcl
      refine ⟨x, fun j v hj => ?_, hx⟩
      have hlt' : j < k := by have := (List.getElem?_eq_some_iff.1 hj).1; rw [hk] at this; exact this
      have h2 := hat j hlt'
      rw [add_add, hj] at h2
      exact h2
    refine ⟨some a, l, m, by rw [hll], by omega, hm, fun hne => ?_, fun x hx => ?_⟩
    · have hpos : 0 < l.length := by
        rcases Nat.eq_zero_or_pos l.length with h | h
        · rw [List.eq_nil_of_length_eq_zero h] at hne; exact absurd rfl hne
        · exact h
      obtain ⟨b, off, spot⟩ := a
      have h00 : w.cell? ((⟨b, off, spot⟩ : Addr).add (0 * k + 0)) = some ((lay l[0])[0]'(by rw [hk]; exact h0)) := (hp 0 l[0] (List.getElem?_eq_getElem hpos)).1 0 _ (List.getElem?_eq_getElem (by rw [hk]; exact h0))
      have hspot : spot = none := by simpa [Addr.add] using World.cell?_spot h00
      subst hspot
      refine ⟨b, off, rfl, ?_, fun j v hj => ?_⟩
      · have := World.block_lt_of_cell? _ _ h00
        simpa [Addr.add] using this
      · have hjl := (List.getElem?_eq_some_iff.1 hj).1
        rw [flat_length hk] at hjl
        have hd : j / k < l.length := Nat.div_lt_of_lt_mul (by rwa [Nat.mul_comm])
        have hm' := Nat.mod_lt j h0
        have hx := List.getElem?_eq_getElem hd
        have e2 : j / k * k + j % k = j := Nat.div_add_mod' j k
        have h3 := flat_get hk hm' l (j / k) _ hx
        rw [e2, hj] at h3
        have h4 := (hp (j / k) _ hx).1 (j % k) v h3.symm
        rw [e2, add_plain] at h4
        exact h4
    · obtain ⟨i, hi'⟩ := List.getElem?_of_mem hx
      exact (hp i x hi').2
end
end Go.Proofs.YtlegknboccbdpaaDoor.Open

/- Opening arguments: structs of five integers, by value and in slices. No program is named. -/
namespace Go.Proofs.YtlegknboccbdpaaDoor.Open
open Go.ChangeShapes Go.WideShapes Go.RowKit Go.Deep Go.Joins Lay

section
variable {H : Type} {enc : TypeId × Value → H} {P : Program} {w : World} {base : Nat} {spare : Nat → Bool} {held : Bool}

/-- The five cells. -/
def enc5 (k0 k1 k2 k3 k4 : IntKind) (x : Int × Int × Int × Int × Int) : List Value := [.int k0 x.1, .int k1 x.2.1, .int k2 x.2.2.1, .int k3 x.2.2.2.1, .int k4 x.2.2.2.2]
theorem enc5_length (k0 k1 k2 k3 k4 : IntKind) (x : Int × Int × Int × Int × Int) : (enc5 k0 k1 k2 k3 k4 x).length = 5 := rfl

/-- A struct of five integers: its five cells. -/
theorem five_ints {e : TypeId} {f0 f1 f2 f3 f4 : Field} {k0 k1 k2 k3 k4 : IntKind} (he : P.underlying e = some (.struct #[f0, f1, f2, f3, f4])) (hone : oneCellFields P #[f0, f1, f2, f3, f4] = true)
    (h0 : P.underlying f0.type = some (.int k0)) (h1 : P.underlying f1.type = some (.int k1)) (h2 : P.underlying f2.type = some (.int k2)) (h3 : P.underlying f3.type = some (.int k3)) (h4 : P.underlying f4.type = some (.int k4))
    (n : Nat) (cs : List Value) (y : DataW H × List MemPlace) (h : DataW.trod enc P w base spare held n e cs = some y) (hl : cs.length = 5) :
    ∃ x : Int × Int × Int × Int × Int, cs = enc5 k0 k1 k2 k3 k4 x ∧ (Lit.int k0 x.1).wf = true ∧ (Lit.int k1 x.2.1).wf = true ∧ (Lit.int k2 x.2.2.1).wf = true ∧ (Lit.int k3 x.2.2.2.1).wf = true ∧ (Lit.int k4 x.2.2.2.2).wf = true := by
  match cs, hl with
  | [c0, c1, c2, c3, c4], _ =>
    obtain ⟨xs, m, _, _, _, hlen, hg⟩ := DataW.trod_struct he h
    match xs, hlen with
    | [y0, y1, y2, y3, y4], _ =>
      have g0 := hg 0 f0 rfl
      have g1 := hg 1 f1 rfl
      have g2 := hg 2 f2 rfl
      have g3 := hg 3 f3 rfl
      have g4 := hg 4 f4 rfl
      obtain ⟨o0, s0⟩ := hone_of hone 0 f0 rfl
      obtain ⟨o1, s1⟩ := hone_of hone 1 f1 rfl
      obtain ⟨o2, s2⟩ := hone_of hone 2 f2 rfl
      obtain ⟨o3, s3⟩ := hone_of hone 3 f3 rfl
      obtain ⟨o4, s4⟩ := hone_of hone 4 f4 rfl
      rw [o0, s0] at g0
      rw [o1, s1] at g1
      rw [o2, s2] at g2
      rw [o3, s3] at g3
      rw [o4, s4] at g4
      obtain ⟨a, ea, _, wa⟩ := DataW.trod_int h0 (x := y0) g0
      obtain ⟨b, eb, _, wb⟩ := DataW.trod_int h1 (x := y1) g1
      obtain ⟨c, ec, _, wc⟩ := DataW.trod_int h2 (x := y2) g2
      obtain ⟨d, ed, _, wd⟩ := DataW.trod_int h3 (x := y3) g3
      obtain ⟨f, ef, _, wf⟩ := DataW.trod_int h4 (x := y4) g4
      simp at ea eb ec ed ef
      exact ⟨(a, b, c, d, f), by rw [ea, eb, ec, ed, ef]; rfl, wa, wb, wc, wd, wf⟩

/-- .. by value. -/
theorem open_five_ints {r : Reach} {b0 : Nat} {t : TypeId} {f0 f1 f2 f3 f4 : Field} {k0 k1 k2 k3 k4 : IntKind} {v : Value} {d : DataW H} {p : List MemPlace} (he : P.underlying t = some (.struct #[f0, f1, f2, f3, f4])) (hone : oneCellFields P #[f0, f1, f2, f3, f4] = true) (hC : P.cellsOf t = 5)
    (h0 : P.underlying f0.type = some (.int k0)) (h1 : P.underlying f1.type = some (.int k1)) (h2 : P.underlying f2.type = some (.int k2)) (h3 : P.underlying f3.type = some (.int k3)) (h4 : P.underlying f4.type = some (.int k4))
    (hv : Value.okWide P w r b0 t v) (h : DataW.Trod enc P w base spare held t v d p) :
    ∃ x : Int × Int × Int × Int × Int, v = .agg #[.int k0 x.1, .int k1 x.2.1, .int k2 x.2.2.1, .int k3 x.2.2.2.1, .int k4 x.2.2.2.2] ∧ (Lit.int k0 x.1).wf = true ∧ (Lit.int k1 x.2.1).wf = true ∧ (Lit.int k2 x.2.2.1).wf = true ∧ (Lit.int k3 x.2.2.2.1).wf = true ∧ (Lit.int k4 x.2.2.2.2).wf = true := by
  obtain ⟨cs, rfl, hsz⟩ := okWide_struct he hv
  obtain ⟨fuel, hf⟩ := h
  obtain ⟨x, e, w0, w1, w2, w3, w4⟩ := five_ints he hone h0 h1 h2 h3 h4 fuel _ _ hf (by simpa [Value.cells] using hsz.trans hC)
  refine ⟨x, ?_, w0, w1, w2, w3, w4⟩
  have : cs = #[.int k0 x.1, .int k1 x.2.1, .int k2 x.2.2.1, .int k3 x.2.2.2.1, .int k4 x.2.2.2.2] := by
    apply Array.toList_inj.1
    simpa [Value.cells, enc5] using e
  rw [this]
end

section
variable {w : World} {B : Nat} {A : Option Addr} {k0 k1 k2 k3 k4 : IntKind}
/-- Where a slice of them has its j-th one. -/
theorem five_at {l : List (Int × Int × Int × Int × Int)} {i : Nat} (h : Row w B A (flat (enc5 k0 k1 k2 k3 k4) l)) (hi : i < l.length) :
    ∃ b o, A = some ⟨b, o, none⟩ ∧ b < B ∧ ∀ j x, l[j]? = some x → w.cell? ⟨b, o + j * 5, none⟩ = some (.int k0 x.1) ∧ w.cell? ⟨b, o + j * 5 + 1, none⟩ = some (.int k1 x.2.1) ∧ w.cell? ⟨b, o + j * 5 + 2, none⟩ = some (.int k2 x.2.2.1) ∧ w.cell? ⟨b, o + j * 5 + 3, none⟩ = some (.int k3 x.2.2.2.1) ∧ w.cell? ⟨b, o + j * 5 + 4, none⟩ = some (.int k4 x.2.2.2.2) := by
  obtain ⟨b, o, hA, hb, hc⟩ := h.get (enc5_length k0 k1 k2 k3 k4) hi (by decide)
  exact ⟨b, o, hA, hb, fun j x hx => ⟨hc j x 0 _ hx (by decide) rfl, hc j x 1 _ hx (by decide) rfl, hc j x 2 _ hx (by decide) rfl, hc j x 3 _ hx (by decide) rfl, hc j x 4 _ hx (by decide) rfl⟩⟩
end
end Go.Proofs.YtlegknboccbdpaaDoor.Open

/- Opening arguments: structs of four integers, by value and in slices. No program is named. -/
namespace Go.Proofs.YtlegknboccbdpaaDoor.Open
open Go.ChangeShapes Go.WideShapes Go.RowKit Go.Deep Go.Joins Lay

section
variable {H : Type} {enc : TypeId × Value → H} {P : Program} {w : World} {base : Nat} {spare : Nat → Bool} {held : Bool}

/-- The four cells. -/
def enc4 (k0 k1 k2 k3 : IntKind) (x : Int × Int × Int × Int) : List Value := [.int k0 x.1, .int k1 x.2.1, .int k2 x.2.2.1, .int k3 x.2.2.2]
theorem enc4_length (k0 k1 k2 k3 : IntKind) (x : Int × Int × Int × Int) : (enc4 k0 k1 k2 k3 x).length = 4 := rfl

/-- A struct of four integers: its four cells. -/
theorem four_ints {e : TypeId} {f0 f1 f2 f3 : Field} {k0 k1 k2 k3 : IntKind} (he : P.underlying e = some (.struct #[f0, f1, f2, f3])) (hone : oneCellFields P #[f0, f1, f2, f3] = true)
    (h0 : P.underlying f0.type = some (.int k0)) (h1 : P.underlying f1.type = some (.int k1)) (h2 : P.underlying f2.type = some (.int k2)) (h3 : P.underlying f3.type = some (.int k3))
    (n : Nat) (cs : List Value) (y : DataW H × List MemPlace) (h : DataW.trod enc P w base spare held n e cs = some y) (hl : cs.length = 4) :
    ∃ x : Int × Int × Int × Int, cs = enc4 k0 k1 k2 k3 x ∧ (Lit.int k0 x.1).wf = true ∧ (Lit.int k1 x.2.1).wf = true ∧ (Lit.int k2 x.2.2.1).wf = true ∧ (Lit.int k3 x.2.2.2).wf = true := by
  match cs, hl with
  | [c0, c1, c2, c3], _ =>
    obtain ⟨y0, y1, y2, y3, m, _, _, g0, g1, g2, g3⟩ := trod_struct4 he h
    obtain ⟨o0, s0⟩ := hone_of hone 0 f0 rfl
    obtain ⟨o1, s1⟩ := hone_of hone 1 f1 rfl
    obtain ⟨o2, s2⟩ := hone_of hone 2 f2 rfl
    obtain ⟨o3, s3⟩ := hone_of hone 3 f3 rfl
    rw [o0, s0] at g0
    rw [o1, s1] at g1
    rw [o2, s2] at g2
    rw [o3, s3] at g3
    obtain ⟨a, ea, _, wa⟩ := DataW.trod_int h0 g0
    obtain ⟨b, eb, _, wb⟩ := DataW.trod_int h1 g1
    obtain ⟨c, ec, _, wc⟩ := DataW.trod_int h2 g2
    obtain ⟨d, ed, _, wd⟩ := DataW.trod_int h3 g3
    simp at ea eb ec ed
    exact ⟨(a, b, c, d), by rw [ea, eb, ec, ed]; rfl, wa, wb, wc, wd⟩

/-- .. by value. -/
theorem open_four_ints {r : Reach} {b0 : Nat} {t : TypeId} {f0 f1 f2 f3 : Field} {k0 k1 k2 k3 : IntKind} {v : Value} {d : DataW H} {p : List MemPlace} (he : P.underlying t = some (.struct #[f0, f1, f2, f3])) (hone : oneCellFields P #[f0, f1, f2, f3] = true) (hC : P.cellsOf t = 4)
    (h0 : P.underlying f0.type = some (.int k0)) (h1 : P.underlying f1.type = some (.int k1)) (h2 : P.underlying f2.type = some (.int k2)) (h3 : P.underlying f3.type = some (.int k3))
    (hv : Value.okWide P w r b0 t v) (h : DataW.Trod enc P w base spare held t v d p) :
    ∃ x : Int × Int × Int × Int, v = .agg #[.int k0 x.1, .int k1 x.2.1, .int k2 x.2.2.1, .int k3 x.2.2.2] ∧ (Lit.int k0 x.1).wf = true ∧ (Lit.int k1 x.2.1).wf = true ∧ (Lit.int k2 x.2.2.1).wf = true ∧ (Lit.int k3 x.2.2.2).wf = true := by
  obtain ⟨cs, rfl, hsz⟩ := okWide_struct he hv
  obtain ⟨fuel, hf⟩ := h
  obtain ⟨x, e, w0, w1, w2, w3⟩ := four_ints he hone h0 h1 h2 h3 fuel _ _ hf (by simpa [Value.cells] using hsz.trans hC)
  refine ⟨x, ?_, w0, w1, w2, w3⟩
  have : cs = #[.int k0 x.1, .int k1 x.2.1, .int k2 x.2.2.1, .int k3 x.2.2.2] := by
    apply Array.toList_inj.1
    simpa [Value.cells, enc4] using e
  rw [this]
end

section
variable {w : World} {B : Nat} {A : Option Addr} {k0 k1 k2 k3 : IntKind}
/-- Where a slice of them has its j-th one. -/
theorem four_at {l : List (Int × Int × Int × Int)} {i : Nat} (h : Row w B A (flat (enc4 k0 k1 k2 k3) l)) (hi : i < l.length) :
    ∃ b o, A = some ⟨b, o, none⟩ ∧ b < B ∧ ∀ j x, l[j]? = some x → w.cell? ⟨b, o + j * 4, none⟩ = some (.int k0 x.1) ∧ w.cell? ⟨b, o + j * 4 + 1, none⟩ = some (.int k1 x.2.1) ∧ w.cell? ⟨b, o + j * 4 + 2, none⟩ = some (.int k2 x.2.2.1) ∧ w.cell? ⟨b, o + j * 4 + 3, none⟩ = some (.int k3 x.2.2.2) := by
  obtain ⟨b, o, hA, hb, hc⟩ := h.get (enc4_length k0 k1 k2 k3) hi (by decide)
  exact ⟨b, o, hA, hb, fun j x hx => ⟨hc j x 0 _ hx (by decide) rfl, hc j x 1 _ hx (by decide) rfl, hc j x 2 _ hx (by decide) rfl, hc j x 3 _ hx (by decide) rfl⟩⟩
end
end Go.Proofs.YtlegknboccbdpaaDoor.Open
