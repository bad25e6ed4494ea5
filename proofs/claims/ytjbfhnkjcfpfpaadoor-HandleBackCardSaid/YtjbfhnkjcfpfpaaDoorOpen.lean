/- Opening arguments: slices of structs whose fields are one cell each; structs of two integers. No program is named. -/
import Derived.Test.YtjbfhnkjcfpfpaaDoorLay
import Derived.Lib.SmallJoins
namespace Go.Proofs.YtjbfhnkjcfpfpaaDoor.Open
open Go.ChangeShapes Go.WideShapes Go.RowKit Go.Deep Go.Joins Lay

theorem list_of {α : Type} {n : Nat} {p : Nat → α → Prop} (h : ∀ i, i < n → ∃ x, p i x) : ∃ l : List α, l.length = n ∧ ∀ i x, l[i]? = some x → p i x := by
  induction n with
  | zero => exact ⟨[], rfl, fun i x hx => by simp at hx⟩
  | succ n ih =>
    obtain ⟨l, hl, hp⟩ := ih fun i hi => h i (by omega)
    obtain ⟨x, hx⟩ := h n (by omega)
    refine ⟨l ++ [x], by simp [hl], fun i y hy => ?_⟩
    by_cases hi : i < n
    · rw [List.getElem?_append_left (by omega)] at hy
      exact hp i y hy
    · have hlt := (List.getElem?_eq_some_iff.1 hy).1
      simp at hlt
      obtain rfl : i = n := by omega
      rw [List.getElem?_append_right (by omega)] at hy
      simp [hl] at hy
      rw [← hy]
      exact hx

section
variable {H : Type} {enc : TypeId × Value → H} {P : Program} {w : World} {base : Nat} {spare : Nat → Bool} {held : Bool}

/-- A struct of two integers: its two cells. -/
theorem two_ints {e : TypeId} {f0 f1 : Field} {k0 k1 : IntKind} (he : P.underlying e = some (.struct #[f0, f1])) (hone : oneCellFields P #[f0, f1] = true) (h0 : P.underlying f0.type = some (.int k0)) (h1 : P.underlying f1.type = some (.int k1))
    (n : Nat) (cs : List Value) (y : DataW H × List MemPlace) (h : DataW.trod enc P w base spare held n e cs = some y) (hl : cs.length = 2) :
    ∃ x : Int × Int, cs = [.int k0 x.1, .int k1 x.2] ∧ (Lit.int k0 x.1).wf = true ∧ (Lit.int k1 x.2).wf = true := by
  match cs, hl with
  | [c0, c1], _ =>
    obtain ⟨y0, y1, m, _, _, g0, g1⟩ := trod_struct2 he h
    obtain ⟨o0, s0⟩ := hone_of hone 0 f0 rfl
    obtain ⟨o1, s1⟩ := hone_of hone 1 f1 rfl
    rw [o0, s0] at g0
    rw [o1, s1] at g1
    obtain ⟨a, ea, _, wa⟩ := DataW.trod_int h0 g0
    obtain ⟨b, eb, _, wb⟩ := DataW.trod_int h1 g1
    simp at ea eb
    exact ⟨(a, b), by rw [ea, eb], wa, wb⟩

/-- .. by value. -/
theorem open_two_ints {r : Reach} {b0 : Nat} {t : TypeId} {f0 f1 : Field} {k0 k1 : IntKind} {v : Value} {d : DataW H} {p : List MemPlace} (he : P.underlying t = some (.struct #[f0, f1])) (hone : oneCellFields P #[f0, f1] = true) (hC : P.cellsOf t = 2)
    (h0 : P.underlying f0.type = some (.int k0)) (h1 : P.underlying f1.type = some (.int k1)) (hv : Value.okWide P w r b0 t v) (h : DataW.Trod enc P w base spare held t v d p) :
    ∃ x : Int × Int, v = .agg #[.int k0 x.1, .int k1 x.2] ∧ (Lit.int k0 x.1).wf = true ∧ (Lit.int k1 x.2).wf = true := by
  obtain ⟨cs, rfl, hsz⟩ := okWide_struct he hv
  obtain ⟨fuel, hf⟩ := h
  obtain ⟨x, e, w0, w1⟩ := two_ints he hone h0 h1 fuel _ _ hf (by simpa [Value.cells] using hsz.trans hC)
  refine ⟨x, ?_, w0, w1⟩
  have : cs = #[.int k0 x.1, .int k1 x.2] := by
    apply Array.toList_inj.1
    simpa [Value.cells] using e
  rw [this]

/-- A slice whose elements are k cells each: 'hel' says what one element's cells are. -/
theorem open_rows {α : Type} {k : Nat} (lay : α → List Value) (ok : α → Prop) {r : Reach} {b0 : Nat} {t e : TypeId} {v : Value} {d : DataW H} {ps : List MemPlace} (ht : P.underlying t = some (.slice e)) (hC : P.cellsOf e = k) (h0 : 0 < k)
    (hk : ∀ x, (lay x).length = k)
    (hel : ∀ (n : Nat) (cs : List Value) (y : DataW H × List MemPlace), DataW.trod enc P w base (fun _ => true) held n e cs = some y → cs.length = k → ∃ x, cs = lay x ∧ ok x)
    (hv : Value.okWide P w r b0 t v) (h : DataW.Trod enc P w base (fun _ => true) held t v d ps) :
    ∃ (A : Option Addr) (l : List α) (c : Nat), v = .slice A l.length c ∧ l.length ≤ c ∧ c ≤ maxLen ∧ Row w w.heap.size A (flat lay l) ∧ ∀ x ∈ l, ok x := by
  obtain ⟨a0, len, cap, rfl⟩ := okWide_slice ht hv
  obtain ⟨fuel, hf⟩ := h
  rcases open_slice ht hf with ⟨hcs, _⟩ | ⟨a, len', cap', m, n, D, Pl, hcs, _, hl, hm, hmm, _, hi⟩
  · simp [Value.cells] at hcs
    obtain ⟨rfl, rfl, rfl⟩ := hcs
    exact ⟨none, [], 0, rfl, by simp, by simp [maxLen], Row.none_, fun x hx => by simp at hx⟩
  · simp [Value.cells] at hcs
    obtain ⟨rfl, rfl, rfl⟩ := hcs
    simp only [if_true] at hmm
    subst hmm
    rw [hC] at hi
    obtain ⟨l, hll, hp⟩ := list_of (n := len) (p := fun i x => (∀ j v, (lay x)[j]? = some v → w.cell? (a.add (i * k + j)) = some v) ∧ ok x) fun i hlt => by
      obtain ⟨cs', hc, ht'⟩ := hi i (by omega)
      obtain ⟨_, hcl, hat⟩ := World.cells?_some hc
      obtain ⟨x, rfl, hx⟩ := hel n cs' _ ht' hcl
      refine ⟨x, fun j v hj => ?_, hx⟩
      have hlt' : j < k := by have := (List.getElem?_eq_some_iff.1 hj).1; rw [hk] at this; exact this
      have h2 := hat j hlt'
      rw [add_add, hj] at h2
      exact h2
    refine ⟨some a, l, m, by rw [hll], by omega, hm, fun hne => ?_, fun x hx => ?_⟩
    · have hpos : 0 < l.length := by
        rcases Nat.eq_zero_or_pos l.length with h | h
        · rw [List.eq_nil_of_length_eq_zero h] at hne; exact absurd rfl hne
        · exact h
      obtain ⟨b, off, spot⟩ := a
      have h00 : w.cell? ((⟨b, off, spot⟩ : Addr).add (0 * k + 0)) = some ((lay l[0])[0]'(by rw [hk]; exact h0)) := (hp 0 l[0] (List.getElem?_eq_getElem hpos)).1 0 _ (List.getElem?_eq_getElem (by rw [hk]; exact h0))
      have hspot : spot = none := by simpa [Addr.add] using World.cell?_spot h00
      subst hspot
      refine ⟨b, off, rfl, ?_, fun j v hj => ?_⟩
      · have := World.block_lt_of_cell? _ _ h00
        simpa [Addr.add] using this
      · have hjl := (List.getElem?_eq_some_iff.1 hj).1
        rw [flat_length hk] at hjl
        have hd : j / k < l.length := Nat.div_lt_of_lt_mul (by rwa [Nat.mul_comm])
        have hm' := Nat.mod_lt j h0
        have hx := List.getElem?_eq_getElem hd
        have e2 : j / k * k + j % k = j := Nat.div_add_mod' j k
        have h3 := flat_get hk hm' l (j / k) _ hx
        rw [e2, hj] at h3
        have h4 := (hp (j / k) _ hx).1 (j % k) v h3.symm
        rw [e2, add_plain] at h4
        exact h4
    · obtain ⟨i, hi'⟩ := List.getElem?_of_mem hx
      exact (hp i x hi').2
end
end Go.Proofs.YtjbfhnkjcfpfpaaDoor.Open
