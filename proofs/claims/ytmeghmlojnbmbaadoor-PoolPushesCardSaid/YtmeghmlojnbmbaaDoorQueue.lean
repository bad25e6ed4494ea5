/- A row of the call's own that begins anywhere in its block, of elements of one cell: its first or last element is cut off, one more is put behind. No program is named. -/
import Derived.Test.YtmeghmlojnbmbaaDoorOnly
import Derived.ArgAppend
namespace Go.Proofs.YtmeghmlojnbmbaaDoor.Lay
open Go.ChangeShapes Go.WideShapes Go.RowKit Go.Deep

def OwnFrom (w : World) (base : Nat) (e : TypeId) (v : Value) (n : Nat) (xs : List Value) : Prop :=
  xs.length = n ∧ ((v = .slice none 0 0 ∧ n = 0) ∨
    ∃ g o cap cur, v = .slice (some ⟨g, o, none⟩) n cap ∧ base ≤ g ∧ w.heap[g]? = some (.cells cur e (0, 0)) ∧ n ≤ cap ∧ cap ≤ maxLen ∧ o + cap ≤ cur.size ∧ (cur.toList.drop o).take n = xs)

section
variable {w w' : World} {base n : Nat} {e : TypeId} {v : Value} {xs : List Value}
theorem OwnFrom.nil (w : World) (base : Nat) (e : TypeId) : OwnFrom w base e (.slice none 0 0) 0 [] := ⟨rfl, .inl ⟨rfl, rfl⟩⟩
theorem OwnFrom.len (h : OwnFrom w base e v n xs) : xs.length = n := h.1
theorem OwnFrom.lt (h : OwnFrom w base e v n xs) : ∀ k, v.ownBlock = some k → base ≤ k ∧ k < w.heap.size := by
  intro k hk
  rcases h.2 with ⟨rfl, _⟩ | ⟨g, o, cap, cur, rfl, hb, hg, _⟩
  · cases hk
  · cases hk
    exact ⟨hb, (Array.getElem?_eq_some_iff.1 hg).1⟩
theorem OwnFrom.only {R : Nat → Prop} (h : OwnFrom w base e v n xs) (ho : Only R w w') (hr : ∀ k, v.ownBlock = some k → ¬ R k) : OwnFrom w' base e v n xs := by
  refine ⟨h.1, ?_⟩
  rcases h.2 with hn | ⟨g, o, cap, cur, rfl, hb, hg, rest⟩
  · exact .inl hn
  · exact .inr ⟨g, o, cap, cur, rfl, hb, ho.heap hg (hr g rfl), rest⟩
theorem OwnFrom.later (h : OwnFrom w base e v n xs) (hb : Below w.heap.size w w') : OwnFrom w' base e v n xs :=
  h.only (only_below (fun _ => False) hb) fun _ _ => id
/-- It is a slice; where it isn't empty it has a block. -/
theorem OwnFrom.form (h : OwnFrom w base e v n xs) : ∃ A c, v = .slice A n c ∧ n ≤ c := by
  rcases h.2 with ⟨rfl, rfl⟩ | ⟨g, o, cap, cur, rfl, hb, hg, hn, _⟩
  · exact ⟨none, 0, rfl, Nat.le_refl _⟩
  · exact ⟨_, cap, rfl, hn⟩
theorem OwnFrom.held (h : OwnFrom w base e v n xs) (hn : 0 < n) : ∃ g o c, v = .slice (some ⟨g, o, none⟩) n c ∧ n ≤ c ∧ c ≤ maxLen ∧ ∀ j u, xs[j]? = some u → w.cell? ⟨g, o + j, none⟩ = some u := by
  rcases h.2 with ⟨rfl, rfl⟩ | ⟨g, o, cap, cur, rfl, hb, hg, hnc, hm, hs, ht⟩
  · omega
  · refine ⟨g, o, cap, rfl, hnc, hm, fun j u hu => ?_⟩
    rw [(cell_heap hg (o + j)).1]
    have hj : j < n := by rw [← h.1]; exact (List.getElem?_eq_some_iff.1 hu).1
    rw [← ht, List.getElem?_take, if_pos hj, List.getElem?_drop] at hu
    simpa using hu
/-- The first element is cut off. -/
theorem OwnFrom.tail {g o c : Nat} {x : Value} (h : OwnFrom w base e (.slice (some ⟨g, o, none⟩) (n + 1) c) (n + 1) (x :: xs)) : OwnFrom w base e (.slice (if c = 1 then some ⟨g, o, none⟩ else some ⟨g, o + 1, none⟩) n (c - 1)) n xs := by
  refine ⟨by simpa using h.1, .inr ?_⟩
  rcases h.2 with ⟨hv, _⟩ | ⟨g', o', cap, cur, hv, hb, hg, hnc, hm, hs, ht⟩
  · cases hv
  · simp only [Value.slice.injEq, Option.some.injEq, Addr.mk.injEq, and_true, true_and] at hv
    obtain ⟨⟨rfl, rfl⟩, rfl⟩ := hv
    have hl : o < cur.toList.length := by simp; omega
    rw [List.drop_eq_getElem_cons hl, List.take_succ_cons] at ht
    have ht2 := (List.cons.inj ht).2
    by_cases hc : c = 1
    · subst hc
      obtain rfl : n = 0 := by omega
      refine ⟨g, o, 0, cur, by simp, hb, hg, Nat.le_refl _, by simp [maxLen], by omega, ?_⟩
      rw [← ht2]
      simp
    · exact ⟨g, o + 1, c - 1, cur, by rw [if_neg hc], hb, hg, by omega, by omega, by omega, ht2⟩
/-- The last element is cut off. -/
theorem OwnFrom.init {A : Option Addr} {c : Nat} {x : Value} (h : OwnFrom w base e (.slice A (n + 1) c) (n + 1) (xs ++ [x])) : OwnFrom w base e (.slice A n c) n xs := by
  have hl : xs.length = n := by have := h.1; simp at this; exact this
  refine ⟨hl, .inr ?_⟩
  rcases h.2 with ⟨hv, _⟩ | ⟨g, o, cap, cur, hv, hb, hg, hnc, hm, hs, ht⟩
  · cases hv
  · simp only [Value.slice.injEq, true_and] at hv
    obtain ⟨rfl, rfl⟩ := hv
    refine ⟨g, o, c, cur, rfl, hb, hg, by omega, hm, hs, ?_⟩
    have h2 : List.take n ((cur.toList.drop o).take (n + 1)) = List.take n (xs ++ [x]) := by rw [ht]
    rw [List.take_take, Nat.min_eq_left (by omega), List.take_left' hl] at h2
    exact h2
end

/-- One more element behind it. -/
theorem run_append_from {P : Program} (w : World) (base : Nat) (t ty e : TypeId) (i : TypeInfo) (z : Value) (bytes : Nat) (ht : P.underlying t = some (.slice e)) (hi : P.info? e = some i) (hz : i.zero = some z)
    (hsize : i.size = 1) (hby : i.bytes = bytes) (hzs : z.cells.size = 1)
    (v : Value) (n : Nat) (xs : List Value) (hown : OwnFrom w base e v n xs) (a : Addr) (c : Nat) (x : Value) (hx : w.cell? a = some x) (h1 : x.oneCell' = true)
    (h63 : n + 1 ≤ maxLen) (hbytes : (n + 1) * bytes ≤ 140737488355328) (hbase : base ≤ w.heap.size) :
    ∃ g o cap w', (Builtin.append_ #[t, t] ty #[v, .slice (some a) 1 c]).run P w = .ok (.slice (some ⟨g, o, none⟩) (n + 1) cap) w' ∧ OwnFrom w' base e (.slice (some ⟨g, o, none⟩) (n + 1) cap) (n + 1) (xs ++ [x]) ∧ n + 1 ≤ cap ∧ cap ≤ maxLen ∧
      (v.ownBlock = some g ∨ g = w.heap.size) ∧ Only (fun k => v.ownBlock = some k) w w' := by
  subst hby
  have hsmall : n + 1 ≤ 9223372036854775807 := by simp only [maxLen] at h63; omega
  have hnews : ∀ j u, [x][j]? = some u → w.cell? (a.add j) = some u := by
    intro j u hu
    match j, hu with
    | 0, hu =>
      simp at hu
      subst hu
      simpa [Addr.add] using hx
  have hl : [x].length = 1 * i.size := by rw [hsize]; rfl
  have grown : ∀ (old : Nat), old < n + 1 →
      OwnFrom (w.drew.alloc (.cells (xs.toArray ++ [x].toArray ++ Builtin.zeroCells z.cells (grownCap w (n + 1) old e - (n + 1))) e)) base e (.slice (some ⟨w.heap.size, 0, none⟩) (n + 1) (grownCap w (n + 1) old e)) (n + 1) (xs ++ [x]) ∧
      n + 1 ≤ grownCap w (n + 1) old e ∧ grownCap w (n + 1) old e ≤ maxLen := by
    intro old ho
    have hge := grownCap_ge w (n + 1) old e
    have hcm : grownCap w (n + 1) old e ≤ maxLen := grownCap_le_maxLen w (n + 1) old e h63
    have hln : (xs ++ [x]).length = n + 1 := by rw [List.length_append, hown.1]; rfl
    refine ⟨⟨hln, .inr ⟨w.heap.size, 0, _, _, rfl, hbase, heap_alloc_new w.drew _, hge, hcm, ?_, ?_⟩⟩, hge, hcm⟩
    · simp only [Array.size_append, List.size_toArray, size_zeroCells, hzs, hown.1, List.length_singleton]
      omega
    · simp only [Array.toList_append, List.drop_zero]
      rw [← hln]
      exact List.take_left
  rcases hown.2 with ⟨rfl, rfl⟩ | ⟨g, o, cap, cur, rfl, hb, hg, hnc, hm, hs, htk⟩
  · have hx0 : xs = [] := List.eq_nil_of_length_eq_zero hown.1
    subst hx0
    have hr := run_append_nil (P := P) w t ty e i z ht hi hz a 1 c [x] hl hnews (by omega) (by omega) (by have hb := hbytes; simp only [Nat.zero_add] at hb; omega)
    obtain ⟨g1, g2, g3⟩ := grown 0 (by omega)
    simp only [Nat.zero_add, List.nil_append, Array.empty_append] at g1 g2 g3 ⊢
    exact ⟨_, _, _, _, hr, g1, g2, g3, .inr rfl, (only_drew _ _).alloc _⟩
  · by_cases hroom : n + 1 ≤ cap
    · have hcell : w.cell? ⟨g, o + n, none⟩ = cur[o + n]? := (cell_heap hg (o + n)).1
      have hr := run_append_room_cells (P := P) w t ty e i ht hi g o n cap a 1 c [x] hl hnews (by simpa using h1) hroom
        (fun j hj => by
          simp only [List.length_singleton] at hj
          obtain rfl : j = 0 := by omega
          rw [hsize, Nat.mul_one, Nat.add_zero, hcell, Array.getElem?_eq_getElem (by omega)]
          rfl)
        (fun j hj => by
          simp only [List.length_singleton] at hj
          obtain rfl : j = 0 := by omega
          rw [hsize, Nat.mul_one, Nat.add_zero]
          exact (cell_heap hg _).2)
      rw [hsize, Nat.mul_one] at hr
      have hst := set_heap (j := o + n) hg x
      refine ⟨g, o, cap, _, hr, ⟨by rw [List.length_append, hown.1]; rfl, .inr ⟨g, o, cap, _, rfl, hb, hst, hroom, hm, by simpa using hs, ?_⟩⟩, hroom, hm, .inl rfl, only_setCell w (R := fun k => k = g) rfl _ |>.wide fun k e => .inl (by subst e; rfl)⟩
      rw [Array.toList_setIfInBounds, List.drop_set, if_neg (by omega), List.take_set, show o + n - o = n by omega]
      have hln : (cur.toList.drop o).length = cur.size - o := by simp
      have e2 : List.take (n + 1) (cur.toList.drop o) = xs ++ [(cur.toList.drop o)[n]'(by rw [hln]; omega)] := by
        rw [List.take_succ_eq_append_getElem (by rw [hln]; omega), htk]
      rw [e2, List.set_append_right _ _ (by rw [hown.1]; omega), hown.1, Nat.sub_self]
      rfl
    · have holds : ∀ j u, xs[j]? = some u → w.cell? ((⟨g, o, none⟩ : Addr).add j) = some u := by
        intro j u hu
        rw [Addr.add_lit, (cell_heap hg (o + j)).1]
        have hj : j < n := by rw [← hown.1]; exact (List.getElem?_eq_some_iff.1 hu).1
        rw [← htk, List.getElem?_take, if_pos hj, List.getElem?_drop] at hu
        simpa using hu
      have hr := run_append_grow (P := P) w t ty e i z ht hi hz ⟨g, o, none⟩ n cap xs (by rw [hsize, Nat.mul_one]; exact hown.1) holds a 1 c [x] hl hnews (by omega) (by omega) (growslice_fits (by omega) hbytes)
      obtain ⟨g1, g2, g3⟩ := grown cap (by omega)
      exact ⟨_, _, _, _, hr, g1, g2, g3, .inr rfl, (only_drew _ _).alloc _⟩

/-- At the operation. -/
theorem wpList_append_from {P : Program} (w : World) {ops : Array Oper} {rest : List Oper} {o : Oper} {a : Act} {Q : Exit → Act → World → Prop} (hgd : o.guard = none) (s x : Operand) (t : TypeId)
    (ho : o.op = .call { callee := .builtin .append, args := #[s, x], argTypes := #[t, t] })
    (base : Nat) (e : TypeId) (i : TypeInfo) (z : Value) (bytes : Nat) (ht : P.underlying t = some (.slice e)) (hi : P.info? e = some i) (hz : i.zero = some z)
    (hsize : i.size = 1) (hby : i.bytes = bytes) (hzs : z.cells.size = 1)
    (v : Value) (n : Nat) (xs : List Value) (hs : a.eval s = v) (hown : OwnFrom w base e v n xs) (ad : Addr) (c : Nat) (u : Value) (hx : a.eval x = .slice (some ad) 1 c) (hu : w.cell? ad = some u) (h1 : u.oneCell' = true)
    (h63 : n + 1 ≤ maxLen) (hbytes : (n + 1) * bytes ≤ 140737488355328) (hbase : base ≤ w.heap.size)
    (h : ∀ (g o' cap : Nat) (w' : World), OwnFrom w' base e (.slice (some ⟨g, o', none⟩) (n + 1) cap) (n + 1) (xs ++ [u]) → n + 1 ≤ cap → cap ≤ maxLen → (v.ownBlock = some g ∨ g = w.heap.size) → Only (fun k => v.ownBlock = some k) w w' → wpList P ops Q rest (a.put o.dst (.slice (some ⟨g, o', none⟩) (n + 1) cap)) w') :
    wpList P ops Q (o :: rest) a w := by
  refine wpList_plain hgd fun K hK => ?_
  obtain ⟨g, o', cap, w', hr, h2, h3, h4, h5, h6⟩ := run_append_from (P := P) w base t o.type e i z bytes ht hi hz hsize hby hzs v n xs hown ad c u hu h1 h63 hbytes hbase
  unfold Oper.wp execOp
  simp only [ho, resolve, invoke, builtin, Sem.run_bind, Sem.run_pure, Result.andThen_ok, List.map_toArray, List.map_cons, List.map_nil, hs, hx, hr]
  exact hK _ _ (h g o' cap w' h2 h3 h4 h5 h6)
end Go.Proofs.YtmeghmlojnbmbaaDoor.Lay
