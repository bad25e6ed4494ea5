/- Worlds in which all but certain blocks have stayed (R: those that may have turned; whatever is new may be anything). No function is named. -/
import Derived.Test.YtjbfhnkjcfpfpaaDoorLay
namespace Go.Proofs.YtjbfhnkjcfpfpaaDoor.Lay
open Go.ChangeShapes Go.WideShapes Go.RowKit Go.Deep

structure Only (R : Nat → Prop) (w w' : World) : Prop where
  os : w'.os = w.os
  tape : w'.tape = w.tape
  output : w'.output = w.output
  size : w.heap.size ≤ w'.heap.size
  block : ∀ k, k < w.heap.size → ¬ R k → w'.heap[k]? = w.heap[k]?

section
variable {R R' : Nat → Prop} {a b c w w' : World}
theorem Only.refl (R : Nat → Prop) (w : World) : Only R w w := ⟨rfl, rfl, rfl, Nat.le_refl _, fun _ _ _ => rfl⟩
/-- Two steps: what the second turns is what the first may turn, or is new. -/
theorem Only.more (h : Only R a b) (k : Only R' b c) (hR : ∀ i, R' i → R i ∨ a.heap.size ≤ i) : Only R a c :=
  ⟨k.os.trans h.os, k.tape.trans h.tape, k.output.trans h.output, Nat.le_trans h.size k.size, fun i hi hr =>
    (k.block i (Nat.lt_of_lt_of_le hi h.size) (fun e => (hR i e).elim hr (fun h => by omega))).trans (h.block i hi hr)⟩
theorem Only.trans (h : Only R a b) (k : Only R b c) : Only R a c := h.more k fun _ h => .inl h
theorem Only.wide (h : Only R a b) (hR : ∀ i, R i → R' i ∨ a.heap.size ≤ i) : Only R' a b := (Only.refl R' a).more h hR
theorem only_below (R : Nat → Prop) (h : Below w.heap.size w w') : Only R w w' := ⟨h.os, h.tape, h.output, h.size, fun k hk _ => h.block k hk⟩
theorem Only.then_below (h : Only R a b) (k : Below b.heap.size b c) : Only R a c := h.trans (only_below R k)
theorem only_grown {r : Option Nat} (h : w.grownBy w' r) (hr : ∀ k, r = some k → R k) : Only R w w' := ⟨h.os, h.tape, h.output, h.size, fun k hk hn => h.block k hk (fun e => hn (hr k e.symm))⟩
theorem only_setCell (w : World) {R : Nat → Prop} {p : Addr} (h : R p.block) (v : Value) : Only R w (w.setCell p v) :=
  ⟨rfl, rfl, rfl, by simp [World.setCell], fun _ _ hn => Below.heap_setCell _ _ _ _ (fun e => hn (e ▸ h))⟩
theorem only_alloc (w : World) (R : Nat → Prop) (o : Obj) : Only R w (w.alloc o) := only_below R ((Below.refl _ _).alloc (Nat.le_refl _) _)
theorem only_drew (w : World) (R : Nat → Prop) : Only R w w.drew := only_below R ((Below.refl _ _).drew)
/-- All that may have turned lies from B on. -/
theorem Only.below {B : Nat} (h : Only R a b) (hB : B ≤ a.heap.size) (hR : ∀ k, R k → B ≤ k) : Below B a b :=
  ⟨h.os, h.tape, h.output, h.size, fun k hk => h.block k (by omega) (fun e => by have := hR k e; omega)⟩
theorem Only.grown {r : Option Nat} (h : Only R a b) (hR : ∀ k, R k → some k = r ∨ a.heap.size ≤ k) : a.grownBy b r :=
  ⟨h.os, h.tape, h.output, h.size, fun k hk hn => h.block k hk (fun e => (hR k e).elim hn (fun h => by omega))⟩
theorem Only.heap {o : Obj} {k : Nat} (h : Only R a b) (hk : a.heap[k]? = some o) (hr : ¬ R k) : b.heap[k]? = some o := (h.block k (Array.getElem?_eq_some_iff.1 hk).1 hr).trans hk
theorem Only.cell {p : Addr} {v : Value} (h : Only R a b) (hp : a.cell? p = some v) (hr : ¬ R p.block) : b.cell? p = some v :=
  (World.cell?_of_block (h.block _ (World.block_lt_of_cell? _ _ hp) hr)).trans hp
theorem Only.own {base : Nat} {e : TypeId} {size : Nat} {v : Value} {n : Nat} {xs : List Value} (h : Only R a b) (ho : a.ownsRow base e size v n xs) (hr : ∀ k, v.ownBlock = some k → ¬ R k) : b.ownsRow base e size v n xs := by
  refine ⟨ho.1, ?_⟩
  rcases ho.2 with hn | ⟨g, cap, cur, rfl, hb, hg, rest⟩
  · exact .inl hn
  · exact .inr ⟨g, cap, cur, rfl, hb, h.heap hg (hr g rfl), rest⟩
/-- A row none of whose cells lie in what may have turned. -/
theorem Only.row {A : Option Addr} {xs : List Value} (h : Only R a b) (hR : Row a a.heap.size A xs) (hr : xs ≠ [] → ∀ p, A = some p → ¬ R p.block) : Row b b.heap.size A xs := fun hn => by
  obtain ⟨g, o, e, hb, hc⟩ := hR hn
  exact ⟨g, o, e, Nat.lt_of_lt_of_le hb h.size, fun j v hv => h.cell (hc j v hv) (by have := hr hn _ e; exact this)⟩
theorem cell_heap {cs : Array Value} {t : TypeId} {k : Nat} (h : w.heap[k]? = some (.cells cs t (0, 0))) (j : Nat) : w.cell? ⟨k, j, none⟩ = cs[j]? ∧ w.frozen? ⟨k, j, none⟩ = false := by
  constructor
  · simp [World.cell?, h]
  · simp [World.frozen?, h]
theorem set_heap {cs : Array Value} {t : TypeId} {k j : Nat} (h : w.heap[k]? = some (.cells cs t (0, 0))) (v : Value) : (w.setCell ⟨k, j, none⟩ v).heap[k]? = some (.cells (cs.setIfInBounds j v) t (0, 0)) := by
  obtain ⟨hlt, hk⟩ := Array.getElem?_eq_some_iff.1 h
  show (w.heap.modify k _)[k]? = _
  rw [Array.getElem?_eq_getElem (by rw [Array.size_modify]; exact hlt), Array.getElem_modify_self, hk]
  rfl
theorem new_heap (w : World) (o : Obj) : (w.alloc o).heap[w.heap.size]? = some o := heap_alloc_new w o
theorem Only.setCell {p : Addr} (h : Only R a b) (hp : R p.block ∨ a.heap.size ≤ p.block) (v : Value) : Only R a (b.setCell p v) :=
  h.more (R' := fun k => k = p.block) (only_setCell (R := fun k => k = p.block) b rfl v) (fun _ e => e ▸ hp)
theorem Only.alloc (h : Only R a b) (o : Obj) : Only R a (b.alloc o) := h.trans (only_alloc b R o)
theorem Only.drew (h : Only R a b) : Only R a b.drew := h.trans (only_drew b R)
end

/-- What an append to a row of the call's own comes to: its block is the old one, or a new one. -/
theorem run_append_only {P : Program} (w : World) (base : Nat) (t ty e : TypeId) (i : TypeInfo) (z : Value) (size bytes : Nat) (ht : P.underlying t = some (.slice e)) (hi : P.info? e = some i) (hz : i.zero = some z)
    (hsize : i.size = size) (hby : i.bytes = bytes) (hzs : z.cells.size = size) (hsz : 0 < size)
    (v : Value) (n : Nat) (xs : List Value) (hown : w.ownsRow base e size v n xs)
    (a : Addr) (m c : Nat) (news : List Value) (hm : 0 < m) (hl : news.length = m * size) (hnews : ∀ j u, news[j]? = some u → w.cell? (a.add j) = some u) (h1 : ∀ u ∈ news, u.oneCell' = true)
    (h63 : n + m ≤ maxLen) (hbytes : (n + m) * bytes ≤ 140737488355328) (hbase : base ≤ w.heap.size) :
    ∃ g cap w', (Builtin.append_ #[t, t] ty #[v, .slice (some a) m c]).run P w = .ok (.slice (some ⟨g, 0, none⟩) (n + m) cap) w' ∧ w'.ownsRow base e size (.slice (some ⟨g, 0, none⟩) (n + m) cap) (n + m) (xs ++ news) ∧ base ≤ g ∧ g < w'.heap.size ∧
      (v.ownBlock = some g ∨ g = w.heap.size) ∧ w.grownBy w' v.ownBlock := by
  obtain ⟨v', w', hr, h2, h3, _⟩ := run_append_own (P := P) w base t ty e i z size bytes ht hi hz hsize hby hzs hsz v n xs hown a m c news hl hnews h1 h63 hbytes hbase
  obtain ⟨g, cap, rfl, hg, hlt⟩ := h2.form (by omega)
  refine ⟨g, cap, w', hr, h2, hg, hlt, ?_, h3⟩
  subst hsize
  subst hby
  have hmax : n + m ≤ 9223372036854775807 := by simp only [maxLen] at h63; omega
  rcases hown.2 with ⟨rfl, rfl⟩ | ⟨g', cap', cur, rfl, _, hg', hnc, _, hcs, _⟩
  · have hr2 := run_append_nil (P := P) w t ty e i z ht hi hz a m c news hl hnews hm (by omega) (by have hb := hbytes; simp only [Nat.zero_add] at hb; omega)
    rw [hr] at hr2
    injection hr2 with q _
    injection q with q _ _
    cases q
    exact .inr rfl
  · by_cases hroom : n + m ≤ cap'
    · have hfit : n * i.size + news.length ≤ cur.size := by rw [hl, hcs, ← Nat.add_mul]; exact Nat.mul_le_mul_right _ hroom
      have hr2 := run_append_room (P := P) w t ty e i ht hi g' n cap' cur hg' a m c news hl hnews h1 hroom hfit
      rw [hr] at hr2
      injection hr2 with q _
      injection q with q _ _
      cases q
      exact .inl rfl
    · have holds : ∀ j u, xs[j]? = some u → w.cell? ((⟨g', 0, none⟩ : Addr).add j) = some u := hown.cells (g := g') rfl
      have hr2 := run_append_grow (P := P) w t ty e i z ht hi hz ⟨g', 0, none⟩ n cap' xs hown.1 holds a m c news hl hnews (by omega) (by omega) (growslice_fits (by omega) hbytes)
      rw [hr] at hr2
      injection hr2 with q _
      injection q with q _ _
      cases q
      exact .inr rfl

/-- 'x = append(x, ..)' on a row of the call's own: a slice again; its block is the old one, or a new one; no other block has turned. -/
theorem wpList_append_only {P : Program} (w : World) {ops : Array Oper} {rest : List Oper} {o : Oper} {a : Act} {Q : Exit → Act → World → Prop} (hgd : o.guard = none) (s x : Operand) (t : TypeId)
    (ho : o.op = .call { callee := .builtin .append, args := #[s, x], argTypes := #[t, t] })
    (base : Nat) (e : TypeId) (i : TypeInfo) (z : Value) (size bytes : Nat) (ht : P.underlying t = some (.slice e)) (hi : P.info? e = some i) (hz : i.zero = some z)
    (hsize : i.size = size) (hby : i.bytes = bytes) (hzs : z.cells.size = size) (hsz : 0 < size)
    (v : Value) (n : Nat) (xs : List Value) (hs : a.eval s = v) (hown : w.ownsRow base e size v n xs)
    (ad : Addr) (m c : Nat) (news : List Value) (hx : a.eval x = .slice (some ad) m c) (hm : 0 < m) (hl : news.length = m * size) (hnews : ∀ j u, news[j]? = some u → w.cell? (ad.add j) = some u) (h1 : ∀ u ∈ news, u.oneCell' = true)
    (h63 : n + m ≤ maxLen) (hbytes : (n + m) * bytes ≤ 140737488355328) (hbase : base ≤ w.heap.size)
    (h : ∀ (g cap : Nat) (w' : World), w'.ownsRow base e size (.slice (some ⟨g, 0, none⟩) (n + m) cap) (n + m) (xs ++ news) → base ≤ g → g < w'.heap.size → (v.ownBlock = some g ∨ g = w.heap.size) → Only (fun k => v.ownBlock = some k) w w' → wpList P ops Q rest (a.put o.dst (.slice (some ⟨g, 0, none⟩) (n + m) cap)) w') :
    wpList P ops Q (o :: rest) a w := by
  refine wpList_plain hgd fun K hK => ?_
  obtain ⟨g, cap, w', hr, h2, hg, hlt, hor, hgr⟩ := run_append_only (P := P) w base t o.type e i z size bytes ht hi hz hsize hby hzs hsz v n xs hown ad m c news hm hl hnews h1 h63 hbytes hbase
  unfold Oper.wp execOp
  simp only [ho, resolve, invoke, builtin, Sem.run_bind, Sem.run_pure, Result.andThen_ok, List.map_toArray, List.map_cons, List.map_nil, hs, hx, hr]
  exact hK _ _ (h g cap w' h2 hg hlt hor (only_grown hgr fun k e => e))
end Go.Proofs.YtjbfhnkjcfpfpaaDoor.Lay
