/- The document's tape (package sundialref11): what it answers to a deed, and what it holds then; all memory but its own stays as it was. -/
import Derived.Test.YtelnkbikgboblaaCellsWalks
import Derived.Test.YtelnkbikgboblaaDeeds
namespace Go.Proofs.Ytelnkbikgboblaa.Tape
set_option maxRecDepth 20000
open Go.ChangeShapes Go.WideShapes Go.RowKit CM DM Lay Ints Cells Go.Proofs.Ytelnkbikgboblaa.Task
set_option linter.unusedVariables false
set_option linter.unusedSimpArgs false

/-- A tape in block x: what is told, what was asked, whether it has stopped; none of its own memory is of the blocks P. -/
structure Tp (P : Nat → Prop) (w : World) (x : Nat) (fs : List Int) (out : List D) (st : Bool) : Prop where
  box : ∃ A c O oc, w.heap[x]? = some (.cells #[.slice A fs.length c, .slice O out.length oc, .bool st] 38 (0, 0)) ∧ Row w w.heap.size A (flat (encZ .u64) fs) ∧
    w.ownsRow 0 32 5 (.slice O out.length oc) out.length (flat encD out) ∧ (∀ a, O = some a → a.block ≠ x ∧ ¬ P a.block) ∧ (flat (encZ .u64) fs ≠ [] → ∀ a, A = some a → a.block ≠ x ∧ ∀ b, O = some b → a.block ≠ b.block)
  low : ¬ P x
  old : ∀ k, P k → k < w.heap.size
  few : fs.length ≤ 100000
  len : out.length ≤ fs.length + 1
section
variable {P P' : Nat → Prop} {w w' : World} {x : Nat} {fs : List Int} {out : List D} {st : Bool}
theorem Tp.lt (h : Tp P w x fs out st) : x < w.heap.size := by
  obtain ⟨_, _, _, _, hb, _⟩ := h.box
  exact (Array.getElem?_eq_some_iff.1 hb).1
theorem Tp.later (h : Tp P w x fs out st) (hb : Below w.heap.size w w') : Tp P w' x fs out st := by
  have hx := h.lt
  obtain ⟨⟨A, c, O, oc, hb0, hr, ho, ha, hA⟩, hl, hk, hf, hn⟩ := h
  exact ⟨⟨A, c, O, oc, (hb.block x hx).trans hb0, hr.later hb, own_later ho hb, ha, hA⟩, hl, fun k e => Nat.lt_of_lt_of_le (hk k e) hb.size, hf, hn⟩
/-- Fewer blocks are held to it. -/
theorem Tp.less (h : Tp P' w x fs out st) (hp : ∀ k, P k → P' k) : Tp P w x fs out st := by
  obtain ⟨⟨A, c, O, oc, hb0, hr, ho, ha, hA⟩, hl, hk, hf, hn⟩ := h
  exact ⟨⟨A, c, O, oc, hb0, hr, ho, fun a e => ⟨(ha a e).1, fun q => (ha a e).2 (hp _ q)⟩, hA⟩, fun q => hl (hp _ q), fun k q => hk k (hp k q), hf, hn⟩
/-- A block more, which is new. -/
theorem Tp.more (h : Tp P w x fs out st) (o : Obj) : Tp (fun k => P k ∨ k = w.heap.size) (w.alloc o) x fs out st := by
  have hx := h.lt
  obtain ⟨⟨A, c, O, oc, hb0, hr, ho, ha, hA⟩, hl, hk, hf, hn⟩ := h
  have hb : Below w.heap.size w (w.alloc o) := (Below.refl _ _).alloc (Nat.le_refl _) _
  refine ⟨⟨A, c, O, oc, (hb.block x hx).trans hb0, hr.later hb, own_later ho hb, fun a e => ⟨(ha a e).1, fun q => q.elim (ha a e).2 fun q => ?_⟩, hA⟩, fun q => q.elim hl fun q => by omega, fun k q => ?_, hf, hn⟩
  · subst e
    have := (ho.lt a.block rfl).2
    omega
  · rcases q with q | q
    · have := hk k q; simp; omega
    · simp; omega
/-- A new one. -/
theorem Tp.made {w : World} {A : Option Addr} {n c : Nat} {fs : List Int} (hn : n = fs.length) (hr : Row w w.heap.size A (flat (encZ .u64) fs)) (hf : fs.length ≤ 100000) :
    Tp (fun k => k < w.heap.size) (w.alloc (.cells #[.slice A n c, .slice none 0 0, .bool false] 38)) w.heap.size fs [] false := by
  subst hn
  have hb : Below w.heap.size w (w.alloc (.cells #[.slice A fs.length c, .slice none 0 0, .bool false] 38)) := (Below.refl _ _).alloc (Nat.le_refl _) _
  refine ⟨⟨A, c, none, 0, new_heap w _, hr.later hb, World.ownsRow_nil _ _ _ _, fun a e => (by cases e), fun hne a e => ⟨?_, fun b e => (by cases e)⟩⟩, by omega, fun k hk => by simp; omega, hf, Nat.zero_le _⟩
  obtain ⟨b, o, e2, hlt, _⟩ := hr hne
  rw [e] at e2
  cases e2
  show b ≠ _
  omega
/-- What was asked. -/
theorem Tp.row (h : Tp P w x fs out st) : ∃ O oc, w.cell? ⟨x, 1, none⟩ = some (.slice O out.length oc) ∧ Row w w.heap.size O (flat encD out) := by
  obtain ⟨A, c, O, oc, hb, hr, ho, _⟩ := h.box
  have c1 := (cell_heap hb 1).1
  exact ⟨O, oc, by simpa using c1, Row.of_own ho⟩
theorem Tp.stop (h : Tp P w x fs out st) : w.cell? ⟨x, 2, none⟩ = some (.bool st) := by
  obtain ⟨A, c, O, oc, hb, _⟩ := h.box
  have c2 := (cell_heap hb 2).1
  simpa using c2
end

/-- What a call of the tape ends in. -/
def Asked (P : Nat → Prop) (w : World) (x : Nat) (fs : List Int) (r : Value) (out : List D) (st : Bool) (e : Ending) (w' : World) : Prop := e = .returned r ∧ Tp P w' x fs out st ∧ Only (fun k => ¬ P k) w w'
/-- .. and the tape's words lie where they lay. -/
def AskedIn (P : Nat → Prop) (w : World) (x : Nat) (fs : List Int) (r : Value) (out : List D) (st : Bool) (e : Ending) (w' : World) : Prop := Asked P w x fs r out st e w' ∧ w'.cell? ⟨x, 0, none⟩ = w.cell? ⟨x, 0, none⟩

theorem info_deed : (Try.prog.info? 32).map (fun i => (i.zero, i.size, i.bytes)) = some (some (.agg #[.int .i64 0, .int .i64 0, .int .u64 0, .int .u64 0, .int .u64 0]), 5, 40) := by kernel_rfl

/-- Behind the append. -/
theorem asked_end {P : Nat → Prop} {x g2 m cap n c oc : Nat} {w w3 : World} {A O : Option Addr} {fs : List Int} {out : List D} {d : D} {ob : Obj}
    (hb : w.heap[x]? = some (.cells #[.slice A n c, .slice O m oc, .bool false] 38 (0, 0))) (hr : Row w w.heap.size A (flat (encZ .u64) fs)) (ho : w.ownsRow 0 32 5 (.slice O m oc) m (flat encD out))
    (ha : ∀ a, O = some a → a.block ≠ x ∧ ¬ P a.block) (hA : flat (encZ .u64) fs ≠ [] → ∀ a, A = some a → a.block ≠ x ∧ ∀ b, O = some b → a.block ≠ b.block) (hl : ¬ P x) (hk : ∀ k, P k → k < w.heap.size)
    (hf : fs.length ≤ 100000) (hn : n = fs.length) (hm : m = out.length) (hlen : out.length ≤ fs.length)
    (ho3 : w3.ownsRow 0 32 5 (.slice (some ⟨g2, 0, none⟩) (m + 1) cap) (m + 1) (flat encD out ++ encD d))
    (hor : (Value.slice O m oc).ownBlock = some g2 ∨ g2 = (w.alloc ob).heap.size) (hon : Only (fun k => (Value.slice O m oc).ownBlock = some k) (w.alloc ob) w3) :
    w3.heap[x]? = some (.cells #[.slice A n c, .slice O m oc, .bool false] 38 (0, 0)) ∧ Row w3 w3.heap.size A (flat (encZ .u64) fs) ∧
    (∀ W : World, W = w3.setCell ⟨x, 1, none⟩ (.slice (some ⟨g2, 0, none⟩) (m + 1) cap) → W.heap[x]? = some (.cells #[.slice A n c, .slice (some ⟨g2, 0, none⟩) (m + 1) cap, .bool false] 38 (0, 0)) ∧ Row W W.heap.size A (flat (encZ .u64) fs) ∧
      Tp P W x fs (out ++ [d]) false ∧ Only (fun k => ¬ P k) w W ∧ Tp P (W.setCell ⟨x, 2, none⟩ (.bool true)) x fs (out ++ [d]) true ∧ Only (fun k => ¬ P k) w (W.setCell ⟨x, 2, none⟩ (.bool true))) := by
  subst hn
  subst hm
  have hx := (Array.getElem?_eq_some_iff.1 hb).1
  have hB1 : Below w.heap.size w (w.alloc ob) := (Below.refl _ _).alloc (Nat.le_refl _) _
  have hobl : ∀ k, (Value.slice O out.length oc).ownBlock = some k → k ≠ x ∧ ¬ P k ∧ k < w.heap.size ∧ (flat (encZ .u64) fs ≠ [] → ∀ a, A = some a → a.block ≠ k) := by
    intro k hk'
    have h1 := (ho.lt k hk').2
    cases O with
    | none => cases hk'
    | some a => cases hk'; exact ⟨(ha a rfl).1, (ha a rfl).2, h1, fun hne b hb => (hA hne b hb).2 a rfl⟩
  have hb1 : (w.alloc ob).heap[x]? = some (.cells #[.slice A fs.length c, .slice O out.length oc, .bool false] 38 (0, 0)) := (hB1.block x hx).trans hb
  have hb3 := hon.heap hb1 (fun e => (hobl x e).1 rfl)
  have hon3 : Only (fun k => ¬ P k) w w3 := (only_below _ hB1).trans (hon.wide fun k hk' => .inl (hobl k hk').2.1)
  have hr3 : Row w3 w3.heap.size A (flat (encZ .u64) fs) := hon.row (hr.later hB1) fun hne a e q => (hobl _ q).2.2.2 hne a e rfl
  have hg2 : g2 ≠ x ∧ ¬ P g2 ∧ (flat (encZ .u64) fs ≠ [] → ∀ a, A = some a → a.block ≠ g2) := by
    rcases hor with h | h
    · exact ⟨(hobl g2 h).1, (hobl g2 h).2.1, (hobl g2 h).2.2.2⟩
    · refine ⟨by rw [h]; simp; omega, fun q => ?_, fun hne a e => ?_⟩
      · have := hk _ q
        rw [h] at this
        simp at this
        omega
      · obtain ⟨b, o, e2, hlt, _⟩ := hr hne
        rw [e] at e2
        cases e2
        rw [h]
        show b ≠ _
        simp
        omega
  have hW1 := set_heap (j := 1) hb3 (.slice (some ⟨g2, 0, none⟩) (out.length + 1) cap)
  have hW2 := set_heap (j := 2) hW1 (.bool true)
  have s1 := only_setCell (R := fun k => k = x) w3 (p := ⟨x, 1, none⟩) rfl (.slice (some ⟨g2, 0, none⟩) (out.length + 1) cap)
  have s2 := only_setCell (R := fun k => k = x) (w3.setCell ⟨x, 1, none⟩ (.slice (some ⟨g2, 0, none⟩) (out.length + 1) cap)) (p := ⟨x, 2, none⟩) rfl (.bool true)
  have n1 := hon3.trans (s1.wide (R' := fun k => ¬ P k) fun k e => .inl (e ▸ hl))
  have n2 := n1.trans (s2.wide (R' := fun k => ¬ P k) fun k e => .inl (e ▸ hl))
  have e1 : flat encD (out ++ [d]) = flat encD out ++ encD d := by rw [flat_append, flat_one]
  have o1 := s1.own ho3 (fun k hk => by cases hk; exact hg2.1)
  have o2 := s2.own o1 (fun k hk => by cases hk; exact hg2.1)
  have r1 := s1.row hr3 fun hne a e => (hA hne a e).1
  have r2 := s2.row r1 fun hne a e => (hA hne a e).1
  refine ⟨hb3, hr3, fun W hW => ?_⟩
  subst hW
  refine ⟨?_, r1, ⟨⟨A, c, some ⟨g2, 0, none⟩, cap, ?_, r1, ?_, fun a e => (by cases e; exact ⟨hg2.1, hg2.2.1⟩), fun hne a e => ⟨(hA hne a e).1, fun b e2 => by cases e2; exact hg2.2.2 hne a e⟩⟩, hl, fun k q => Nat.lt_of_lt_of_le (hk k q) n1.size, hf, by simp; omega⟩, n1,
    ⟨⟨A, c, some ⟨g2, 0, none⟩, cap, ?_, r2, ?_, fun a e => (by cases e; exact ⟨hg2.1, hg2.2.1⟩), fun hne a e => ⟨(hA hne a e).1, fun b e2 => by cases e2; exact hg2.2.2 hne a e⟩⟩, hl, fun k q => Nat.lt_of_lt_of_le (hk k q) n2.size, hf, by simp; omega⟩, n2⟩
  · simpa using hW1
  · simpa using hW1
  · rw [e1]; simpa using o1
  · simpa using hW2
  · rw [e1]; simpa using o2

theorem Do_stop {P : Nat → Prop} {x : Nat} {w : World} {fs : List Int} {out : List D} (hT : Tp P w x fs out true) (kd i a b y : Int) : Calls Try.prog 15 #[.pointer (some ⟨x, 0, none⟩), .int .i64 kd, .int .i64 i, .int .u64 a, .int .u64 b, .int .u64 y] w fun e w' => e = .returned (.int .u64 0) ∧ w = w' := by
  obtain ⟨A, c, O, oc, hb, _⟩ := hT.box
  have c2 := (cell_heap hb 2).1
  simp at c2
  clear hb
  go_enter Try.func15, Try.ntmps15
  go_wp2
  go_ret
  exact ⟨rfl, rfl⟩
theorem row_cell {w : World} {B b o j : Nat} {k : IntKind} {l : List Int} {v : Int} (h : Row w B (some ⟨b, o, none⟩) (flat (encZ k) l)) (hv : l[j]? = some v) : w.cell? ⟨b, o + j, none⟩ = some (.int k v) := by
  obtain ⟨b', o', e, _, hc⟩ := int_at h (List.getElem?_eq_some_iff.1 hv).1
  cases e
  exact hc j v hv
set_option maxRecDepth 10000 in
theorem Do_more_in {P : Nat → Prop} {x : Nat} {w : World} {fs : List Int} {out : List D} (hT : Tp P w x fs out false) {f : Int} (hf : fs[out.length]? = some f) (kd i a b y : Int) :
    Calls Try.prog 15 #[.pointer (some ⟨x, 0, none⟩), .int .i64 kd, .int .i64 i, .int .u64 a, .int .u64 b, .int .u64 y] w (AskedIn P w x fs (.int .u64 f) (out ++ [(kd, i, a, b, y)]) false) := by
  obtain ⟨⟨A, c, O, oc, hb, hr, ho, ha, hA⟩, hl, hk, hf0, hn⟩ := hT
  have c1 := (cell_heap hb 1).1
  have c2 := (cell_heap hb 2).1
  have f1 := (cell_heap hb 1).2
  simp at c1 c2
  have hlt := (List.getElem?_eq_some_iff.1 hf).1
  have hfs := hf0
  obtain ⟨bi, oi, rfl, _, _⟩ := int_at hr hlt
  obtain ⟨n, hn1⟩ : ∃ n, n = fs.length := ⟨_, rfl⟩
  obtain ⟨m, hm1⟩ : ∃ m, m = out.length := ⟨_, rfl⟩
  rw [← hn1] at hf0 hn hb hlt
  rw [← hm1] at hn hb c1 ho hf hlt
  have HC0 := Lib.hid (show w.cell? ⟨x, 0, none⟩ = some (.slice (some ⟨bi, oi, none⟩) n c) from by have := (cell_heap hb 0).1; simpa using this)
  have HEN := Lib.hid fun (w3 : World) (g2 cap : Nat) (ob : Obj) => asked_end (w3 := w3) (g2 := g2) (cap := cap) (d := (kd, i, a, b, y)) (ob := ob) hb hr ho ha hA hl hk hfs hn1 hm1 (by omega)
  have HO := Lib.hid ho
  have HF := Lib.hid hf
  obtain ⟨i0, hi, hz0, hz1, hz2⟩ := info_parts info_deed
  have h1 : ¬ ((n : Int) ≤ (m : Int)) := by omega
  clear hb hr ho ha hA hl hk hfs hn1 hm1 hn hf
  go_enter Try.func15, Try.ntmps15
  go_wp2_with (at_builtin; refine wpList_append_only _ rfl (.tmp 27) (.tmp 34) 30 rfl 0 32 i0 _ 5 40 Try.underlying30 hi hz0 hz1 hz2 rfl (by decide) _ m _ rfl (HO.out.alloc _) ⟨w.heap.size, 0, none⟩ 1 1 (encD (kd, i, a, b, y)) rfl (by decide) rfl (cells_new _ _ _) (encD_one _) (by simp only [maxLen]; omega) (by omega) (Nat.zero_le _) ?_; intro g2 cap w3 ho2 hg2 hlt2 hor2 hon2; obtain ⟨k0, k1, k8⟩ := HEN.out _ _ _ _ ho2 hor2 hon2; obtain ⟨k2, k3, k4, k5, k6, k7⟩ := k8 _ rfl; have q1 := (cell_heap k0 1).2; have q0 := (cell_heap k0 1).1; simp at q0; have e0 := (cell_heap k2 0).1; have e2 := (cell_heap k2 2).1; have e3 := row_cell k3 HF.out; simp at e0 e2; have E0 := Lib.hid e0; have K4 := Lib.hid k4; have K5 := Lib.hid k5; clear k0 k1 k2 k3 k4 k5 k6 k7 ho2 hor2 hon2)
  go_ret
  exact ⟨⟨rfl, K4.out, K5.out⟩, E0.out.trans HC0.out.symm⟩
set_option maxRecDepth 10000 in
theorem Do_last_in {P : Nat → Prop} {x : Nat} {w : World} {fs : List Int} {out : List D} (hT : Tp P w x fs out false) (hle : out.length = fs.length) (kd i a b y : Int) :
    Calls Try.prog 15 #[.pointer (some ⟨x, 0, none⟩), .int .i64 kd, .int .i64 i, .int .u64 a, .int .u64 b, .int .u64 y] w (AskedIn P w x fs (.int .u64 0) (out ++ [(kd, i, a, b, y)]) true) := by
  obtain ⟨⟨A, c, O, oc, hb, hr, ho, ha, hA⟩, hl, hk, hf0, hn⟩ := hT
  have c1 := (cell_heap hb 1).1
  have c2 := (cell_heap hb 2).1
  have f1 := (cell_heap hb 1).2
  simp at c1 c2
  have hfs := hf0
  obtain ⟨n, hn1⟩ : ∃ n, n = fs.length := ⟨_, rfl⟩
  have hm1 : n = out.length := hn1.trans hle.symm
  rw [← hn1] at hf0 hn hb
  rw [← hm1] at hn hb c1 ho
  have HC0 := Lib.hid (show w.cell? ⟨x, 0, none⟩ = some (.slice A n c) from by have := (cell_heap hb 0).1; simpa using this)
  have HEN := Lib.hid fun (w3 : World) (g2 cap : Nat) (ob : Obj) => asked_end (w3 := w3) (g2 := g2) (cap := cap) (d := (kd, i, a, b, y)) (ob := ob) hb hr ho ha hA hl hk hfs hn1 hm1 (by omega)
  have HO := Lib.hid ho
  obtain ⟨i0, hi, hz0, hz1, hz2⟩ := info_parts info_deed
  clear hb hr ho ha hA hl hk hfs hn1 hm1 hn hle
  go_enter Try.func15, Try.ntmps15
  go_wp2_with (at_builtin; refine wpList_append_only _ rfl (.tmp 27) (.tmp 34) 30 rfl 0 32 i0 _ 5 40 Try.underlying30 hi hz0 hz1 hz2 rfl (by decide) _ n _ rfl (HO.out.alloc _) ⟨w.heap.size, 0, none⟩ 1 1 (encD (kd, i, a, b, y)) rfl (by decide) rfl (cells_new _ _ _) (encD_one _) (by simp only [maxLen]; omega) (by omega) (Nat.zero_le _) ?_; intro g2 cap w3 ho2 hg2 hlt2 hor2 hon2; obtain ⟨k0, k1, k8⟩ := HEN.out _ _ _ _ ho2 hor2 hon2; obtain ⟨k2, k3, k4, k5, k6, k7⟩ := k8 _ rfl; have q1 := (cell_heap k0 1).2; have q0 := (cell_heap k0 1).1; simp at q0; have e0 := (cell_heap k2 0).1; have e2 := (cell_heap k2 2).1; have q2 := (cell_heap k2 2).2; simp at e0 e2; have E0 := Lib.hid (cell_heap (set_heap (j := 2) k2 (.bool true)) 0).1; have K6 := Lib.hid k6; have K7 := Lib.hid k7; clear k0 k1 k2 k3 k4 k5 k6 k7 ho2 hor2 hon2)
  go_ret
  exact ⟨⟨rfl, K6.out, K7.out⟩, E0.out.trans (HC0.out.trans rfl).symm⟩
theorem Do_more {P : Nat → Prop} {x : Nat} {w : World} {fs : List Int} {out : List D} (hT : Tp P w x fs out false) {f : Int} (hf : fs[out.length]? = some f) (kd i a b y : Int) :
    Calls Try.prog 15 #[.pointer (some ⟨x, 0, none⟩), .int .i64 kd, .int .i64 i, .int .u64 a, .int .u64 b, .int .u64 y] w (Asked P w x fs (.int .u64 f) (out ++ [(kd, i, a, b, y)]) false) := (Do_more_in hT hf kd i a b y).mono fun _ _ h => h.1
theorem Do_last {P : Nat → Prop} {x : Nat} {w : World} {fs : List Int} {out : List D} (hT : Tp P w x fs out false) (hle : out.length = fs.length) (kd i a b y : Int) :
    Calls Try.prog 15 #[.pointer (some ⟨x, 0, none⟩), .int .i64 kd, .int .i64 i, .int .u64 a, .int .u64 b, .int .u64 y] w (Asked P w x fs (.int .u64 0) (out ++ [(kd, i, a, b, y)]) true) := (Do_last_in hT hle kd i a b y).mono fun _ _ h => h.1

end Go.Proofs.Ytelnkbikgboblaa.Tape
