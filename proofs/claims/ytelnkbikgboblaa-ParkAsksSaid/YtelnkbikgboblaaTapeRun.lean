/- A document's answer on a tape that may hold deeds already: where it is amid its deeds, whether the tape goes on or has stopped, what a deed of it leaves; a row of the answer's own beside the tape. -/
import Derived.Test.YtelnkbikgboblaaTape
import Derived.Test.YtelnkbikgboblaaTapeLoad
import Derived.Test.YtelnkbikgboblaaRuns
namespace Go.Proofs.Ytelnkbikgboblaa.TapeRun
set_option maxRecDepth 20000
open Go.ChangeShapes Go.WideShapes Go.RowKit CM DM Runs Lay Ints Go.Proofs.Ytelnkbikgboblaa.Task Go.Proofs.Ytelnkbikgboblaa.Tape
set_option linter.unusedVariables false
set_option linter.unusedSimpArgs false

/-- How many deeds a tape holds, read off the world. -/
def outLen (x : Nat) (w : World) : Nat := match w.cell? ⟨x, 1, none⟩ with | some (.slice _ n _) => n | _ => 0
theorem outLen_is {P : Nat → Prop} {w : World} {x : Nat} {fs : List Int} {out : List D} {st : Bool} (h : Tp P w x fs out st) : outLen x w = out.length := by
  obtain ⟨O, oc, h1, _⟩ := h.row
  unfold outLen
  rw [h1]
theorem plan4 {w w' : World} {N : Nat} {R : Nat → Prop} {T S L G : Int} (h : w.cell? ⟨N, 0, none⟩ = some (.int .i64 T) ∧ w.cell? ⟨N, 1, none⟩ = some (.int .i64 S) ∧ w.cell? ⟨N, 2, none⟩ = some (.int .i64 L) ∧ w.cell? ⟨N, 3, none⟩ = some (.int .u64 G)) (ho : Only R w w') (hr : ¬ R N) :
    w'.cell? ⟨N, 0, none⟩ = some (.int .i64 T) ∧ w'.cell? ⟨N, 1, none⟩ = some (.int .i64 S) ∧ w'.cell? ⟨N, 2, none⟩ = some (.int .i64 L) ∧ w'.cell? ⟨N, 3, none⟩ = some (.int .u64 G) :=
  ⟨ho.cell h.1 hr, ho.cell h.2.1 hr, ho.cell h.2.2.1 hr, ho.cell h.2.2.2 hr⟩
/-- What a deed leaves: all but the tape's own blocks, and where its words lie. -/
def Kept (Q : Nat → Prop) (x : Nat) (w w' : World) : Prop := Only (fun k => ¬ Q k) w w' ∧ w'.cell? ⟨x, 0, none⟩ = w.cell? ⟨x, 0, none⟩
section
variable {σ : Type} (ask : σ → Option D) (tell : σ → Int → σ) (I : Nat → σ → Prop)
/-- The run goes on: the tape holds k deeds; I is what is known of a state that was told k words at most. -/
def Going (Q : Nat → Prop) (W : World) (x : Nat) (fs : List Int) (pre : List D) (s0 : σ) (k : Nat) (s : σ) : Prop := ∃ out, out.length = k ∧ Amid ask tell fs pre s0 out s ∧ I k s ∧ Tp Q W x fs out false
/-- The tape has stopped. -/
def Stopped (Q : Nat → Prop) (W : World) (x : Nat) (fs : List Int) (pre : List D) (s0 : σ) (s : σ) : Prop := ∃ out, out.length = fs.length + 1 ∧ Fins ask tell fs pre s0 out s ∧ (ask s).isSome = true ∧ Tp Q W x fs out true
end
section
variable {σ : Type} {ask : σ → Option D} {tell : σ → Int → σ} {I : Nat → σ → Prop} {P Q : Nat → Prop} {w w' W W' : World} {x k : Nat} {fs : List Int} {pre : List D} {s0 s : σ} {i y a b kd : Int}
theorem Going.start {P : Nat → Prop} (hT : Tp P w x fs pre false) (hle : pre.length ≤ fs.length) (hI : I pre.length s0) : Going ask tell I P w x fs pre s0 pre.length s0 := ⟨pre, rfl, Amid.start hle _, hI, hT⟩
theorem Going.later (h : Going ask tell I Q W x fs pre s0 k s) (hb : Below W.heap.size W W') : Going ask tell I Q W' x fs pre s0 k s := by
  obtain ⟨out, h1, h2, h3, h4⟩ := h
  exact ⟨out, h1, h2, h3, h4.later hb⟩
theorem Stopped.later (h : Stopped ask tell Q W x fs pre s0 s) (hb : Below W.heap.size W W') : Stopped ask tell Q W' x fs pre s0 s := by
  obtain ⟨out, h1, h2, h3, h4⟩ := h
  exact ⟨out, h1, h2, h3, h4.later hb⟩
theorem Going.len (h : Going ask tell I Q W x fs pre s0 k s) : k ≤ fs.length ∧ fs.length ≤ 100000 := by
  obtain ⟨out, h1, h2, -, h4⟩ := h
  have := h2.len
  exact ⟨by omega, h4.few⟩
theorem Going.inv (h : Going ask tell I Q W x fs pre s0 k s) : I k s := by
  obtain ⟨out, -, -, h3, -⟩ := h
  exact h3
theorem Going.measure (h : Going ask tell I Q W x fs pre s0 k s) : outLen x W = k := by
  obtain ⟨out, h1, -, -, h4⟩ := h
  rw [outLen_is h4, h1]
theorem Stopped.measure (h : Stopped ask tell Q W x fs pre s0 s) : outLen x W = fs.length + 1 := by
  obtain ⟨out, h1, -, -, h4⟩ := h
  rw [outLen_is h4, h1]
theorem Going.stop (h : Going ask tell I Q W x fs pre s0 k s) : W.cell? ⟨x, 2, none⟩ = some (.bool false) := by
  obtain ⟨out, -, -, -, h4⟩ := h
  exact h4.stop
theorem Stopped.stop (h : Stopped ask tell Q W x fs pre s0 s) : W.cell? ⟨x, 2, none⟩ = some (.bool true) := by
  obtain ⟨out, -, -, -, h4⟩ := h
  exact h4.stop
theorem Going.row (h : Going ask tell I Q W x fs pre s0 k s) : ∃ O oc, W.cell? ⟨x, 1, none⟩ = some (.slice O k oc) := by
  obtain ⟨out, rfl, -, -, h4⟩ := h
  obtain ⟨O, oc, h1, -⟩ := h4.row
  exact ⟨O, oc, h1⟩
/-- At its end: all that was asked for. -/
theorem Going.done (h : Going ask tell I Q W x fs pre s0 k s) (h0 : ask s = none) (hs : ∀ k, P k → Q k) : ∃ out, Fins ask tell fs pre s0 out s ∧ Tp P W x fs out (ask s).isSome := by
  obtain ⟨out, -, q1, -, q3⟩ := h
  exact ⟨out, q1.done h0, by rw [h0]; exact q3.less hs⟩
theorem Stopped.done (h : Stopped ask tell Q W x fs pre s0 s) (hs : ∀ k, P k → Q k) : ∃ out, Fins ask tell fs pre s0 out s ∧ Tp P W x fs out (ask s).isSome := by
  obtain ⟨out, -, q1, q2, q3⟩ := h
  exact ⟨out, q1, by rw [q2]; exact q3.less hs⟩
/-- What a Load or a Do leaves: a word was found, and the run goes on, or the tape has stopped, and 0 was found. -/
def Found (ask : σ → Option D) (tell : σ → Int → σ) (I : Nat → σ → Prop) (Q : Nat → Prop) (W : World) (x : Nat) (fs : List Int) (pre : List D) (s0 : σ) (k : Nat) (s : σ) (e : Ending) (W' : World) : Prop :=
  ∃ f, e = .returned (.int .u64 f) ∧ (0 ≤ f ∧ f < 18446744073709551616) ∧ Kept Q x W W' ∧ (Going ask tell I Q W' x fs pre s0 (k + 1) (tell s f) ∨ (f = 0 ∧ Stopped ask tell Q W' x fs pre s0 s))
theorem go_load (h : Going ask tell I Q W x fs pre s0 k s) (hf : ∀ f ∈ fs, (0 ≤ f ∧ f < 18446744073709551616)) (hI : ∀ f, (0 ≤ f ∧ f < 18446744073709551616) → I k s → I (k + 1) (tell s f)) (i y : Int) (ha : ask s = some (1, i, 0, 0, y)) : Calls Try.prog 14 #[.pointer (some ⟨x, 0, none⟩), .int .i64 i, .int .u64 y] W (Found ask tell I Q W x fs pre s0 k s) := by
  obtain ⟨out, h1, h2, h3, h4⟩ := h
  by_cases hl : out.length = fs.length
  · exact (Load_last_in h4 hl i y).mono fun e w' ⟨⟨p, q, c⟩, d⟩ => ⟨0, p, ⟨by decide, by decide⟩, ⟨c, d⟩, .inr ⟨rfl, _, by simp [hl], h2.last ha (by omega), by rw [ha]; rfl, q⟩⟩
  · obtain ⟨f, hff⟩ : ∃ f, fs[out.length]? = some f := ⟨_, List.getElem?_eq_getElem (by have := h2.len; omega)⟩
    have hw := hf f (List.mem_of_getElem? hff)
    exact (Load_more_in h4 hff i y).mono fun e w' ⟨⟨p, q, c⟩, d⟩ => ⟨f, p, hw, ⟨c, d⟩, .inl ⟨_, by simp [h1], h2.more ha hff, hI f hw h3, q⟩⟩
theorem stop_load (h : Stopped ask tell Q W x fs pre s0 s) (i y : Int) : Calls Try.prog 14 #[.pointer (some ⟨x, 0, none⟩), .int .i64 i, .int .u64 y] W fun e W' => e = .returned (.int .u64 0) ∧ W = W' := by
  obtain ⟨out, h1, h2, h3, h4⟩ := h
  exact Load_stop h4 i y
theorem go_do (h : Going ask tell I Q W x fs pre s0 k s) (hf : ∀ f ∈ fs, (0 ≤ f ∧ f < 18446744073709551616)) (hI : ∀ f, (0 ≤ f ∧ f < 18446744073709551616) → I k s → I (k + 1) (tell s f)) (kd i a b y : Int) (ha : ask s = some (kd, i, a, b, y)) : Calls Try.prog 15 #[.pointer (some ⟨x, 0, none⟩), .int .i64 kd, .int .i64 i, .int .u64 a, .int .u64 b, .int .u64 y] W (Found ask tell I Q W x fs pre s0 k s) := by
  obtain ⟨out, h1, h2, h3, h4⟩ := h
  by_cases hl : out.length = fs.length
  · exact (Do_last_in h4 hl kd i a b y).mono fun e w' ⟨⟨p, q, c⟩, d⟩ => ⟨0, p, ⟨by decide, by decide⟩, ⟨c, d⟩, .inr ⟨rfl, _, by simp [hl], h2.last ha (by omega), by rw [ha]; rfl, q⟩⟩
  · obtain ⟨f, hff⟩ : ∃ f, fs[out.length]? = some f := ⟨_, List.getElem?_eq_getElem (by have := h2.len; omega)⟩
    have hw := hf f (List.mem_of_getElem? hff)
    exact (Do_more_in h4 hff kd i a b y).mono fun e w' ⟨⟨p, q, c⟩, d⟩ => ⟨f, p, hw, ⟨c, d⟩, .inl ⟨_, by simp [h1], h2.more ha hff, hI f hw h3, q⟩⟩
theorem stop_do (h : Stopped ask tell Q W x fs pre s0 s) (kd i a b y : Int) : Calls Try.prog 15 #[.pointer (some ⟨x, 0, none⟩), .int .i64 kd, .int .i64 i, .int .u64 a, .int .u64 b, .int .u64 y] W fun e W' => e = .returned (.int .u64 0) ∧ W = W' := by
  obtain ⟨out, h1, h2, h3, h4⟩ := h
  exact Do_stop h4 kd i a b y
end
/-- A tape beside which a row has turned, or grown into a new block. -/
theorem tp_turn {Q : Nat → Prop} {w W w3 : World} {x g2 : Nat} {v : Value} {fs : List Int} {out : List D} {st : Bool} (h : Tp Q W x fs out st) (hw : W.cell? ⟨x, 0, none⟩ = w.cell? ⟨x, 0, none⟩) (hA : ∀ A n c, w.cell? ⟨x, 0, none⟩ = some (.slice A n c) → flat (encZ .u64) fs ≠ [] → ∀ a, A = some a → a.block < w.heap.size)
    (hv : ∀ k, v.ownBlock = some k → Q k ∧ w.heap.size + 1 ≤ k) (hon : Only (fun k => v.ownBlock = some k) W w3) (hor : v.ownBlock = some g2 ∨ W.heap.size ≤ g2) (hlt : g2 < w3.heap.size) : Tp (fun k => Q k ∨ k = g2) w3 x fs out st := by
  have hx := h.lt
  obtain ⟨⟨A, c, O, oc, hb, hr, ho, ha, hA2⟩, hl, hk, hf, hn⟩ := h
  have hc0 := (cell_heap hb 0).1
  rw [hw] at hc0
  have hA3 := hA A fs.length c (by simpa using hc0)
  have hxv : ¬ v.ownBlock = some x := fun e => hl (hv x e).1
  have hob : ∀ k, (Value.slice O out.length oc).ownBlock = some k → ∃ a, O = some a ∧ a.block = k := fun k e => by
    cases O with
    | none => cases e
    | some a => cases e; exact ⟨a, rfl, rfl⟩
  refine ⟨⟨A, c, O, oc, hon.heap hb hxv, hon.row hr (fun hne a e q => ?_), hon.own ho (fun k hk' e => ?_), fun a e => ⟨(ha a e).1, fun q => ?_⟩, hA2⟩, fun q => ?_, fun k q => ?_, hf, hn⟩
  · have h1 := (hv _ q).2
    have h2 := hA3 hne a e
    omega
  · obtain ⟨a, e1, rfl⟩ := hob k hk'
    exact (ha a e1).2 (hv _ e).1
  · rcases q with q | q
    · exact (ha a e).2 q
    · rcases hor with z | z
      · rw [← q] at z
        exact (ha a e).2 (hv _ z).1
      · have := (ho.lt a.block (by rw [e]; rfl)).2
        omega
  · rcases q with q | q
    · exact hl q
    · rcases hor with z | z
      · rw [← q] at z
        exact hl (hv _ z).1
      · omega
  · rcases q with q | q
    · exact Nat.lt_of_lt_of_le (hk k q) hon.size
    · rw [q]; exact hlt
/-- Where a tape's words lie: older than the call. -/
theorem tp_words {P : Nat → Prop} {w : World} {x : Nat} {fs : List Int} {out : List D} {st : Bool} (hT : Tp P w x fs out st) : ∀ A n c, w.cell? ⟨x, 0, none⟩ = some (.slice A n c) → flat (encZ .u64) fs ≠ [] → ∀ a, A = some a → a.block < w.heap.size := fun A n c h hne a e => by
  obtain ⟨A0, c0, O, oc, hb, hr, -⟩ := hT.box
  have h2 := (cell_heap hb 0).1
  rw [h] at h2
  simp at h2
  obtain ⟨rfl, -⟩ := h2
  obtain ⟨g, o, e2, hb2, -⟩ := hr hne
  rw [e] at e2
  cases e2
  exact hb2
end Go.Proofs.Ytelnkbikgboblaa.TapeRun
