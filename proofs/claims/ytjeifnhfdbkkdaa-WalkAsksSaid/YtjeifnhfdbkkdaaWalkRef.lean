/- The document's answer for layer 26 (package sundialref26), on a tape: just what a walker asks for, which timers it took, by which deadline it was stopped. -/
import Derived.Test.YtjeifnhfdbkkdaaTape
import Derived.Test.YtjeifnhfdbkkdaaTapeLoad
import Derived.Test.YtjeifnhfdbkkdaaWalkMath
import Derived.Test.YtjeifnhfdbkkdaaPlanRef
import Derived.Test.YtjeifnhfdbkkdaaReferRef
import Derived.Test.YtjeifnhfdbkkdaaStateRef
import Derived.Test.YtjeifnhfdbkkdaaHandleRef
import Derived.Test.YtjeifnhfdbkkdaaNextRef
import Derived.Test.YtjeifnhfdbkkdaaDueRows
import Derived.Test.YtjeifnhfdbkkdaaFour
import Derived.Deep.DeepCutAuto
import Derived.Deep.RegionHeld3
import Derived.Deep.AppendLies
namespace Go.Proofs.Ytjeifnhfdbkkdaa.WalkRef
set_option maxRecDepth 20000
open Go.ChangeShapes Go.WideShapes Go.RowKit CM DM PM KM WaM Runs Lay Ints Plan Go.Proofs.Ytjeifnhfdbkkdaa.Task Go.Proofs.Ytjeifnhfdbkkdaa.Tape Go.Proofs.Ytjeifnhfdbkkdaa.Open Go.Proofs.Ytjeifnhfdbkkdaa.DueRows Go.Proofs.Ytjeifnhfdbkkdaa.HandleRef
open ClM (genI)
set_option linter.unusedVariables false
set_option linter.unusedSimpArgs false

abbrev Word (f : Int) : Prop := 0 ≤ f ∧ f < 18446744073709551616
theorem word_zero : Word 0 := ⟨by decide, by decide⟩

/-- A timer that was taken, as the document's answer keeps it: with the deed. -/
abbrev Tk := Int × Int × Int × Int
abbrev encT : Tk → List Value := enc4 .u64 .i64 .u64 .i64
theorem encT_length (x : Tk) : (encT x).length = 4 := rfl
theorem encT_one (x : Tk) : ∀ v ∈ encT x, v.oneCell' = true := by
  intro v hv
  simp [enc4] at hv
  rcases hv with rfl | rfl | rfl | rfl <;> rfl
def dueT (x : Tk) : Du := (x.1, x.2.1, x.2.2.1)
theorem info_took : (Try.prog.info? 64).map (fun i => (i.zero, i.size, i.bytes)) = some (some (.agg #[.int .u64 0, .int .i64 0, .int .u64 0, .int .i64 0]), 4, 32) := by kernel_rfl
theorem flat_lastT (l : List Tk) (h d z k f : Int) : (flat encT (l ++ [(h, d, z, k)])).set (l.length * 4 + 2) (.int .u64 f) = flat encT (l ++ [(h, d, f, k)]) := by
  rw [flat_append, flat_append, flat_one, flat_one, List.set_append_right _ _ (by rw [flat_length encT_length]; omega), flat_length encT_length, show l.length * 4 + 2 - l.length * 4 = 2 by omega]
  rfl
theorem own_lastT {w : World} {base g cap n : Nat} {e : TypeId} {l : List Tk} {h d z k : Int} (ho : w.ownsRow base e 4 (.slice (some ⟨g, 0, none⟩) n cap) n (flat encT (l ++ [(h, d, z, k)]))) (hn : n = l.length + 1) (f : Int) :
    w.cell? ⟨g, l.length * 4 + 2, none⟩ = some (.int .u64 z) ∧ w.frozen? ⟨g, l.length * 4 + 2, none⟩ = false ∧ (w.setCell ⟨g, l.length * 4 + 2, none⟩ (.int .u64 f)).ownsRow base e 4 (.slice (some ⟨g, 0, none⟩) n cap) n (flat encT (l ++ [(h, d, f, k)])) := by
  refine ⟨?_, ho.frozenAt _, ?_⟩
  · rw [ho.cellAt _ (by omega)]
    exact flat_get encT_length (i := 2) (by decide) (l ++ [(h, d, z, k)]) l.length (h, d, z, k) (by simp)
  · rw [← flat_lastT l h d z k f]
    exact (ho.stored _ _).1

/-- How many deeds a tape holds, read off the world. -/
def outLen (x : Nat) (w : World) : Nat := match w.cell? ⟨x, 1, none⟩ with | some (.slice _ n _) => n | _ => 0
theorem outLen_is {P : Nat → Prop} {w : World} {x : Nat} {fs : List Int} {out : List D} {st : Bool} (h : Tp P w x fs out st) : outLen x w = out.length := by
  obtain ⟨O, oc, h1, _⟩ := h.row
  unfold outLen
  rw [h1]
/-- The run goes on: k deeds were asked for. -/
def Going (Q : Nat → Prop) (W : World) (x : Nat) (fs : List Int) (T L ct : Int) (k : Nat) (s : WaM.St) : Prop := ∃ out, out.length = k ∧ Mid (walkA T L) (walkT ct) fs WaM.start out s ∧ WaM.Ok k s ∧ Tp Q W x fs out false
/-- The tape has stopped. -/
def Stopped (Q : Nat → Prop) (W : World) (x : Nat) (fs : List Int) (T L ct : Int) (s : WaM.St) : Prop := ∃ out, out.length = fs.length + 1 ∧ Fin (walkA T L) (walkT ct) fs WaM.start out s ∧ (walkA T L s).isSome = true ∧ Tp Q W x fs out true
def Ran (Q : Nat → Prop) (W : World) (x : Nat) (fs : List Int) (T L ct : Int) (k : Nat) (s : WaM.St) : Prop := Going Q W x fs T L ct k s ∨ ∃ s', Stopped Q W x fs T L ct s' ∧ s'.out = s.out ∧ s'.sp = never
/-- What a deed leaves: all but the tape's own blocks, and where its words lie. -/
def Kept (Q : Nat → Prop) (x : Nat) (w w' : World) : Prop := Only (fun k => ¬ Q k) w w' ∧ w'.cell? ⟨x, 0, none⟩ = w.cell? ⟨x, 0, none⟩
section
variable {P Q : Nat → Prop} {w w' W W' : World} {x k : Nat} {fs : List Int} {T L ct i y a b : Int} {s s' : WaM.St}
theorem Going.later (h : Going Q W x fs T L ct k s) (hb : Below W.heap.size W W') : Going Q W' x fs T L ct k s := by
  obtain ⟨out, h1, h2, h3, h4⟩ := h
  exact ⟨out, h1, h2, h3, h4.later hb⟩
theorem Stopped.later (h : Stopped Q W x fs T L ct s) (hb : Below W.heap.size W W') : Stopped Q W' x fs T L ct s := by
  obtain ⟨out, h1, h2, h3, h4⟩ := h
  exact ⟨out, h1, h2, h3, h4.later hb⟩
theorem Ran.later (h : Ran Q W x fs T L ct k s) (hb : Below W.heap.size W W') : Ran Q W' x fs T L ct k s := by
  rcases h with h | ⟨s', h1, h2⟩
  · exact .inl (h.later hb)
  · exact .inr ⟨s', h1.later hb, h2⟩
theorem Going.len (h : Going Q W x fs T L ct k s) : k ≤ fs.length ∧ fs.length ≤ 100000 := by
  obtain ⟨out, h1, h2, -, h4⟩ := h
  have := h2.len
  exact ⟨by omega, h4.few⟩
theorem Going.outs (h : Going Q W x fs T L ct k s) : s.out.length ≤ 100000 := by
  have h1 := h.len
  obtain ⟨out, -, -, h3, -⟩ := h
  have := h3.len
  omega
theorem Going.measure (h : Going Q W x fs T L ct k s) : outLen x W = k := by
  obtain ⟨out, h1, -, -, h4⟩ := h
  rw [outLen_is h4, h1]
theorem Ran.measure {j : Nat} (h : Ran Q W x fs T L ct j s) (hj : k < j) (hk : k ≤ fs.length) : k < outLen x W := by
  rcases h with h | ⟨s', ⟨out, h1, -, -, h4⟩, -⟩
  · rw [h.measure]; exact hj
  · rw [outLen_is h4, h1]; omega
theorem Going.stop (h : Going Q W x fs T L ct k s) : W.cell? ⟨x, 2, none⟩ = some (.bool false) := by
  obtain ⟨out, -, -, -, h4⟩ := h
  exact h4.stop
theorem Stopped.stop (h : Stopped Q W x fs T L ct s) : W.cell? ⟨x, 2, none⟩ = some (.bool true) := by
  obtain ⟨out, -, -, -, h4⟩ := h
  exact h4.stop
theorem go_load (h : Going Q W x fs T L ct k s) (hf : ∀ f ∈ fs, Word f) (ha : walkA T L s = some (1, i, 0, 0, y)) : Calls Try.prog 15 #[.pointer (some ⟨x, 0, none⟩), .int .i64 i, .int .u64 y] W fun e W' => ∃ f, e = .returned (.int .u64 f) ∧ Word f ∧ Kept Q x W W' ∧ (Going Q W' x fs T L ct (k + 1) (walkT ct s f) ∨ (f = 0 ∧ Stopped Q W' x fs T L ct s)) := by
  obtain ⟨out, h1, h2, h3, h4⟩ := h
  by_cases hl : out.length = fs.length
  · exact (Load_last_in h4 hl i y).mono fun e w' ⟨⟨a, b, c⟩, d⟩ => ⟨0, a, word_zero, ⟨c, d⟩, .inr ⟨rfl, _, by simp [hl], h2.last ha (by omega), by rw [ha]; rfl, b⟩⟩
  · obtain ⟨f, hff⟩ : ∃ f, fs[out.length]? = some f := ⟨_, List.getElem?_eq_getElem (by have := h2.len; omega)⟩
    have hw := hf f (List.mem_of_getElem? hff)
    exact (Load_more_in h4 hff i y).mono fun e w' ⟨⟨a, b, c⟩, d⟩ => ⟨f, a, hw, ⟨c, d⟩, .inl ⟨_, by simp [h1], h2.more ha hff, walkT_ok h3 hw, b⟩⟩
theorem stop_load (h : Stopped Q W x fs T L ct s) : Calls Try.prog 15 #[.pointer (some ⟨x, 0, none⟩), .int .i64 i, .int .u64 y] W fun e W' => e = .returned (.int .u64 0) ∧ W = W' := by
  obtain ⟨out, h1, h2, h3, h4⟩ := h
  exact Load_stop h4 i y
theorem arrive_out (f : Int) : (arrive ct s f).out = s.out := by
  unfold arrive
  split <;> rfl
/-- The Load of a way on. -/
theorem ran_next (h : Ran Q W x fs T L ct k s) (hf : ∀ f ∈ fs, Word f) (ha : walkA T L s = some (1, i, 0, 0, y)) (ht : ∀ f, walkT ct s f = arrive ct s f) (hsp : s.sp = never) : Calls Try.prog 15 #[.pointer (some ⟨x, 0, none⟩), .int .i64 i, .int .u64 y] W fun e W' => ∃ f, e = .returned (.int .u64 f) ∧ Word f ∧ Kept Q x W W' ∧ Ran Q W' x fs T L ct (k + 1) (arrive ct s f) := by
  rcases h with h | ⟨s', h1, h2, h3⟩
  · refine (go_load h hf ha).mono ?_
    rintro e W' ⟨f, q1, q2, q3, q4⟩
    refine ⟨f, q1, q2, q3, ?_⟩
    rcases q4 with q4 | ⟨-, q4⟩
    · exact .inl (ht f ▸ q4)
    · exact .inr ⟨s, q4, (arrive_out f).symm, hsp⟩
  · refine (stop_load h1).mono ?_
    rintro e W' ⟨q1, rfl⟩
    exact ⟨0, q1, word_zero, ⟨Only.refl _ _, rfl⟩, .inr ⟨s', h1, h2.trans (arrive_out 0).symm, h3⟩⟩
theorem go_swap (h : Going Q W x fs T L ct k s) (hf : ∀ f ∈ fs, Word f) (ha : walkA T L s = some (3, i, a, b, y)) : Calls Try.prog 23 #[.pointer (some ⟨x, 0, none⟩), .int .i64 i, .int .u64 a, .int .u64 b, .int .u64 y] W fun e W' => ∃ v, e = .returned (.bool v) ∧ Kept Q x W W' ∧ ((v = true ∧ Going Q W' x fs T L ct (k + 1) (walkT ct s a)) ∨ (v = false ∧ ((∃ f, ¬ f = a ∧ Going Q W' x fs T L ct (k + 1) (walkT ct s f)) ∨ Stopped Q W' x fs T L ct s))) := by
  obtain ⟨out, h1, h2, h3, h4⟩ := h
  by_cases hl : out.length = fs.length
  · exact (Swap_last_in h4 hl i a b y).mono fun e w' ⟨⟨p, q, c⟩, d⟩ => ⟨false, p, ⟨c, d⟩, .inr ⟨rfl, .inr ⟨_, by simp [hl], h2.last ha (by omega), by rw [ha]; rfl, q⟩⟩⟩
  · obtain ⟨f, hff⟩ : ∃ f, fs[out.length]? = some f := ⟨_, List.getElem?_eq_getElem (by have := h2.len; omega)⟩
    have hw := hf f (List.mem_of_getElem? hff)
    by_cases hfa : f = a
    · subst hfa
      exact (Swap_yes_in h4 hff i b y).mono fun e w' ⟨⟨p, q, c⟩, d⟩ => ⟨true, p, ⟨c, d⟩, .inl ⟨rfl, _, by simp [h1], h2.more ha hff, walkT_ok h3 hw, q⟩⟩
    · exact (Swap_no_in h4 hff hfa i b y).mono fun e w' ⟨⟨p, q, c⟩, d⟩ => ⟨false, p, ⟨c, d⟩, .inr ⟨rfl, .inl ⟨f, hfa, _, by simp [h1], h2.more ha hff, walkT_ok h3 hw, q⟩⟩⟩
end

/-- Beside the tape: the plan's box, the timers that were taken in a row of the call's own. -/
structure At (w : World) (P Q : Nat → Prop) (x : Nat) (T N L G : Int) (v : Value) (took : List Tk) (W : World) : Prop where
  sub : ∀ k, P k → Q k
  box : Q w.heap.size
  row : W.ownsRow (w.heap.size + 1) 64 4 v took.length (flat encT took)
  own : ∀ k, v.ownBlock = some k → Q k
  plan : W.cell? ⟨w.heap.size, 0, none⟩ = some (.int .i64 T) ∧ W.cell? ⟨w.heap.size, 1, none⟩ = some (.int .i64 N) ∧ W.cell? ⟨w.heap.size, 2, none⟩ = some (.int .i64 L) ∧ W.cell? ⟨w.heap.size, 3, none⟩ = some (.int .u64 G)
  only : Only (fun k => ¬ P k) w W
  words : W.cell? ⟨x, 0, none⟩ = w.cell? ⟨x, 0, none⟩
  old : w.heap.size < W.heap.size
section
variable {w : World} {P Q : Nat → Prop} {x : Nat} {T N L G : Int} {v : Value} {took : List Tk} {W W' : World}
theorem plan4 {w w' : World} {N : Nat} {R : Nat → Prop} {T S L G : Int} (h : w.cell? ⟨N, 0, none⟩ = some (.int .i64 T) ∧ w.cell? ⟨N, 1, none⟩ = some (.int .i64 S) ∧ w.cell? ⟨N, 2, none⟩ = some (.int .i64 L) ∧ w.cell? ⟨N, 3, none⟩ = some (.int .u64 G)) (ho : Only R w w') (hr : ¬ R N) :
    w'.cell? ⟨N, 0, none⟩ = some (.int .i64 T) ∧ w'.cell? ⟨N, 1, none⟩ = some (.int .i64 S) ∧ w'.cell? ⟨N, 2, none⟩ = some (.int .i64 L) ∧ w'.cell? ⟨N, 3, none⟩ = some (.int .u64 G) :=
  ⟨ho.cell h.1 hr, ho.cell h.2.1 hr, ho.cell h.2.2.1 hr, ho.cell h.2.2.2 hr⟩
theorem At.later (h : At w P Q x T N L G v took W) (hx : x < w.heap.size) (hb : Below W.heap.size W W') : At w P Q x T N L G v took W' :=
  ⟨h.sub, h.box, own_later h.row hb, h.own, plan4 h.plan (only_below (fun _ => False) hb) id, h.only.then_below hb, by
    rw [← h.words]
    exact World.cell?_of_block (hb.block x (by have := h.old; omega)), Nat.lt_of_lt_of_le h.old hb.size⟩
theorem At.kept (h : At w P Q x T N L G v took W) (hk : Kept Q x W W') : At w P Q x T N L G v took W' :=
  ⟨h.sub, h.box, hk.1.own h.row (fun k e q => q (h.own k e)), h.own, plan4 h.plan hk.1 (fun q => q h.box), h.only.trans (hk.1.wide fun k q => .inl fun z => q (h.sub k z)), hk.2.trans h.words, Nat.lt_of_lt_of_le h.old hk.1.size⟩
end
/-- A tape beside which a row has turned, or grown into a new block. -/
theorem tp_turn {Q : Nat → Prop} {w W w3 : World} {x g2 : Nat} {v : Value} {fs : List Int} {out : List D} {st : Bool} (h : Tp Q W x fs out st) (hw : W.cell? ⟨x, 0, none⟩ = w.cell? ⟨x, 0, none⟩) (hA : ∀ A n c, w.cell? ⟨x, 0, none⟩ = some (.slice A n c) → flat (encZ .u64) fs ≠ [] → ∀ a, A = some a → a.block < w.heap.size)
    (hv : ∀ k, v.ownBlock = some k → Q k ∧ w.heap.size + 1 ≤ k) (hon : Only (fun k => v.ownBlock = some k) W w3) (hor : v.ownBlock = some g2 ∨ W.heap.size ≤ g2) (hlt : g2 < w3.heap.size) : Tp (fun k => Q k ∨ k = g2) w3 x fs out st := by
  have hx := h.lt
  obtain ⟨⟨A, c, O, oc, hb, hr, ho, ha, hA2⟩, hl, hk, hf, hn⟩ := h
  have hc0 := (cell_heap hb 0).1
  rw [hw] at hc0
  have hA3 := hA A fs.length c (by simpa using hc0)
  have hxv : ¬ v.ownBlock = some x := fun e => hl (hv x e).1
  have hob : ∀ k, (Value.slice O out.length oc).ownBlock = some k → ∃ a, O = some a ∧ a.block = k := fun k e => by
    cases O with
    | none => cases e
    | some a => cases e; exact ⟨a, rfl, rfl⟩
  refine ⟨⟨A, c, O, oc, hon.heap hb hxv, hon.row hr (fun hne a e q => ?_), hon.own ho (fun k hk' e => ?_), fun a e => ⟨(ha a e).1, fun q => ?_⟩, hA2⟩, fun q => ?_, fun k q => ?_, hf, hn⟩
  · have h1 := (hv _ q).2
    have h2 := hA3 hne a e
    omega
  · obtain ⟨a, e1, rfl⟩ := hob k hk'
    exact (ha a e1).2 (hv _ e).1
  · rcases q with q | q
    · exact (ha a e).2 q
    · rcases hor with z | z
      · rw [← q] at z
        exact (ha a e).2 (hv _ z).1
      · have := (ho.lt a.block (by rw [e]; rfl)).2
        omega
  · rcases q with q | q
    · exact hl q
    · rcases hor with z | z
      · rw [← q] at z
        exact hl (hv _ z).1
      · omega
  · rcases q with q | q
    · exact Nat.lt_of_lt_of_le (hk k q) hon.size
    · rw [q]; exact hlt
/-- A timer taken: the row behind an append. -/
theorem grown {w : World} {P Q : Nat → Prop} {x k : Nat} {fs : List Int} {T N L G ct : Int} {s : WaM.St} {v : Value} {took : List Tk} {W W0 w3 : World} {g2 cap : Nat} (z : Tk) (hx : x < w.heap.size) (hA : ∀ A n c, w.cell? ⟨x, 0, none⟩ = some (.slice A n c) → flat (encZ .u64) fs ≠ [] → ∀ a, A = some a → a.block < w.heap.size) (h : At w P Q x T N L G v took W) (hg : Going Q W x fs T L ct k s) (hB : Below W.heap.size W W0) (hon : Only (fun k => v.ownBlock = some k) W0 w3)
    (ho : w3.ownsRow (w.heap.size + 1) 64 4 (.slice (some ⟨g2, 0, none⟩) (took.length + 1) cap) (took.length + 1) (flat encT took ++ encT z)) (hor : v.ownBlock = some g2 ∨ g2 = W0.heap.size) (hlt : g2 < w3.heap.size) :
    At w P (fun k => Q k ∨ k = g2) x T N L G (.slice (some ⟨g2, 0, none⟩) (took.length + 1) cap) (took ++ [z]) w3 ∧ Going (fun k => Q k ∨ k = g2) w3 x fs T L ct k s ∧ w3.cell? ⟨x, 1, none⟩ = W.cell? ⟨x, 1, none⟩ := by
  have hW0 := h.later hx hB
  have hv : ∀ k, v.ownBlock = some k → Q k ∧ w.heap.size + 1 ≤ k := fun k e => ⟨h.own k e, (h.row.lt k e).1⟩
  have hl : (took ++ [z]).length = took.length + 1 := by simp
  have hgo : Going (fun k => Q k ∨ k = g2) w3 x fs T L ct k s := by
    obtain ⟨out, h1, h2, h3, h4⟩ := hg.later hB
    exact ⟨out, h1, h2, h3, tp_turn h4 hW0.words hA hv hon (hor.imp id fun e => by omega) hlt⟩
  have hxv : ¬ v.ownBlock = some x := fun e => by have := (hv x e).2; omega
  refine ⟨⟨fun k q => .inl (h.sub k q), .inl h.box, ?_, fun k e => by cases e; exact .inr rfl, plan4 hW0.plan hon (fun e => by have := (hv _ e).2; omega), hW0.only.more hon (fun k e => .inr (by have := (hv k e).2; omega)), ?_, Nat.lt_of_lt_of_le hW0.old hon.size⟩, hgo, (World.cell?_of_block (a := ⟨x, 1, none⟩) (hon.block x (by have := hW0.old; omega) hxv)).trans (World.cell?_of_block (a := ⟨x, 1, none⟩) (hB.block x (by have := h.old; omega)))⟩
  · rw [hl, flat_append, flat_one]; exact ho
  · rw [← hW0.words]
    exact World.cell?_of_block (hon.block x (by have := hW0.old; omega) hxv)
/-- Its number stored. -/
theorem filled {w : World} {P Q : Nat → Prop} {x k : Nat} {fs : List Int} {T N L G ct : Int} {s : WaM.St} {took : List Tk} {W : World} {g cap : Nat} {h0 d0 z0 k0 : Int} (f : Int) (hx : x < w.heap.size) (hA : ∀ A n c, w.cell? ⟨x, 0, none⟩ = some (.slice A n c) → flat (encZ .u64) fs ≠ [] → ∀ a, A = some a → a.block < w.heap.size) (h : At w P Q x T N L G (.slice (some ⟨g, 0, none⟩) (took.length + 1) cap) (took ++ [(h0, d0, z0, k0)]) W) :
    W.cell? ⟨g, took.length * 4 + 2, none⟩ = some (.int .u64 z0) ∧ W.frozen? ⟨g, took.length * 4 + 2, none⟩ = false ∧ At w P Q x T N L G (.slice (some ⟨g, 0, none⟩) (took.length + 1) cap) (took ++ [(h0, d0, f, k0)]) (W.setCell ⟨g, took.length * 4 + 2, none⟩ (.int .u64 f)) ∧
      (Going Q W x fs T L ct k s → Going Q (W.setCell ⟨g, took.length * 4 + 2, none⟩ (.int .u64 f)) x fs T L ct k s) ∧ (Stopped Q W x fs T L ct s → Stopped Q (W.setCell ⟨g, took.length * 4 + 2, none⟩ (.int .u64 f)) x fs T L ct s) := by
  have hr := h.row
  have hl : (took ++ [(h0, d0, z0, k0)]).length = took.length + 1 := by simp
  have hl2 : (took ++ [(h0, d0, f, k0)]).length = took.length + 1 := by simp
  rw [hl] at hr
  obtain ⟨q1, q2, q3⟩ := own_lastT hr rfl f
  have hQ := h.own g rfl
  have hb := (hr.lt g rfl)
  have hon := only_setCell (R := fun k => k = g) W (p := ⟨g, took.length * 4 + 2, none⟩) rfl (.int .u64 f)
  have htp : ∀ {out : List D} {st : Bool}, Tp Q W x fs out st → Tp Q (W.setCell ⟨g, took.length * 4 + 2, none⟩ (.int .u64 f)) x fs out st := fun ht =>
    (tp_turn (v := .slice (some ⟨g, 0, none⟩) (took.length + 1) cap) ht h.words hA (fun k e => by cases e; exact ⟨hQ, hb.1⟩) (hon.wide fun k e => .inl (by rw [e]; rfl)) (.inl rfl) (Nat.lt_of_lt_of_le hb.2 hon.size)).less fun k q => .inl q
  refine ⟨q1, q2, ⟨h.sub, h.box, by rw [hl2]; exact q3, h.own, plan4 h.plan hon (fun e => by omega), h.only.more hon (fun k e => .inr (by omega)), ?_, Nat.lt_of_lt_of_le h.old hon.size⟩, ?_, ?_⟩
  · rw [← h.words]
    exact World.cell?_of_block (hon.block x (by have := h.old; omega) (fun e => by omega))
  · rintro ⟨out, h1, h2, h3, h4⟩
    exact ⟨out, h1, h2, h3, htp h4⟩
  · rintro ⟨out, h1, h2, h3, h4⟩
    exact ⟨out, h1, h2, h3, htp h4⟩
theorem map_snoc (l : List Tk) (h d z k : Int) : (l ++ [(h, d, z, k)]).map dueT = l.map dueT ++ [(h, d, z)] := by simp [dueT]
/-- What the document's walk ends in. -/
def WalkRan (P : Nat → Prop) (w : World) (x : Nat) (fs : List Int) (T L ct : Int) (e : Ending) (w' : World) : Prop :=
  ∃ s out A c took, e = .returned (.tuple #[.slice A took.length c, .int .i64 s.sp]) ∧ Fin (walkA T L) (walkT ct) fs WaM.start out s ∧ Tp P w' x fs out (walkA T L s).isSome ∧ Only (fun k => ¬ P k) w w' ∧ Row w' w'.heap.size A (flat encT took) ∧ s.out = took.map dueT ∧ took.length ≤ 100000
/-- Amid the loop. -/
def Head (P : Nat → Prop) (w : World) (x : Nat) (fs : List Int) (T N L G ct nw : Int) (v wv : Value) (wr : World) : Prop :=
  ∃ Q took k st cu dd f, wv = .int .u64 f ∧ Word f ∧ At w P Q x T N L G v took wr ∧ Ran Q wr x fs T L ct k (arrive ct ⟨st, nw, cu, dd, never, took.map dueT⟩ f)
section
variable {P Q : Nat → Prop} {w W : World} {x k n c : Nat} {fs : List Int} {T N L G ct : Int} {s : WaM.St} {A : Option Addr} {took : List Tk}
theorem Fin.few {out : List D} (h : Fin (walkA T L) (walkT ct) fs WaM.start out s) (hf : ∀ f ∈ fs, Word f) (hfew : fs.length ≤ 100000) : s.out.length ≤ 100000 := by
  obtain ⟨-, h⟩ := h
  have : ∀ (fs : List Int) (k : Nat) (s0 : WaM.St), (∀ f ∈ fs, Word f) → WaM.Ok k s0 → ∃ j, j ≤ k + fs.length ∧ WaM.Ok j (endL (walkA T L) (walkT ct) fs s0) := by
    intro fs
    induction fs with
    | nil => intro k s0 _ h; exact ⟨k, by omega, h⟩
    | cons f fs ih =>
      intro k s0 hw h
      cases hx : walkA T L s0 with
      | none => exact ⟨k, by omega, by simpa [Runs.endL, hx] using h⟩
      | some d =>
        obtain ⟨j, hj, h2⟩ := ih (k + 1) (walkT ct s0 f) (fun g hg => hw g (List.mem_cons_of_mem _ hg)) (walkT_ok h (hw f List.mem_cons_self))
        exact ⟨j, by simp; omega, by simpa [Runs.endL, hx] using h2⟩
  obtain ⟨j, hj, h2⟩ := this fs 0 WaM.start hf start_ok
  rw [h] at h2
  have := h2.len
  omega
theorem ended (ha : At w P Q x T N L G (.slice A took.length c) took W) (hf : ∀ f ∈ fs, Word f) (h : ∃ out, Fin (walkA T L) (walkT ct) fs WaM.start out s ∧ Tp Q W x fs out (walkA T L s).isSome) (hs : s.out = took.map dueT) : WalkRan P w x fs T L ct (.returned (.tuple #[.slice A took.length c, .int .i64 s.sp])) W := by
  obtain ⟨out, h1, h2⟩ := h
  have hl := Fin.few h1 hf h2.few
  rw [hs, List.length_map] at hl
  exact ⟨s, out, A, c, took, rfl, h1, h2.less ha.sub, ha.only, Row.of_own ha.row, hs, hl⟩
theorem ended_stop {s' : WaM.St} (hn : n = took.length) (ha : At w P Q x T N L G (.slice A n c) took W) (hf : ∀ f ∈ fs, Word f) (h : Stopped Q W x fs T L ct s') (h1 : s'.out = took.map dueT) (h2 : s'.sp = never) : WalkRan P w x fs T L ct (.returned (.tuple #[.slice A n c, .int .i64 never])) W := by
  subst hn
  rw [← h2]
  obtain ⟨out, -, q1, q2, q3⟩ := h
  exact ended ha hf ⟨out, q1, by rw [q2]; exact q3⟩ h1
theorem ended_done (hn : n = took.length) (ha : At w P Q x T N L G (.slice A n c) took W) (hf : ∀ f ∈ fs, Word f) (h : Going Q W x fs T L ct k s) (h0 : walkA T L s = none) (h1 : s.out = took.map dueT) : WalkRan P w x fs T L ct (.returned (.tuple #[.slice A n c, .int .i64 s.sp])) W := by
  subst hn
  obtain ⟨out, -, q1, -, q3⟩ := h
  exact ended ha hf ⟨out, q1.done h0, by rw [h0]; exact q3⟩ h1
theorem Going.row (h : Going Q W x fs T L ct k s) : ∃ O oc, W.cell? ⟨x, 1, none⟩ = some (.slice O k oc) := by
  obtain ⟨out, rfl, -, -, h4⟩ := h
  obtain ⟨O, oc, h1, -⟩ := h4.row
  exact ⟨O, oc, h1⟩
end
theorem live_zero (r : Int) : ((0 : Int) == SM.stI (genI r) 2) = false := by
  have : ¬ (0 : Int) = SM.stI (genI r) 2 := by unfold SM.stI; omega
  simpa using this
set_option maxHeartbeats 4000000 in
theorem Walk_run {P : Nat → Prop} {x : Nat} {w : World} {fs : List Int} (hT : Tp P w x fs [] false) (hf : ∀ f ∈ fs, 0 ≤ f ∧ f < 18446744073709551616) (T N L G ct : Int) : Calls Try.prog 8 #[.pointer (some ⟨x, 0, none⟩), .agg #[.int .i64 T, .int .i64 N, .int .i64 L, .int .u64 G], .int .i64 ct] w (WalkRan P w x fs T L ct) := by
  have HF := Lib.hid (show ∀ f ∈ fs, Word f from hf)
  have hx := hT.lt
  have HXL := Lib.hid hx
  have HA := Lib.hid (show ∀ A n c, w.cell? ⟨x, 0, none⟩ = some (.slice A n c) → flat (encZ .u64) fs ≠ [] → ∀ a, A = some a → a.block < w.heap.size from fun A n c h hne a e => by
    obtain ⟨A0, c0, O, oc, hb, hr, -⟩ := hT.box
    have h2 := (cell_heap hb 0).1
    rw [h] at h2
    simp at h2
    obtain ⟨rfl, -⟩ := h2
    obtain ⟨g, o, e2, hb2, -⟩ := hr hne
    rw [e] at e2
    cases e2
    exact hb2)
  have HB0 := Lib.hid (box_below w (.cells #[.int .i64 T, .int .i64 N, .int .i64 L, .int .u64 G] 24))
  have HT0 := Lib.hid (show Going (fun k => P k ∨ k = w.heap.size) (w.alloc (.cells #[.int .i64 T, .int .i64 N, .int .i64 L, .int .u64 G] 24)) x fs T L ct 0 WaM.start from ⟨[], rfl, Mid.start _ _, start_ok, hT.more _⟩)
  have HA0 := Lib.hid (show At w P (fun k => P k ∨ k = w.heap.size) x T N L G (.slice none 0 0) [] (w.alloc (.cells #[.int .i64 T, .int .i64 N, .int .i64 L, .int .u64 G] 24)) from
    ⟨fun k e => .inl e, .inr rfl, World.ownsRow_nil _ _ _ _, fun k e => (by cases e), box4 w (.int .i64 T) (.int .i64 N) (.int .i64 L) (.int .u64 G) 24, only_alloc _ _ _, World.cell?_of_block (a := ⟨x, 0, none⟩) (HB0.out.block x hx), by simp⟩)
  clear hf hT hx
  obtain ⟨P0, hP0⟩ : ∃ P0 : Nat → Prop, P0 = fun k => P k ∨ k = w.heap.size := ⟨_, rfl⟩
  rw [← hP0] at HT0 HA0
  clear hP0
  obtain ⟨i0, hi, hz0, hz1, hz2⟩ := info_parts info_took
  go_enter Try.func8, Try.ntmps8
  go_wp2_with fail
  refine (go_load HT0.out HF.out walkA_1).mono ?_
  rintro e w1 ⟨f0, rfl, hw0, hk, hg⟩
  have HA1 := Lib.hid (HA0.out.kept hk)
  have HR1 := Lib.hid (show Ran P0 w1 x fs T L ct 1 ⟨2, wrap64 f0, 0, 0, never, []⟩ from hg.elim (fun h => .inl h) (fun h => .inr ⟨_, h.2, rfl, rfl⟩))
  clear hk hg hw0
  obtain ⟨c_0, c_1, c_2, c_3⟩ := HA1.out.plan
  go_wp2_with fail
  refine (PlanRef.Next_any T N L G 0 0 _).mono ?_
  rintro e w2 ⟨rfl, b2⟩
  have HR2 := Lib.hid (HR1.out.later b2)
  have HA2 := Lib.hid (HA1.out.later HXL.out b2)
  clear b2 c_0 c_1 c_2 c_3
  go_wp2_with fail
  refine (ran_next HR2.out HF.out walkA_2 (fun _ => walkT_2) rfl).mono ?_
  rintro e w3 ⟨f3, rfl, hw3, hk3, hr3⟩
  obtain ⟨nw, hnw⟩ : ∃ nw, nw = wrap64 f0 := ⟨_, rfl⟩
  have HST := Lib.hid (show Head P w x fs T N L G ct nw (.slice none 0 0) (.int .u64 f3) w3 from ⟨P0, [], _, 2, 0, 0, f3, rfl, hw3, HA2.out.kept hk3, hnw ▸ hr3⟩)
  clear hw3 hk3 hr3
  clear HR1 HR2 HA1 HA2 HT0 HA0 HB0
  go_wp2
  rw [← hnw]
  clear hnw
  go_loopw [8, 10] (fun v wv wr => Head P w x fs T N L G ct nw v wv wr) (fun _ _ wr => fs.length + 2 - outLen x wr)
  case atStart => exact HST.out
  case round =>
    obtain ⟨Q, took, k, st, cu, dd, f, rfl, hw, ha, hr⟩ := hrel
    obtain ⟨A, c, rfl, hc⟩ := slice_of_own ha.row
    have HAT := Lib.hid ha
    have HNO := Lib.hid fun W => Ref02.None_any f hw.1 hw.2 W
    rw [show f % 4294967296 / 2 = idx f from rfl] at HNO
    rcases hr with hg | ⟨s', hs, hs1, hs2⟩
    · have c4 := hg.stop
      have HKL := Lib.hid hg.len.1
      have HMW := Lib.hid hg.measure
      have HOT := Lib.hid (show took.length ≤ 100000 by have := hg.outs; rw [arrive_out, List.length_map] at this; exact this)
      by_cases h1 : (took.length : Int) < ct
      · by_cases h2 : idx f = 0
        · have HEND := Lib.hid (ended_done rfl ha HF.out hg (by rw [arrive_done (.inr h2)]; exact walkA_0) (arrive_out f))
          rw [show (arrive ct ⟨st, nw, cu, dd, never, took.map dueT⟩ f).sp = never by rw [arrive_done (.inr h2)]] at HEND
          rw [decide_eq_true h2] at HNO
          generalize took.length = n at HEND h1
          clear ha hg hc h2 hw
          go_wp2_with (refine (HNO.out _).mono ?_; rintro e w' ⟨rfl, rfl⟩)
          go_ret2
          exact HEND.out
        · rw [arrive_more (by simp only [List.length_map]; omega)] at hg
          simp only at hg
          rw [decide_eq_false h2] at HNO
          have HPL := Lib.hid fun W => Ref02.Plain_any f hw.1 hw.2 W
          rw [show f - f % 2 = plainI f from rfl] at HPL
          have hr : Word (plainI f) := (plain_word hw).1
          generalize plainI f = r at HPL hr hg
          have HIX := Lib.hid fun W => Ref02.Index_any r hr.1 hr.2 W
          rw [show r % 4294967296 / 2 = idx r from rfl] at HIX
          have HGN := Lib.hid fun W => Ref02.Gen_any r hr.1 hr.2 W
          rw [show r / 4294967296 = genI r from rfl] at HGN
          have hgn : 0 ≤ genI r := by unfold genI; omega
          have HO2 := Lib.hid fun W => Ref04.Of_any (genI r) 2 hgn W
          have HO3 := Lib.hid fun W => Ref04.Of_any (genI r) 3 hgn W
          have HHD := Lib.hid fun W => Handle_any hr W
          have HNX := Lib.hid fun W => NextRef.Next_any T N L G 0 hr W
          have HSL := Lib.hid fun j W => PlanRef.Slot_any T N L G (idx r) j W
          have HG := Lib.hid hg
          obtain ⟨i, hi2⟩ : ∃ i, i = idx r := ⟨_, rfl⟩
          rw [← hi2] at HIX HSL
          have HW4 := Lib.hid (show ∀ dd (U : List Du), walkA T L ⟨4, nw, r, dd, never, U⟩ = some (1, atI T L i 1, 0, 0, r) from fun dd U => by rw [hi2]; exact walkA_4)
          have HW5 := Lib.hid (show ∀ dd (U : List Du), walkA T L ⟨5, nw, r, dd, never, U⟩ = some (1, atI T L i 0, 0, 0, 0) from fun dd U => by rw [hi2]; exact walkA_5)
          have HW6 := Lib.hid (show ∀ dd (U : List Du), walkA T L ⟨6, nw, r, dd, never, U⟩ = some (3, atI T L i 0, SM.stI (genI r) 2, SM.stI (genI r) 3, 0) from fun dd U => by rw [hi2]; exact walkA_6)
          have HW7 := Lib.hid (show ∀ dd (U : List Du), walkA T L ⟨7, nw, r, dd, never, U⟩ = some (1, atI T L i 2, 0, 0, r) from fun dd U => by rw [hi2]; exact walkA_7)
          obtain ⟨n, hn⟩ : ∃ n, n = took.length := ⟨_, rfl⟩
          have HN := Lib.hid hn
          rw [← hn] at h1 HOT ha
          replace HAT := Lib.hid ha
          obtain ⟨c_0, c_1, c_2, c_3⟩ := ha.plan
          clear ha hg hc h2 hw hr hgn hi2
          rw [← hn]
          clear hn
          go_wp2_with (refine (HNO.out _).mono ?_; rintro e w' ⟨rfl, rfl⟩)
          go_wp2_with fail
          refine (HPL.out _).mono ?_
          rintro e w' ⟨rfl, rfl⟩
          go_wp2_with fail
          refine (HIX.out _).mono ?_
          rintro e w' ⟨rfl, rfl⟩
          go_wp2_with fail
          refine (HSL.out 1 _).mono ?_
          rintro e w4 ⟨rfl, b4⟩
          have HG4 := Lib.hid (HG.out.later b4)
          have HA4 := Lib.hid (HAT.out.later HXL.out b4)
          clear b4 c_0 c_1 c_2 c_3 c4 HNO HPL
          go_wp2_with fail
          refine (go_load HG4.out HF.out (HW4.out _ _)).mono ?_
          rintro e w5 ⟨f5, rfl, hw5, hk5, hg5 | ⟨rfl, hs5⟩⟩
          · have HA5 := Lib.hid (HA4.out.kept hk5)
            have HG5 := Lib.hid hg5
            have c4 := hg5.stop
            clear hg5 hk5 hw5
            by_cases hd : nw < wrap64 f5
            · have HEND := Lib.hid (ended_done HN.out HA5.out HF.out (walkT_4s hd ▸ HG5.out) walkA_0 rfl)
              simp only at HEND
              go_wp2
              go_ret2
              exact HEND.out
            · have HG5b := Lib.hid (walkT_4 hd ▸ HG5.out)
              clear HG5
              obtain ⟨c_0, c_1, c_2, c_3⟩ := HA5.out.plan
              go_wp2_with fail
              refine (HSL.out 0 _).mono ?_
              rintro e w6 ⟨rfl, b6⟩
              have HG6 := Lib.hid (HG5b.out.later b6)
              have HA6 := Lib.hid (HA5.out.later HXL.out b6)
              clear b6 c_0 c_1 c_2 c_3 c4
              go_wp2_with fail
              refine (HGN.out _).mono ?_
              rintro e w' ⟨rfl, rfl⟩
              go_wp2_with fail
              refine (HO2.out _).mono ?_
              rintro e w' ⟨rfl, rfl⟩
              go_wp2_with fail
              refine (go_load HG6.out HF.out (HW5.out _ _)).mono ?_
              rintro e w7 ⟨f7, rfl, hw7, hk7, hg7 | ⟨rfl, hs7⟩⟩
              · have HA7 := Lib.hid (HA6.out.kept hk7)
                have HG7 := Lib.hid hg7
                have c4 := hg7.stop
                clear hg7 hk7 hw7
                by_cases hl : f7 = SM.stI (genI r) 2
                · have HG8 := Lib.hid (walkT_5 (count := ct) hl ▸ HG7.out)
                  subst hl
                  go_wp2_with fail
                  refine (HGN.out _).mono ?_
                  rintro e w' ⟨rfl, rfl⟩
                  go_wp2_with fail
                  refine (HO3.out _).mono ?_
                  rintro e w' ⟨rfl, rfl⟩
                  go_wp2_with fail
                  refine (go_swap HG8.out HF.out (HW6.out _ _)).mono ?_
                  rintro e w8 ⟨v, rfl, hk8, ⟨rfl, hg8⟩ | ⟨rfl, hor⟩⟩
                  · rw [walkT_6 rfl] at hg8
                    obtain ⟨O, oc, hrow⟩ := hg8.row
                    obtain ⟨m, hm⟩ : ∃ m : Nat, m = k + 1 + 1 + 1 := ⟨_, rfl⟩
                    rw [← hm] at hrow hg8
                    have HMK := Lib.hid hm
                    have ha8 := HA7.out.kept hk8
                    have HA8 := Lib.hid ha8
                    obtain ⟨hd2, hhd2⟩ : ∃ h, h = handI r := ⟨_, rfl⟩
                    rw [← hhd2] at HHD hg8
                    have HGR := Lib.hid (show ∀ (W0 w3 : World) (g2 cap : Nat), Below w8.heap.size w8 W0 → W0.grownBy w3 (Value.slice A n c).ownBlock → w3.ownsRow (w.heap.size + 1) 64 4 (.slice (some ⟨g2, 0, none⟩) (n + 1) cap) (n + 1) (flat encT took ++ encT (hd2, wrap64 f5, 0, (m : Int))) → ((Value.slice A n c).ownBlock = some g2 ∨ g2 = W0.heap.size) → g2 < w3.heap.size →
                        At w P (fun k => Q k ∨ k = g2) x T N L G (.slice (some ⟨g2, 0, none⟩) (n + 1) cap) (took ++ [(hd2, wrap64 f5, 0, (m : Int))]) w3 ∧ Going (fun k => Q k ∨ k = g2) w3 x fs T L ct m ⟨7, nw, r, wrap64 f5, never, took.map dueT ++ [(hd2, wrap64 f5, 0)]⟩ ∧ w3.cell? ⟨x, 1, none⟩ = some (.slice O m oc) from fun W0 w3 g2 cap hB hgr ho hor hlt => by
                      rw [HN.out] at ho hgr hor ha8 ⊢
                      rw [← hrow]
                      exact grown _ HXL.out HA.out ha8 hg8 hB (only_grown hgr fun k e => e) ho hor hlt)
                    have HBD := Lib.hid (show ∀ o, Below w8.heap.size w8 (w8.alloc o).drew from fun o => (box_below w8 o).drew)
                    have HRW := Lib.hid (show ∀ o, (w8.alloc o).drew.ownsRow (w.heap.size + 1) 64 4 (.slice A n c) n (flat encT took) from fun o => by have h := own_later ha8.row (HBD.out o); rw [← HN.out] at h; exact h)
                    have HS0 := Lib.hid (show w8.drew.cell? ⟨x, 1, none⟩ = some (.slice O m oc) from hrow)
                    have HS1 := Lib.hid (show ∀ o, (w8.alloc o).drew.cell? ⟨x, 1, none⟩ = some (.slice O m oc) from fun o => cell_later (HBD.out o) hrow)
                    clear hk8 hg8 ha8 hrow hm HG8 c4 hd hhd2
                    go_wp2_with fail
                    go_cut [8] (fun v wx => ∃ (Q' : Nat → Prop) (g c' : Nat), v = .slice (some ⟨g, 0, none⟩) (n + 1) c' ∧ At w P Q' x T N L G (.slice (some ⟨g, 0, none⟩) (n + 1) c') (took ++ [(hd2, wrap64 f5, 0, (m : Int))]) wx ∧ Going Q' wx x fs T L ct m ⟨7, nw, r, wrap64 f5, never, took.map dueT ++ [(hd2, wrap64 f5, 0)]⟩)
                    case first =>
                      go_region_held3 (fun W => W.cell? ⟨x, 1, none⟩ = some (.slice O m oc))
                        ((first | (with_reducible exact HS0.out) | (with_reducible exact HS1.out _) | (with_reducible assumption)))
                        (first
                          | (go_at_call 24; refine (HHD.out _).mono ?_; rintro e w9 ⟨rfl, rfl⟩)
                          | (refine step_append_lies _ rfl (.tmp 84) (.tmp 95) 38 rfl (w.heap.size + 1) 64 i0 _ 4 32 Try.underlying38 hi hz0 hz1 hz2 rfl (by decide) _ n _ rfl (HRW.out _) ⟨w8.heap.size, 0, none⟩ 1 1 (encT (hd2, wrap64 f5, 0, (m : Int))) rfl rfl (cells_new _ _ _) (encT_one _) (by decide) (by simp only [maxLen]; have := HOT.out; omega) (by have := HOT.out; omega) (by have := HA8.out.old; simp; omega) _ rfl ?_
                             intro g2 cap w9 ho2 hg2 hor2 hlt2
                             obtain ⟨k1, k2, k3⟩ := HGR.out _ _ _ _ (HBD.out _) hg2 ho2 hor2 hlt2
                             have HA9 := Lib.hid k1
                             have HG9 := Lib.hid k2
                             clear k1 k2 ho2 hg2 hor2 hlt2))
                      go_wp2_with fail
                      go_meet
                      case rel => exact ⟨_, _, _, rfl, HA9.out, HG9.out⟩
                    case rest =>
                      obtain ⟨Q1, g, c1, rfl, ha9, hg9⟩ := hcut
                      have HA9 := Lib.hid ha9
                      have HG9 := Lib.hid hg9
                      obtain ⟨c_0, c_1, c_2, c_3⟩ := ha9.plan
                      clear ha9 hg9
                      go_wp2_with fail
                      refine (HSL.out 2 _).mono ?_
                      rintro e w10 ⟨rfl, b10⟩
                      have HG10 := Lib.hid (HG9.out.later b10)
                      have HA10 := Lib.hid (HA9.out.later HXL.out b10)
                      clear b10 c_0 c_1 c_2 c_3
                      have hwn : wrap64 (n : Int) = (n : Int) := wrap_in (by have := HOT.out; omega)
                      have hge : (0 : Int) ≤ (n : Int) := by omega
                      have hnn : (n : Int) < (n : Int) + 1 := by omega
                      go_wp2_with fail
                      refine (go_load HG10.out HF.out (HW7.out _ _)).mono ?_
                      rintro e w11 ⟨f11, rfl, hw11, hk11, hor⟩
                      have ha11 := HA10.out.kept hk11
                      rw [HN.out] at ha11
                      have h8 : Going Q1 w11 x fs T L ct (m + 1) ⟨8, nw, r, wrap64 f5, never, (took ++ [(hd2, wrap64 f5, f11, (m : Int))]).map dueT⟩ ∨ (f11 = 0 ∧ Stopped Q1 w11 x fs T L ct ⟨7, nw, r, wrap64 f5, never, took.map dueT ++ [(hd2, wrap64 f5, 0)]⟩) := by
                        rcases hor with h | h
                        · rw [walkT_7, fillS_snoc, ← map_snoc took hd2 (wrap64 f5) f11 (m : Int)] at h
                          exact .inl h
                        · exact .inr h
                      obtain ⟨q0, q1, q2, q3, -⟩ := filled (k := m + 1) (ct := ct) (fs := fs) (s := ⟨8, nw, r, wrap64 f5, never, (took ++ [(hd2, wrap64 f5, f11, (m : Int))]).map dueT⟩) f11 HXL.out HA.out ha11
                      obtain ⟨-, -, -, -, q4⟩ := filled (k := m + 1) (ct := ct) (fs := fs) (s := ⟨7, nw, r, wrap64 f5, never, took.map dueT ++ [(hd2, wrap64 f5, 0)]⟩) f11 HXL.out HA.out ha11
                      rw [← HN.out] at q0 q1 q2 q3 q4
                      have HA12 := Lib.hid q2
                      have HR12 := Lib.hid (show Ran Q1 (w11.setCell ⟨g, n * 4 + 2, none⟩ (.int .u64 f11)) x fs T L ct (m + 1) ⟨8, nw, r, wrap64 f5, never, (took ++ [(hd2, wrap64 f5, f11, (m : Int))]).map dueT⟩ from by
                        rcases h8 with h | ⟨h0, h⟩
                        · exact .inl (q3 h)
                        · subst h0
                          exact .inr ⟨_, q4 h, (map_snoc took hd2 (wrap64 f5) 0 (m : Int)).symm, rfl⟩)
                      have HMM := HMK.out
                      clear hw11 hk11 hor ha11 h8 q2 q3 q4
                      obtain ⟨c_0, c_1, c_2, c_3⟩ := HA12.out.plan
                      go_wp2_with fail
                      refine (HNX.out _).mono ?_
                      rintro e w19 ⟨rfl, b9⟩
                      have HR9 := Lib.hid (HR12.out.later b9)
                      have HA9 := Lib.hid (HA12.out.later HXL.out b9)
                      clear b9 c_0 c_1 c_2 c_3
                      go_wp2_with fail
                      refine (ran_next HR9.out HF.out walkA_8 (fun _ => walkT_8) rfl).mono ?_
                      rintro e w20 ⟨f19, rfl, hw9, hk9, hr9⟩
                      have HE := Lib.hid (show Head P w x fs T N L G ct nw (.slice (some ⟨g, 0, none⟩) (n + 1) c1) (.int .u64 f19) w20 from ⟨_, (took ++ [(hd2, wrap64 f5, f11, (m : Int))]), _, 8, r, (wrap64 f5), f19, rfl, hw9, HA9.out.kept hk9, hr9⟩)
                      have HM := Lib.hid (hr9.measure (k := k) (by omega) HKL.out)
                      clear hw9 hk9 hr9
                      go_wp2
                      go_roundw
                      case rel => exact HE.out
                      case measure => have h1 := HM.out; have h2 := HMW.out; have h3 := HKL.out; rw [h2]; omega
                  · have HA8 := Lib.hid (HA7.out.kept hk8)
                    have HR8 := Lib.hid (show Ran Q w8 x fs T L ct (k + 3) ⟨8, nw, r, wrap64 f5, never, took.map dueT⟩ from by
                      rcases hor with ⟨f8, hne, hg⟩ | hs
                      · rw [walkT_6n hne] at hg
                        exact .inl hg
                      · exact .inr ⟨_, hs, rfl, rfl⟩)
                    clear hk8 hor HG8
                    obtain ⟨c_0, c_1, c_2, c_3⟩ := HA8.out.plan
                    go_wp2_with fail
                    refine (HNX.out _).mono ?_
                    rintro e w19 ⟨rfl, b9⟩
                    have HR9 := Lib.hid (HR8.out.later b9)
                    have HA9 := Lib.hid (HA8.out.later HXL.out b9)
                    clear b9 c_0 c_1 c_2 c_3
                    go_wp2_with fail
                    refine (ran_next HR9.out HF.out walkA_8 (fun _ => walkT_8) rfl).mono ?_
                    rintro e w20 ⟨f19, rfl, hw9, hk9, hr9⟩
                    have HE := Lib.hid (show Head P w x fs T N L G ct nw (.slice A n c) (.int .u64 f19) w20 from ⟨_, took, _, 8, r, (wrap64 f5), f19, rfl, hw9, HA9.out.kept hk9, hr9⟩)
                    have HM := Lib.hid (hr9.measure (k := k) (by omega) HKL.out)
                    clear hw9 hk9 hr9
                    go_wp2
                    go_roundw
                    case rel => exact HE.out
                    case measure => have h1 := HM.out; have h2 := HMW.out; have h3 := HKL.out; rw [h2]; omega
                · have HR7 := Lib.hid (show Ran Q w7 x fs T L ct (k + 2) ⟨8, nw, r, wrap64 f5, never, took.map dueT⟩ from .inl (walkT_5n (count := ct) hl ▸ HG7.out))
                  have hle : (f7 == SM.stI (genI r) 2) = false := by simpa using hl
                  generalize SM.stI (genI r) 2 = av at hl hle
                  obtain ⟨c_0, c_1, c_2, c_3⟩ := HA7.out.plan
                  go_wp2_with fail
                  refine (HNX.out _).mono ?_
                  rintro e w19 ⟨rfl, b9⟩
                  have HR9 := Lib.hid (HR7.out.later b9)
                  have HA9 := Lib.hid (HA7.out.later HXL.out b9)
                  clear b9 c_0 c_1 c_2 c_3
                  go_wp2_with fail
                  refine (ran_next HR9.out HF.out walkA_8 (fun _ => walkT_8) rfl).mono ?_
                  rintro e w20 ⟨f19, rfl, hw9, hk9, hr9⟩
                  have HE := Lib.hid (show Head P w x fs T N L G ct nw (.slice A n c) (.int .u64 f19) w20 from ⟨_, took, _, 8, r, (wrap64 f5), f19, rfl, hw9, HA9.out.kept hk9, hr9⟩)
                  have HM := Lib.hid (hr9.measure (k := k) (by omega) HKL.out)
                  clear hw9 hk9 hr9
                  go_wp2
                  go_roundw
                  case rel => exact HE.out
                  case measure => have h1 := HM.out; have h2 := HMW.out; have h3 := HKL.out; rw [h2]; omega
              · have HA7 := Lib.hid (HA6.out.kept hk7)
                have HR7 := Lib.hid (show Ran Q w7 x fs T L ct (k + 2) ⟨8, nw, r, wrap64 f5, never, took.map dueT⟩ from .inr ⟨_, hs7, rfl, rfl⟩)
                have c4 := hs7.stop
                have hle : ((0 : Int) == SM.stI (genI r) 2) = false := live_zero r
                generalize SM.stI (genI r) 2 = av at hle
                clear hs7 hk7 hw7
                obtain ⟨c_0, c_1, c_2, c_3⟩ := HA7.out.plan
                go_wp2_with fail
                refine (HNX.out _).mono ?_
                rintro e w19 ⟨rfl, b9⟩
                have HR9 := Lib.hid (HR7.out.later b9)
                have HA9 := Lib.hid (HA7.out.later HXL.out b9)
                clear b9 c_0 c_1 c_2 c_3
                go_wp2_with fail
                refine (ran_next HR9.out HF.out walkA_8 (fun _ => walkT_8) rfl).mono ?_
                rintro e w20 ⟨f19, rfl, hw9, hk9, hr9⟩
                have HE := Lib.hid (show Head P w x fs T N L G ct nw (.slice A n c) (.int .u64 f19) w20 from ⟨_, took, _, 8, r, (wrap64 f5), f19, rfl, hw9, HA9.out.kept hk9, hr9⟩)
                have HM := Lib.hid (hr9.measure (k := k) (by omega) HKL.out)
                clear hw9 hk9 hr9
                go_wp2
                go_roundw
                case rel => exact HE.out
                case measure => have h1 := HM.out; have h2 := HMW.out; have h3 := HKL.out; rw [h2]; omega
          · have HEND := Lib.hid (ended_stop HN.out (HA4.out.kept hk5) HF.out hs5 rfl rfl)
            have c4 := hs5.stop
            clear hs5 hk5 hw5
            go_wp2
            go_ret2
            exact HEND.out
      · have HEND := Lib.hid (ended_done rfl ha HF.out hg (by rw [arrive_done (.inl (by simp only [List.length_map]; omega))]; exact walkA_0) (arrive_out f))
        rw [show (arrive ct ⟨st, nw, cu, dd, never, took.map dueT⟩ f).sp = never by rw [arrive_done (.inl (by simp only [List.length_map]; omega))]] at HEND
        generalize took.length = n at HEND h1
        clear ha hg hc hw
        go_wp2
        go_ret2
        exact HEND.out
    · have HEND := Lib.hid (ended_stop rfl ha HF.out hs (hs1.trans (arrive_out f)) hs2)
      have c4 := hs.stop
      generalize took.length = n at HEND
      clear ha hs hc hs1 hs2 hw
      go_wp2
      go_ret2
      exact HEND.out
end Go.Proofs.Ytjeifnhfdbkkdaa.WalkRef
