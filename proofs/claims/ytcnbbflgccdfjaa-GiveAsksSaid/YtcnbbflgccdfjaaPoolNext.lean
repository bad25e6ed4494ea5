/- What the tasks of package pool ask for; new ones. -/
import Derived.Test.YtcnbbflgccdfjaaPoolWalks
namespace Go.Proofs.Ytcnbbflgccdfjaa.Pool
set_option maxRecDepth 20000
open Go.ChangeShapes Go.WideShapes Go.RowKit CM DM PM PoM Lay Plan Go.Proofs.Ytcnbbflgccdfjaa.Task
set_option linter.unusedVariables false
set_option linter.unusedSimpArgs false

/-- All that the region reads, in any later world. -/
theorem stay {w W : World} {p : Nat} {s : St} {T S L G : Int} {v : Value} (h : Box w p s T S L G v) (hb : Below w.heap.size w W) : W.cell? ⟨p, 0, none⟩ = some (.int .i64 s.st) ∧ W.cell? ⟨p, 1, none⟩ = some (.int .u64 s.was) ∧ W.cell? ⟨p, 2, none⟩ = some (.int .i64 T) ∧ W.cell? ⟨p, 3, none⟩ = some (.int .i64 S) ∧ W.cell? ⟨p, 4, none⟩ = some (.int .i64 L) ∧ W.cell? ⟨p, 5, none⟩ = some (.int .u64 G) ∧ W.cell? ⟨p, 6, none⟩ = some v := h.later hb
theorem stay_past {w W : World} {p : Nat} {s : St} {T S L G : Int} {v : Value} (h : Box w p s T S L G v) (hb : Below (w.alloc (.cells #[.int .i64 0, .int .i64 0, .int .u64 0, .int .u64 0, .int .u64 0] 31)).heap.size (w.alloc (.cells #[.int .i64 0, .int .i64 0, .int .u64 0, .int .u64 0, .int .u64 0] 31)) W) : W.cell? ⟨p, 0, none⟩ = some (.int .i64 s.st) ∧ W.cell? ⟨p, 1, none⟩ = some (.int .u64 s.was) ∧ W.cell? ⟨p, 2, none⟩ = some (.int .i64 T) ∧ W.cell? ⟨p, 3, none⟩ = some (.int .i64 S) ∧ W.cell? ⟨p, 4, none⟩ = some (.int .i64 L) ∧ W.cell? ⟨p, 5, none⟩ = some (.int .u64 G) ∧ W.cell? ⟨p, 6, none⟩ = some v := stay h ((box_below _ _).trans (hb.mono (by simp)))
theorem stay_start {w : World} {p : Nat} {s : St} {T S L G : Int} {v : Value} (h : Box w p s T S L G v) : (fun W : World => W.cell? ⟨p, 0, none⟩ = some (.int .i64 s.st) ∧ W.cell? ⟨p, 1, none⟩ = some (.int .u64 s.was) ∧ W.cell? ⟨p, 2, none⟩ = some (.int .i64 T) ∧ W.cell? ⟨p, 3, none⟩ = some (.int .i64 S) ∧ W.cell? ⟨p, 4, none⟩ = some (.int .i64 L) ∧ W.cell? ⟨p, 5, none⟩ = some (.int .u64 G) ∧ W.cell? ⟨p, 6, none⟩ = some v) (w.alloc (.cells #[.int .i64 0, .int .i64 0, .int .u64 0, .int .u64 0, .int .u64 0] 31)).drew := stay_past h (Below.refl _ _).drew
theorem stay_set {w W : World} {p : Nat} {s : St} {T S L G : Int} {v : Value} (h : Box w p s T S L G v) (hb : Below (w.alloc (.cells #[.int .i64 0, .int .i64 0, .int .u64 0, .int .u64 0, .int .u64 0] 31)).heap.size (w.alloc (.cells #[.int .i64 0, .int .i64 0, .int .u64 0, .int .u64 0, .int .u64 0] 31)) W) (u0 u1 u2 u3 u4 : Value) :
    (fun W : World => W.cell? ⟨p, 0, none⟩ = some (.int .i64 s.st) ∧ W.cell? ⟨p, 1, none⟩ = some (.int .u64 s.was) ∧ W.cell? ⟨p, 2, none⟩ = some (.int .i64 T) ∧ W.cell? ⟨p, 3, none⟩ = some (.int .i64 S) ∧ W.cell? ⟨p, 4, none⟩ = some (.int .i64 L) ∧ W.cell? ⟨p, 5, none⟩ = some (.int .u64 G) ∧ W.cell? ⟨p, 6, none⟩ = some v) (((((W.setCell ⟨w.heap.size, 0, none⟩ u0).setCell ⟨w.heap.size, 1, none⟩ u1).setCell ⟨w.heap.size, 2, none⟩ u2).setCell ⟨w.heap.size, 3, none⟩ u3).setCell ⟨w.heap.size, 4, none⟩ u4) :=
  stay h (set5 hb u0 u1 u2 u3 u4).2

theorem deed_is {p : Nat} {w : World} {s : St} {x : Option D} {kd i a b y v : Int} (h0 : w.cell? ⟨p, 0, none⟩ = some (.int .i64 s.st)) (h1 : w.cell? ⟨p, 1, none⟩ = some (.int .u64 s.was)) (hs : Ok s) (hv : 0 ≤ v ∧ v < 18446744073709551616)
    (hx : x = if s.st = 1 then some (1, 3, 0, 0, 0) else if s.st = 2 then some (kd, i, a, b, y) else if s.st = 3 then some (3, 3, s.was, turnI s.was v, 0) else none) :
    Calls Try.prog 56 #[.pointer (some ⟨p, 0, none⟩), .agg #[.int .i64 kd, .int .i64 i, .int .u64 a, .int .u64 b, .int .u64 y], .int .u64 v] w (Told w x) := by
  obtain ⟨st, wa, lo⟩ := s
  obtain ⟨hs, hw, hl⟩ := hs
  simp only at h0 h1 hs hw hl hx
  subst hx
  rcases hs with rfl | rfl | rfl | rfl
  · exact deed_done h0 kd i a b y v
  · exact deed_look h0 kd i a b y v
  · exact deed_link h0 kd i a b y v
  · exact deed_turn h0 h1 hw kd i a b y v hv
set_option maxRecDepth 10000 in
theorem Push_next {p : Nat} {w : World} {T S L G i : Int} {s : St} (h : Pushes w p T S L G i s) : Calls Try.prog 54 #[.pointer (some ⟨p, 0, none⟩)] w (Told w (pushA T L i s)) := by
  have hbx := box_of_heap h.1
  obtain ⟨hs, hw, hl⟩ := h.2
  have HX := Lib.hid hbx
  have HL := Lib.hid fun W : World => Field.Low_any s.was hw.1 hw.2 W
  have hu : 0 ≤ IntKind.u64.wrap i ∧ IntKind.u64.wrap i < 18446744073709551616 := by rw [IntKind.wrap_u64]; omega
  have ht : turnI s.was (IntKind.u64.wrap i) = turnI s.was i := by rw [IntKind.wrap_u64]; unfold turnI; omega
  have HD := Lib.hid fun (W : World) (h0 : W.cell? ⟨p, 0, none⟩ = some (.int .i64 s.st)) (h1 : W.cell? ⟨p, 1, none⟩ = some (.int .u64 s.was)) =>
    deed_is (x := pushA T L i s) (kd := 2) (i := atI T L i 5) (a := s.was % 4294967296) (b := 0) (y := 0) (v := IntKind.u64.wrap i) h0 h1 h.2 hu (by rw [ht]; rfl)
  unfold Told at HD ⊢
  generalize (pushA T L i s).isSome = bo at HD ⊢
  generalize (pushA T L i s).getD (0, 0, 0, 0, 0) = d at HD ⊢
  generalize s.was % 4294967296 = lo at HL HD
  clear h hs hw hl hbx hu ht
  go_enter Try.func54, Try.ntmps54
  go_wp2
  go_region_held3 (fun W => W.cell? ⟨p, 0, none⟩ = some (.int .i64 s.st) ∧ W.cell? ⟨p, 1, none⟩ = some (.int .u64 s.was) ∧ W.cell? ⟨p, 2, none⟩ = some (.int .i64 T) ∧ W.cell? ⟨p, 3, none⟩ = some (.int .i64 S) ∧ W.cell? ⟨p, 4, none⟩ = some (.int .i64 L) ∧ W.cell? ⟨p, 5, none⟩ = some (.int .u64 G) ∧ W.cell? ⟨p, 6, none⟩ = some (.int .i64 i))
    ((first | (with_reducible exact stay_start HX.out) | (with_reducible assumption) | (with_reducible exact stay_past HX.out HB4.out) | (with_reducible exact stay_past HX.out HB2.out) | (with_reducible exact stay_set HX.out HB4.out _ _ _ _ _)))
    (first
      | (go_at_call 57; refine (Plan.Succ_any T S L G i _).mono ?_; rintro e w2 ⟨rfl, hb⟩; have HB2 := Lib.hid (show Below (w.alloc (.cells #[.int .i64 0, .int .i64 0, .int .u64 0, .int .u64 0, .int .u64 0] 31)).heap.size (w.alloc (.cells #[.int .i64 0, .int .i64 0, .int .u64 0, .int .u64 0, .int .u64 0] 31)) w2 from (Below.refl _ _).drew.trans hb); clear hb)
      | (go_at_call 58; refine (HL.out _).mono ?_; rintro e w3 ⟨rfl, rfl⟩)
      | (go_at_call 56; refine (HD.out _ (show (fun W : World => W.cell? ⟨p, 0, none⟩ = some (.int .i64 s.st) ∧ W.cell? ⟨p, 1, none⟩ = some (.int .u64 s.was) ∧ W.cell? ⟨p, 2, none⟩ = some (.int .i64 T) ∧ W.cell? ⟨p, 3, none⟩ = some (.int .i64 S) ∧ W.cell? ⟨p, 4, none⟩ = some (.int .i64 L) ∧ W.cell? ⟨p, 5, none⟩ = some (.int .u64 G) ∧ W.cell? ⟨p, 6, none⟩ = some (.int .i64 i)) _ by assumption).1 (show (fun W : World => W.cell? ⟨p, 0, none⟩ = some (.int .i64 s.st) ∧ W.cell? ⟨p, 1, none⟩ = some (.int .u64 s.was) ∧ W.cell? ⟨p, 2, none⟩ = some (.int .i64 T) ∧ W.cell? ⟨p, 3, none⟩ = some (.int .i64 S) ∧ W.cell? ⟨p, 4, none⟩ = some (.int .i64 L) ∧ W.cell? ⟨p, 5, none⟩ = some (.int .u64 G) ∧ W.cell? ⟨p, 6, none⟩ = some (.int .i64 i)) _ by assumption).2.1).mono ?_; rintro e w4 ⟨rfl, hb⟩; have HB4 := Lib.hid (show Below (w.alloc (.cells #[.int .i64 0, .int .i64 0, .int .u64 0, .int .u64 0, .int .u64 0] 31)).heap.size (w.alloc (.cells #[.int .i64 0, .int .i64 0, .int .u64 0, .int .u64 0, .int .u64 0] 31)) w4 from HB2.out.trans (hb.mono HB2.out.size)); obtain ⟨⟨r0, r1, r2, r3, r4⟩, g0, g1, g2, g3, g4⟩ := res5 HB4.out; clear hb))
  obtain ⟨⟨s0, s1, s2, s3, s4⟩, hB⟩ := set5 HB4.out (.int .i64 d.1) (.int .i64 d.2.1) (.int .u64 d.2.2.1) (.int .u64 d.2.2.2.1) (.int .u64 d.2.2.2.2)
  have HB := Lib.hid hB
  clear hB r0 r1 r2 r3 r4 g0 g1 g2 g3 g4
  go_wp2
  exact bodyPost_ret (v := .tuple #[.agg #[.int .i64 d.1, .int .i64 d.2.1, .int .u64 d.2.2.1, .int .u64 d.2.2.2.1, .int .u64 d.2.2.2.2], .bool bo]) (by simp [results, Try.results54, go_sem, s0, s1, s2, s3, s4]) rfl ⟨rfl, HB.out⟩
theorem ok_new2 : Ok ⟨1, 0, 0⟩ := by refine ⟨.inr (.inl rfl), ⟨?_, ?_⟩, ?_, ?_⟩ <;> decide
theorem Push_any (T S L G i : Int) (w : World) : Calls Try.prog 16 #[.agg #[.int .i64 T, .int .i64 S, .int .i64 L, .int .u64 G], .int .i64 i] w fun e w' => ∃ p, e = .returned (.pointer (some ⟨p, 0, none⟩)) ∧ Pushes w' p T S L G i ⟨1, 0, 0⟩ ∧ w.heap.size ≤ p ∧ Below w.heap.size w w' := by
  have HE := Lib.hid (show ∀ o cs, ((w.alloc o).alloc cs).heap[w.heap.size + 1]? = some cs from fun o cs => by have := new_heap (w.alloc o) cs; rwa [World.size_alloc] at this)
  obtain ⟨c_0, c_1, c_2, c_3⟩ := box4 w (.int .i64 T) (.int .i64 S) (.int .i64 L) (.int .u64 G) 24
  go_enter Try.func16, Try.ntmps16
  go_wp2
  go_ret
  exact ⟨_, rfl, ⟨HE.out _ _, ok_new2⟩, by simp, ((Below.refl _ _).alloc (Nat.le_refl _) _).alloc (by simp) _⟩
end Go.Proofs.Ytcnbbflgccdfjaa.Pool
