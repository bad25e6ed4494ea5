/- What a seeker asks for. -/
import Derived.Test.YtjefjkpomohpiaaGreatDoorSeekWalks
namespace Go.Proofs.YtjefjkpomohpiaaGreatDoor.Seek
set_option maxRecDepth 20000
open Go.ChangeShapes Go.WideShapes Go.RowKit CM DM PM KM Lay Ints Plan Go.Proofs.YtjefjkpomohpiaaGreatDoor.Task
set_option linter.unusedVariables false
set_option linter.unusedSimpArgs false

/-- What a task is asked for. -/
def ToldD (w : World) (d : D) (more : Bool) (e : Ending) (w' : World) : Prop :=
  e = .returned (.tuple #[.agg #[.int .i64 d.1, .int .i64 d.2.1, .int .u64 d.2.2.1, .int .u64 d.2.2.2.1, .int .u64 d.2.2.2.2], .bool more]) ∧ Below w.heap.size w w'
def Told (w : World) (x : Option D) : Ending → World → Prop := ToldD w (x.getD (0, 0, 0, 0, 0)) x.isSome

section
variable {w W : World} {p c1 c2 : Nat} {S : Nat → Prop} {T N L G dl sq st lv pr cu nx : Int} {ps ss : List Int} {A1 A2 : Option Addr}
/-- All that the regions read, in any later world. -/
theorem stay (h : Parts w p S T N L G dl sq ⟨st, lv, pr, cu, nx, ps, ss⟩ A1 c1 A2 c2) (hb : Below w.heap.size w W) : W.cell? ⟨p, 0, none⟩ = some (.int .i64 T) ∧ W.cell? ⟨p, 1, none⟩ = some (.int .i64 N) ∧ W.cell? ⟨p, 2, none⟩ = some (.int .i64 L) ∧ W.cell? ⟨p, 3, none⟩ = some (.int .u64 G) ∧ W.cell? ⟨p, 8, none⟩ = some (.int .u64 pr) ∧ W.cell? ⟨p, 9, none⟩ = some (.int .u64 cu) ∧ W.cell? ⟨p, 10, none⟩ = some (.int .u64 nx) := by
  obtain ⟨e0, e1, e2, e3, -, -, -, -, e8, e9, e10, -⟩ := (h.later hb).cells
  exact ⟨e0, e1, e2, e3, e8, e9, e10⟩
theorem stay_past (h : Parts w p S T N L G dl sq ⟨st, lv, pr, cu, nx, ps, ss⟩ A1 c1 A2 c2) (hb : Below (w.alloc (.cells #[.int .i64 0, .int .i64 0, .int .u64 0, .int .u64 0, .int .u64 0] 46)).heap.size (w.alloc (.cells #[.int .i64 0, .int .i64 0, .int .u64 0, .int .u64 0, .int .u64 0] 46)) W) : W.cell? ⟨p, 0, none⟩ = some (.int .i64 T) ∧ W.cell? ⟨p, 1, none⟩ = some (.int .i64 N) ∧ W.cell? ⟨p, 2, none⟩ = some (.int .i64 L) ∧ W.cell? ⟨p, 3, none⟩ = some (.int .u64 G) ∧ W.cell? ⟨p, 8, none⟩ = some (.int .u64 pr) ∧ W.cell? ⟨p, 9, none⟩ = some (.int .u64 cu) ∧ W.cell? ⟨p, 10, none⟩ = some (.int .u64 nx) := stay h ((box_below _ _).trans (hb.mono (by simp)))
theorem stay_start (h : Parts w p S T N L G dl sq ⟨st, lv, pr, cu, nx, ps, ss⟩ A1 c1 A2 c2) : (fun W : World => W.cell? ⟨p, 0, none⟩ = some (.int .i64 T) ∧ W.cell? ⟨p, 1, none⟩ = some (.int .i64 N) ∧ W.cell? ⟨p, 2, none⟩ = some (.int .i64 L) ∧ W.cell? ⟨p, 3, none⟩ = some (.int .u64 G) ∧ W.cell? ⟨p, 8, none⟩ = some (.int .u64 pr) ∧ W.cell? ⟨p, 9, none⟩ = some (.int .u64 cu) ∧ W.cell? ⟨p, 10, none⟩ = some (.int .u64 nx)) (w.alloc (.cells #[.int .i64 0, .int .i64 0, .int .u64 0, .int .u64 0, .int .u64 0] 46)).drew := stay_past h (Below.refl _ _).drew
theorem stay_set (h : Parts w p S T N L G dl sq ⟨st, lv, pr, cu, nx, ps, ss⟩ A1 c1 A2 c2) (hb : Below (w.alloc (.cells #[.int .i64 0, .int .i64 0, .int .u64 0, .int .u64 0, .int .u64 0] 46)).heap.size (w.alloc (.cells #[.int .i64 0, .int .i64 0, .int .u64 0, .int .u64 0, .int .u64 0] 46)) W) (u0 u1 u2 u3 u4 : Value) :
    (fun W : World => W.cell? ⟨p, 0, none⟩ = some (.int .i64 T) ∧ W.cell? ⟨p, 1, none⟩ = some (.int .i64 N) ∧ W.cell? ⟨p, 2, none⟩ = some (.int .i64 L) ∧ W.cell? ⟨p, 3, none⟩ = some (.int .u64 G) ∧ W.cell? ⟨p, 8, none⟩ = some (.int .u64 pr) ∧ W.cell? ⟨p, 9, none⟩ = some (.int .u64 cu) ∧ W.cell? ⟨p, 10, none⟩ = some (.int .u64 nx)) (((((W.setCell ⟨w.heap.size, 0, none⟩ u0).setCell ⟨w.heap.size, 1, none⟩ u1).setCell ⟨w.heap.size, 2, none⟩ u2).setCell ⟨w.heap.size, 3, none⟩ u3).setCell ⟨w.heap.size, 4, none⟩ u4) :=
  stay h (set5 hb u0 u1 u2 u3 u4).2
end

theorem load_any (i y : Int) (w : World) : Calls Tryz.prog 54 #[.int .i64 i, .int .u64 y] w fun e w' => e = .returned (.agg #[.int .i64 1, .int .i64 i, .int .u64 0, .int .u64 0, .int .u64 y]) ∧ Below w.heap.size w w' := by
  have HB := Lib.hid (box_below w)
  go_enter Tryz.func54, Tryz.ntmps54
  go_wp2
  exact bodyPost_ret (v := .agg #[.int .i64 1, .int .i64 i, .int .u64 0, .int .u64 0, .int .u64 y]) (by simp [results, Tryz.results54, go_sem]) rfl ⟨rfl, HB.out _⟩
theorem wayOn_any {w : World} {p c1 c2 : Nat} {S : Nat → Prop} {T N L G dl sq : Int} {s : St} {A1 A2 : Option Addr} (h : Parts w p S T N L G dl sq s A1 c1 A2 c2) {r : Int} (hr : 0 ≤ r ∧ r < 18446744073709551616) : Calls Tryz.prog 55 #[.pointer (some ⟨p, 0, none⟩), .int .u64 r] w fun e w' =>
    e = .returned (.int .i64 (nextI T L (idx r) s.lv)) ∧ Below w.heap.size w w' := by
  obtain ⟨e0, e1, e2, e3, -, -, -, e7, -⟩ := h.cells
  have K0 := fun p : After w => p.cell e0
  have K1 := fun p : After w => p.cell e1
  have K2 := fun p : After w => p.cell e2
  have K3 := fun p : After w => p.cell e3
  have K7 := fun p : After w => p.cell e7
  have HI := Lib.hid fun W => Refer.Index_any r hr.1 hr.2 W
  have HN := Lib.hid fun W => Plan.Next_any T N L G (idx r) s.lv W
  unfold idx at HN ⊢
  generalize r % 4294967296 / 2 = i at HI HN ⊢
  clear h hr e0 e1 e2 e3 e7
  go_enter Tryz.func55, Tryz.ntmps55
  go_wp2
  refine wp_region_after mixed (by kernel_rfl) ?_
  repeat (first | go_big_quiet_step ((first | (with_reducible exact calls_after_same (HI.out _)) | exact calls_after (HN.out _))) | quiet_step ((first | (with_reducible exact calls_after_same (HI.out _)) | exact calls_after (HN.out _))))
  refine wpQuiet_nil ?_
  intro _ hw'
  obtain ⟨pq, hw''⟩ := hw'
  subst hw''
  go_wp2
  go_ret
  exact ⟨rfl, pq.ok⟩
theorem next_0 {w : World} {p c1 c2 : Nat} {S : Nat → Prop} {T N L G dl sq lv pr cu nx : Int} {ps ss : List Int} {A1 A2 : Option Addr} (h : Parts w p S T N L G dl sq ⟨0, lv, pr, cu, nx, ps, ss⟩ A1 c1 A2 c2) : Calls Tryz.prog 40 #[.pointer (some ⟨p, 0, none⟩)] w (Told w none) := by
  obtain ⟨-, -, -, -, -, -, e6, -⟩ := h.cells
  simp only at e6
  have K6 := fun o => cell_later (box_below w o) e6
  have HB := Lib.hid (box_below w)
  clear h
  go_enter Tryz.func40, Tryz.ntmps40
  go_wp2
  exact bodyPost_ret (v := .tuple #[.agg #[.int .i64 0, .int .i64 0, .int .u64 0, .int .u64 0, .int .u64 0], .bool false]) (by simp [results, Tryz.results40, go_sem]) rfl ⟨rfl, HB.out _⟩
theorem next_1 {w : World} {p c1 c2 : Nat} {S : Nat → Prop} {T N L G dl sq lv pr cu nx : Int} {ps ss : List Int} {A1 A2 : Option Addr} (h : Parts w p S T N L G dl sq ⟨1, lv, pr, cu, nx, ps, ss⟩ A1 c1 A2 c2) (hr : 0 ≤ pr ∧ pr < 18446744073709551616) : Calls Tryz.prog 40 #[.pointer (some ⟨p, 0, none⟩)] w (Told w (some (1, nextI T L (idx pr) lv, 0, 0, pr))) := by
  obtain ⟨-, -, -, -, -, -, e6, -⟩ := h.cells
  simp only at e6
  have K6 := fun o => cell_later (box_below w o) e6
  have HX := Lib.hid h
  have HW := Lib.hid fun (W : World) (hb : Below w.heap.size w W) => wayOn_any (h.later hb) hr
  simp only at HW
  generalize nextI T L (idx pr) lv = i at HW ⊢
  clear h hr
  go_enter Tryz.func40, Tryz.ntmps40
  go_wp2
  go_region_held3 (fun W => W.cell? ⟨p, 0, none⟩ = some (.int .i64 T) ∧ W.cell? ⟨p, 1, none⟩ = some (.int .i64 N) ∧ W.cell? ⟨p, 2, none⟩ = some (.int .i64 L) ∧ W.cell? ⟨p, 3, none⟩ = some (.int .u64 G) ∧ W.cell? ⟨p, 8, none⟩ = some (.int .u64 pr) ∧ W.cell? ⟨p, 9, none⟩ = some (.int .u64 cu) ∧ W.cell? ⟨p, 10, none⟩ = some (.int .u64 nx))
    ((first | (with_reducible exact stay_start HX.out) | (with_reducible assumption) | (with_reducible exact stay_past HX.out HB4.out) | (with_reducible exact stay_past HX.out HB2.out) | (with_reducible exact stay_set HX.out HB4.out _ _ _ _ _)))
    (first
      | (go_at_call 55; refine (HW.out _ ((box_below w _).drew)).mono ?_; rintro e w2 ⟨rfl, hb⟩; have HB2 := Lib.hid (show Below (w.alloc (.cells #[.int .i64 0, .int .i64 0, .int .u64 0, .int .u64 0, .int .u64 0] 46)).heap.size (w.alloc (.cells #[.int .i64 0, .int .i64 0, .int .u64 0, .int .u64 0, .int .u64 0] 46)) w2 from (Below.refl _ _).drew.trans hb); clear hb)
      | (go_at_call 54; refine (load_any i pr _).mono ?_; rintro e w4 ⟨rfl, hb⟩; have HB4 := Lib.hid (show Below (w.alloc (.cells #[.int .i64 0, .int .i64 0, .int .u64 0, .int .u64 0, .int .u64 0] 46)).heap.size (w.alloc (.cells #[.int .i64 0, .int .i64 0, .int .u64 0, .int .u64 0, .int .u64 0] 46)) w4 from HB2.out.trans (hb.mono HB2.out.size)); obtain ⟨⟨r0, r1, r2, r3, r4⟩, g0, g1, g2, g3, g4⟩ := res5 HB4.out; clear hb))
  obtain ⟨⟨s0, s1, s2, s3, s4⟩, hB⟩ := set5 HB4.out (.int .i64 1) (.int .i64 i) (.int .u64 0) (.int .u64 0) (.int .u64 pr)
  have HB := Lib.hid hB
  clear hB r0 r1 r2 r3 r4 g0 g1 g2 g3 g4
  go_wp2
  exact bodyPost_ret (v := .tuple #[.agg #[.int .i64 1, .int .i64 i, .int .u64 0, .int .u64 0, .int .u64 pr], .bool true]) (by simp [results, Tryz.results40, go_sem, s0, s1, s2, s3, s4]) rfl ⟨rfl, HB.out⟩
theorem next_2 {w : World} {p c1 c2 : Nat} {S : Nat → Prop} {T N L G dl sq lv pr cu nx : Int} {ps ss : List Int} {A1 A2 : Option Addr} (h : Parts w p S T N L G dl sq ⟨2, lv, pr, cu, nx, ps, ss⟩ A1 c1 A2 c2) (hr : 0 ≤ cu ∧ cu < 18446744073709551616) : Calls Tryz.prog 40 #[.pointer (some ⟨p, 0, none⟩)] w (Told w (some (1, nextI T L (idx cu) lv, 0, 0, cu))) := by
  obtain ⟨-, -, -, -, -, -, e6, -⟩ := h.cells
  simp only at e6
  have K6 := fun o => cell_later (box_below w o) e6
  have HX := Lib.hid h
  have HW := Lib.hid fun (W : World) (hb : Below w.heap.size w W) => wayOn_any (h.later hb) hr
  simp only at HW
  generalize nextI T L (idx cu) lv = i at HW ⊢
  clear h hr
  go_enter Tryz.func40, Tryz.ntmps40
  go_wp2
  go_region_held3 (fun W => W.cell? ⟨p, 0, none⟩ = some (.int .i64 T) ∧ W.cell? ⟨p, 1, none⟩ = some (.int .i64 N) ∧ W.cell? ⟨p, 2, none⟩ = some (.int .i64 L) ∧ W.cell? ⟨p, 3, none⟩ = some (.int .u64 G) ∧ W.cell? ⟨p, 8, none⟩ = some (.int .u64 pr) ∧ W.cell? ⟨p, 9, none⟩ = some (.int .u64 cu) ∧ W.cell? ⟨p, 10, none⟩ = some (.int .u64 nx))
    ((first | (with_reducible exact stay_start HX.out) | (with_reducible assumption) | (with_reducible exact stay_past HX.out HB4.out) | (with_reducible exact stay_past HX.out HB2.out) | (with_reducible exact stay_set HX.out HB4.out _ _ _ _ _)))
    (first
      | (go_at_call 55; refine (HW.out _ ((box_below w _).drew)).mono ?_; rintro e w2 ⟨rfl, hb⟩; have HB2 := Lib.hid (show Below (w.alloc (.cells #[.int .i64 0, .int .i64 0, .int .u64 0, .int .u64 0, .int .u64 0] 46)).heap.size (w.alloc (.cells #[.int .i64 0, .int .i64 0, .int .u64 0, .int .u64 0, .int .u64 0] 46)) w2 from (Below.refl _ _).drew.trans hb); clear hb)
      | (go_at_call 54; refine (load_any i cu _).mono ?_; rintro e w4 ⟨rfl, hb⟩; have HB4 := Lib.hid (show Below (w.alloc (.cells #[.int .i64 0, .int .i64 0, .int .u64 0, .int .u64 0, .int .u64 0] 46)).heap.size (w.alloc (.cells #[.int .i64 0, .int .i64 0, .int .u64 0, .int .u64 0, .int .u64 0] 46)) w4 from HB2.out.trans (hb.mono HB2.out.size)); obtain ⟨⟨r0, r1, r2, r3, r4⟩, g0, g1, g2, g3, g4⟩ := res5 HB4.out; clear hb))
  obtain ⟨⟨s0, s1, s2, s3, s4⟩, hB⟩ := set5 HB4.out (.int .i64 1) (.int .i64 i) (.int .u64 0) (.int .u64 0) (.int .u64 cu)
  have HB := Lib.hid hB
  clear hB r0 r1 r2 r3 r4 g0 g1 g2 g3 g4
  go_wp2
  exact bodyPost_ret (v := .tuple #[.agg #[.int .i64 1, .int .i64 i, .int .u64 0, .int .u64 0, .int .u64 cu], .bool true]) (by simp [results, Tryz.results40, go_sem, s0, s1, s2, s3, s4]) rfl ⟨rfl, HB.out⟩
theorem next_3 {w : World} {p c1 c2 : Nat} {S : Nat → Prop} {T N L G dl sq lv pr cu nx : Int} {ps ss : List Int} {A1 A2 : Option Addr} (h : Parts w p S T N L G dl sq ⟨3, lv, pr, cu, nx, ps, ss⟩ A1 c1 A2 c2) (hr : 0 ≤ pr ∧ pr < 18446744073709551616) : Calls Tryz.prog 40 #[.pointer (some ⟨p, 0, none⟩)] w (Told w (some (3, nextI T L (idx pr) lv, cu, nx, pr))) := by
  obtain ⟨-, -, -, -, -, -, e6, -⟩ := h.cells
  simp only at e6
  have K6 := fun o => cell_later (box_below w o) e6
  have HX := Lib.hid h
  have HW := Lib.hid fun (W : World) (hb : Below w.heap.size w W) => wayOn_any (h.later hb) hr
  simp only at HW
  generalize nextI T L (idx pr) lv = i at HW ⊢
  clear h hr
  go_enter Tryz.func40, Tryz.ntmps40
  go_wp2
  go_region_held3 (fun W => W.cell? ⟨p, 0, none⟩ = some (.int .i64 T) ∧ W.cell? ⟨p, 1, none⟩ = some (.int .i64 N) ∧ W.cell? ⟨p, 2, none⟩ = some (.int .i64 L) ∧ W.cell? ⟨p, 3, none⟩ = some (.int .u64 G) ∧ W.cell? ⟨p, 8, none⟩ = some (.int .u64 pr) ∧ W.cell? ⟨p, 9, none⟩ = some (.int .u64 cu) ∧ W.cell? ⟨p, 10, none⟩ = some (.int .u64 nx))
    ((first | (with_reducible exact stay_start HX.out) | (with_reducible assumption) | (with_reducible exact stay_past HX.out HB2.out) | (with_reducible exact stay_set HX.out HB2.out _ _ _ _ _)))
    ((go_at_call 55; refine (HW.out _ ((box_below w _).drew)).mono ?_; rintro e w2 ⟨rfl, hb⟩; have HB2 := Lib.hid (show Below (w.alloc (.cells #[.int .i64 0, .int .i64 0, .int .u64 0, .int .u64 0, .int .u64 0] 46)).heap.size (w.alloc (.cells #[.int .i64 0, .int .i64 0, .int .u64 0, .int .u64 0, .int .u64 0] 46)) w2 from (Below.refl _ _).drew.trans hb); obtain ⟨⟨r0, r1, r2, r3, r4⟩, g0, g1, g2, g3, g4⟩ := res5 HB2.out; clear hb))
  obtain ⟨⟨s0, s1, s2, s3, s4⟩, hB⟩ := set5 HB2.out (.int .i64 3) (.int .i64 i) (.int .u64 cu) (.int .u64 nx) (.int .u64 pr)
  have HB := Lib.hid hB
  clear hB r0 r1 r2 r3 r4 g0 g1 g2 g3 g4
  go_wp2
  exact bodyPost_ret (v := .tuple #[.agg #[.int .i64 3, .int .i64 i, .int .u64 cu, .int .u64 nx, .int .u64 pr], .bool true]) (by simp [results, Tryz.results40, go_sem, s0, s1, s2, s3, s4]) rfl ⟨rfl, HB.out⟩
theorem next_4 {w : World} {p c1 c2 : Nat} {S : Nat → Prop} {T N L G dl sq lv pr cu nx : Int} {ps ss : List Int} {A1 A2 : Option Addr} (h : Parts w p S T N L G dl sq ⟨4, lv, pr, cu, nx, ps, ss⟩ A1 c1 A2 c2) (hr : 0 ≤ cu ∧ cu < 18446744073709551616) : Calls Tryz.prog 40 #[.pointer (some ⟨p, 0, none⟩)] w (Told w (some (1, atI T L (idx cu) 1, 0, 0, cu))) := by
  obtain ⟨-, -, -, -, -, -, e6, -⟩ := h.cells
  simp only at e6
  have K6 := fun o => cell_later (box_below w o) e6
  have HX := Lib.hid h
  have HI := Lib.hid fun W => Refer.Index_any cu hr.1 hr.2 W
  have HW := Lib.hid fun W => Plan.Dead_any T N L G (idx cu) W
  unfold idx at HW ⊢
  generalize cu % 4294967296 / 2 = j at HW HI ⊢
  generalize atI T L j 1 = i at HW ⊢
  clear h hr
  go_enter Tryz.func40, Tryz.ntmps40
  go_wp2
  go_region_held3 (fun W => W.cell? ⟨p, 0, none⟩ = some (.int .i64 T) ∧ W.cell? ⟨p, 1, none⟩ = some (.int .i64 N) ∧ W.cell? ⟨p, 2, none⟩ = some (.int .i64 L) ∧ W.cell? ⟨p, 3, none⟩ = some (.int .u64 G) ∧ W.cell? ⟨p, 8, none⟩ = some (.int .u64 pr) ∧ W.cell? ⟨p, 9, none⟩ = some (.int .u64 cu) ∧ W.cell? ⟨p, 10, none⟩ = some (.int .u64 nx))
    ((first | (with_reducible exact stay_start HX.out) | (with_reducible assumption) | (with_reducible exact stay_past HX.out HB4.out) | (with_reducible exact stay_past HX.out HB2.out) | (with_reducible exact stay_set HX.out HB4.out _ _ _ _ _)))
    (first
      | (go_at_call 4; refine (HI.out _).mono ?_; rintro e w1 ⟨rfl, rfl⟩)
      | (go_at_call 12; refine (HW.out _).mono ?_; rintro e w2 ⟨rfl, hb⟩; have HB2 := Lib.hid (show Below (w.alloc (.cells #[.int .i64 0, .int .i64 0, .int .u64 0, .int .u64 0, .int .u64 0] 46)).heap.size (w.alloc (.cells #[.int .i64 0, .int .i64 0, .int .u64 0, .int .u64 0, .int .u64 0] 46)) w2 from (Below.refl _ _).drew.trans hb); clear hb)
      | (go_at_call 54; refine (load_any i cu _).mono ?_; rintro e w4 ⟨rfl, hb⟩; have HB4 := Lib.hid (show Below (w.alloc (.cells #[.int .i64 0, .int .i64 0, .int .u64 0, .int .u64 0, .int .u64 0] 46)).heap.size (w.alloc (.cells #[.int .i64 0, .int .i64 0, .int .u64 0, .int .u64 0, .int .u64 0] 46)) w4 from HB2.out.trans (hb.mono HB2.out.size)); obtain ⟨⟨r0, r1, r2, r3, r4⟩, g0, g1, g2, g3, g4⟩ := res5 HB4.out; clear hb))
  obtain ⟨⟨s0, s1, s2, s3, s4⟩, hB⟩ := set5 HB4.out (.int .i64 1) (.int .i64 i) (.int .u64 0) (.int .u64 0) (.int .u64 cu)
  have HB := Lib.hid hB
  clear hB r0 r1 r2 r3 r4 g0 g1 g2 g3 g4
  go_wp2
  exact bodyPost_ret (v := .tuple #[.agg #[.int .i64 1, .int .i64 i, .int .u64 0, .int .u64 0, .int .u64 cu], .bool true]) (by simp [results, Tryz.results40, go_sem, s0, s1, s2, s3, s4]) rfl ⟨rfl, HB.out⟩
theorem next_5 {w : World} {p c1 c2 : Nat} {S : Nat → Prop} {T N L G dl sq lv pr cu nx : Int} {ps ss : List Int} {A1 A2 : Option Addr} (h : Parts w p S T N L G dl sq ⟨5, lv, pr, cu, nx, ps, ss⟩ A1 c1 A2 c2) (hr : 0 ≤ cu ∧ cu < 18446744073709551616) : Calls Tryz.prog 40 #[.pointer (some ⟨p, 0, none⟩)] w (Told w (some (1, atI T L (idx cu) 2, 0, 0, cu))) := by
  obtain ⟨-, -, -, -, -, -, e6, -⟩ := h.cells
  simp only at e6
  have K6 := fun o => cell_later (box_below w o) e6
  have HX := Lib.hid h
  have HI := Lib.hid fun W => Refer.Index_any cu hr.1 hr.2 W
  have HW := Lib.hid fun W => Plan.Seq_any T N L G (idx cu) W
  unfold idx at HW ⊢
  generalize cu % 4294967296 / 2 = j at HW HI ⊢
  generalize atI T L j 2 = i at HW ⊢
  clear h hr
  go_enter Tryz.func40, Tryz.ntmps40
  go_wp2
  go_region_held3 (fun W => W.cell? ⟨p, 0, none⟩ = some (.int .i64 T) ∧ W.cell? ⟨p, 1, none⟩ = some (.int .i64 N) ∧ W.cell? ⟨p, 2, none⟩ = some (.int .i64 L) ∧ W.cell? ⟨p, 3, none⟩ = some (.int .u64 G) ∧ W.cell? ⟨p, 8, none⟩ = some (.int .u64 pr) ∧ W.cell? ⟨p, 9, none⟩ = some (.int .u64 cu) ∧ W.cell? ⟨p, 10, none⟩ = some (.int .u64 nx))
    ((first | (with_reducible exact stay_start HX.out) | (with_reducible assumption) | (with_reducible exact stay_past HX.out HB4.out) | (with_reducible exact stay_past HX.out HB2.out) | (with_reducible exact stay_set HX.out HB4.out _ _ _ _ _)))
    (first
      | (go_at_call 4; refine (HI.out _).mono ?_; rintro e w1 ⟨rfl, rfl⟩)
      | (go_at_call 13; refine (HW.out _).mono ?_; rintro e w2 ⟨rfl, hb⟩; have HB2 := Lib.hid (show Below (w.alloc (.cells #[.int .i64 0, .int .i64 0, .int .u64 0, .int .u64 0, .int .u64 0] 46)).heap.size (w.alloc (.cells #[.int .i64 0, .int .i64 0, .int .u64 0, .int .u64 0, .int .u64 0] 46)) w2 from (Below.refl _ _).drew.trans hb); clear hb)
      | (go_at_call 54; refine (load_any i cu _).mono ?_; rintro e w4 ⟨rfl, hb⟩; have HB4 := Lib.hid (show Below (w.alloc (.cells #[.int .i64 0, .int .i64 0, .int .u64 0, .int .u64 0, .int .u64 0] 46)).heap.size (w.alloc (.cells #[.int .i64 0, .int .i64 0, .int .u64 0, .int .u64 0, .int .u64 0] 46)) w4 from HB2.out.trans (hb.mono HB2.out.size)); obtain ⟨⟨r0, r1, r2, r3, r4⟩, g0, g1, g2, g3, g4⟩ := res5 HB4.out; clear hb))
  obtain ⟨⟨s0, s1, s2, s3, s4⟩, hB⟩ := set5 HB4.out (.int .i64 1) (.int .i64 i) (.int .u64 0) (.int .u64 0) (.int .u64 cu)
  have HB := Lib.hid hB
  clear hB r0 r1 r2 r3 r4 g0 g1 g2 g3 g4
  go_wp2
  exact bodyPost_ret (v := .tuple #[.agg #[.int .i64 1, .int .i64 i, .int .u64 0, .int .u64 0, .int .u64 cu], .bool true]) (by simp [results, Tryz.results40, go_sem, s0, s1, s2, s3, s4]) rfl ⟨rfl, HB.out⟩
theorem Next_any {w : World} {p k : Nat} {S : Nat → Prop} {T N L G dl sq : Int} {s : St} (h : Seeks w p S T N L G dl sq k s) : Calls Tryz.prog 40 #[.pointer (some ⟨p, 0, none⟩)] w (Told w (seekA T L s)) := by
  obtain ⟨ho, hL, A1, c1, A2, c2, h⟩ := h
  obtain ⟨st, lv, pr, cu, nx, ps, ss⟩ := s
  obtain ⟨h1, h2, h3, h4, h5, h6, h7⟩ := ho
  simp only at h1 h2 h3 h4 h5 h6 h7
  rcases h1 with rfl | rfl | rfl | rfl | rfl | rfl
  · rw [seekA_0]; exact next_0 h
  · rw [seekA_1]; exact next_1 h h3
  · rw [seekA_2]; exact next_2 h h4
  · rw [seekA_3]; exact next_3 h h3
  · rw [seekA_4]; exact next_4 h h4
  · rw [seekA_5]; exact next_5 h h4
end Go.Proofs.YtjefjkpomohpiaaGreatDoor.Seek
