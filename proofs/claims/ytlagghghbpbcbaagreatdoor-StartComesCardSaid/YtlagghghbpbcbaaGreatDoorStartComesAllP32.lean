import Derived.Test.YtlagghghbpbcbaaGreatDoorStartComesAllP1
import Derived.Test.YtlagghghbpbcbaaGreatDoorStartComesAllP12
import Derived.Test.YtlagghghbpbcbaaGreatDoorStartComesAllP16
import Derived.Deep.DeepCutAuto
import Derived.Deep.RegionHeld3
/- Package wake (layer 28), held to plain arithmetic: what a waker asks for, what it becomes when it is told; a new one; all else in memory stays as it was. -/
namespace Go.Proofs.YtlagghghbpbcbaaGreatDoor.Wkr
set_option maxRecDepth 20000
open Go.ChangeShapes Go.WideShapes Go.RowKit CM DM PM WkM Lay Plan Go.Proofs.YtlagghghbpbcbaaGreatDoor.Task
set_option linter.unusedVariables false
set_option linter.unusedSimpArgs false

/-- What a task is asked for. -/
def ToldD (w : World) (d : D) (more : Bool) (e : Ending) (w' : World) : Prop :=
  e = .returned (.tuple #[.agg #[.int .i64 d.1, .int .i64 d.2.1, .int .u64 d.2.2.1, .int .u64 d.2.2.2.1, .int .u64 d.2.2.2.2], .bool more]) ∧ Below w.heap.size w w'
def Told (w : World) (x : Option D) : Ending → World → Prop := ToldD w (x.getD (0, 0, 0, 0, 0)) x.isSome

/-- A waker in block p, word by word: its turn, the plan, the word of the deadline and 1. -/
def Raw (w : World) (p : Nat) (T N L G tl n : Int) : Prop := w.heap[p]? = some (.cells #[.int .u64 n, .int .i64 T, .int .i64 N, .int .i64 L, .int .u64 G, .int .u64 tl] 222 (0, 0))
theorem only_set (w : World) (p j : Nat) (v : Value) : Only (fun k => k = p) w (w.setCell ⟨p, j, none⟩ v) := only_setCell (R := fun k => k = p) w (p := ⟨p, j, none⟩) rfl v
section
variable {w w' : World} {p : Nat} {T N L G tl n : Int}
theorem Raw.lt (h : Raw w p T N L G tl n) : p < w.heap.size := (Array.getElem?_eq_some_iff.1 h).1
theorem Raw.only {R : Nat → Prop} (h : Raw w p T N L G tl n) (ho : Only R w w') (hp : ¬ R p) : Raw w' p T N L G tl n := ho.heap h hp
theorem Raw.later (h : Raw w p T N L G tl n) (hb : Below w.heap.size w w') : Raw w' p T N L G tl n := h.only (only_below (fun _ => False) hb) id
theorem Raw.cells (h : Raw w p T N L G tl n) : w.cell? ⟨p, 0, none⟩ = some (.int .u64 n) ∧ w.cell? ⟨p, 1, none⟩ = some (.int .i64 T) ∧ w.cell? ⟨p, 2, none⟩ = some (.int .i64 N) ∧ w.cell? ⟨p, 3, none⟩ = some (.int .i64 L) ∧ w.cell? ⟨p, 4, none⟩ = some (.int .u64 G) ∧
    w.cell? ⟨p, 5, none⟩ = some (.int .u64 tl) := by
  have hc := fun j => (cell_heap h j).1
  exact ⟨hc 0, hc 1, hc 2, hc 3, hc 4, hc 5⟩
theorem Raw.thawed (h : Raw w p T N L G tl n) (j : Nat) : w.frozen? ⟨p, j, none⟩ = false := (cell_heap h j).2
theorem Raw.set_n (h : Raw w p T N L G tl n) (v : Int) : Raw (w.setCell ⟨p, 0, none⟩ (.int .u64 v)) p T N L G tl v := set_heap (j := 0) h (.int .u64 v)
end

theorem thread_any {n j : Int} (hn : 0 ≤ n ∧ n < 18446744073709551616) (hj : n / 2 = j) (w : World) : Calls Tryz.prog 238 #[.int .u64 n] w fun e w' => e = .returned (.int .i64 j) ∧ w = w' := by
  have h1 : n.tdiv 2 = j := by rw [Int.tdiv_eq_ediv_of_nonneg hn.1]; exact hj
  have h2 : IntKind.i64.wrap j = j := by rw [IntKind.wrap_i64]; omega
  have h3 : IntKind.u64.wrap j = j := by rw [IntKind.wrap_u64]; omega
  clear hj
  go_enter Tryz.func238, Tryz.ntmps238
  go_wp2
  go_ret
  exact ⟨rfl, rfl⟩
theorem wakes_any {n : Int} {b : Bool} (hn : 0 ≤ n) (hb : decide (n % 2 = 1) = b) (w : World) : Calls Tryz.prog 236 #[.int .u64 n] w fun e w' => e = .returned (.bool b) ∧ w = w' := by
  have h1 : n.tmod 2 = n % 2 := Int.tmod_eq_emod_of_nonneg hn
  have h3 : IntKind.u64.wrap (n % 2) = n % 2 := by rw [IntKind.wrap_u64]; omega
  have h2 : (n % 2 == 1) = b := by rw [← hb]; rfl
  clear hb
  generalize n % 2 = r at h1 h2 h3
  go_enter Tryz.func236, Tryz.ntmps236
  go_wp2
  go_ret
  exact ⟨rfl, rfl⟩
theorem wake_any {w : World} {p : Nat} {T N L G tl n : Int} (h : Raw w p T N L G tl n) (hn : 0 ≤ n ∧ n + 1 < 18446744073709551616) : Calls Tryz.prog 240 #[.pointer (some ⟨p, 0, none⟩)] w fun e w' => e = .returned (.tuple #[]) ∧ Raw w' p T N L G tl (n + 1) ∧ Only (fun k => k = p) w w' := by
  have c_0 := h.cells.1
  have f_0 := h.thawed 0
  have HA := Lib.hid (h.set_n (n + 1))
  have HO := Lib.hid (only_set w p 0 (.int .u64 (n + 1)))
  have h1 : IntKind.u64.wrap (n + 1) = n + 1 := by rw [IntKind.wrap_u64]; omega
  clear h
  go_enter Tryz.func240, Tryz.ntmps240
  go_wp2
  exact bodyPost_end (results_none rfl _ _ _) rfl ⟨rfl, HA.out, HO.out⟩
theorem pass_any {w : World} {p : Nat} {T N L G tl n : Int} {m : Int} (h : Raw w p T N L G tl n) (hn : 0 ≤ n) (hm : n + (2 - n % 2) = m) (hlt : m < 18446744073709551616) : Calls Tryz.prog 234 #[.pointer (some ⟨p, 0, none⟩)] w fun e w' => e = .returned (.tuple #[]) ∧ Raw w' p T N L G tl m ∧ Only (fun k => k = p) w w' := by
  have c_0 := h.cells.1
  have f_0 := h.thawed 0
  have HA := Lib.hid (h.set_n m)
  have HO := Lib.hid (only_set w p 0 (.int .u64 m))
  have h1 : n.tmod 2 = n % 2 := Int.tmod_eq_emod_of_nonneg hn
  have h2 : IntKind.u64.wrap (2 - n % 2) = 2 - n % 2 := by rw [IntKind.wrap_u64]; omega
  have h3 : IntKind.u64.wrap (n + (2 - n % 2)) = m := by rw [IntKind.wrap_u64]; omega
  have h4 : IntKind.u64.wrap (n % 2) = n % 2 := by rw [IntKind.wrap_u64]; omega
  clear h hm
  go_enter Tryz.func234, Tryz.ntmps234
  go_wp2
  go_region
  go_wp2
  exact bodyPost_end (results_none rfl _ _ _) rfl ⟨rfl, HA.out, HO.out.trans (only_drew _ _)⟩
theorem done_any {w : World} {p : Nat} {T N L G tl n : Int} {j : Int} {b : Bool} (h : Raw w p T N L G tl n) (hn : 0 ≤ n ∧ n < 18446744073709551616) (hj : n / 2 = j) (hb : decide (T ≤ j) = b) : Calls Tryz.prog 235 #[.pointer (some ⟨p, 0, none⟩)] w fun e w' => e = .returned (.bool b) ∧ Below w.heap.size w w' := by
  obtain ⟨c_0, c_1, -⟩ := h.cells
  have C0 := fun q : After w => q.cell c_0
  have C1 := fun q : After w => q.cell c_1
  have HT := Lib.hid (fun W => thread_any hn hj W)
  have hge : decide (j ≥ T) = b := hb
  clear h hn hj c_0 c_1
  go_enter Tryz.func235, Tryz.ntmps235
  go_wp2
  refine wp_region_after mixed (by kernel_rfl) ?_
  repeat (first | go_big_quiet_step ((with_reducible exact calls_after_same (HT.out _))) | quiet_step ((with_reducible exact calls_after_same (HT.out _))))
  refine wpQuiet_nil ?_
  intro _ hw'
  obtain ⟨pq, hw''⟩ := hw'
  subst hw''
  have HQ := Lib.hid pq.ok
  go_wp2
  go_ret
  exact ⟨rfl, HQ.out⟩

theorem stay {w : World} {p : Nat} {T N L G tl n : Int} (h : Raw w p T N L G tl n) : (fun W : World => W.cell? ⟨p, 0, none⟩ = some (.int .u64 n) ∧ W.cell? ⟨p, 1, none⟩ = some (.int .i64 T) ∧ W.cell? ⟨p, 2, none⟩ = some (.int .i64 N) ∧ W.cell? ⟨p, 3, none⟩ = some (.int .i64 L) ∧ W.cell? ⟨p, 4, none⟩ = some (.int .u64 G)) w := by
  obtain ⟨e0, e1, e2, e3, e4, e5⟩ := h.cells
  exact ⟨e0, e1, e2, e3, e4⟩
theorem raw_past {w : World} {p : Nat} {T N L G tl n : Int} {W : World} (h : Raw w p T N L G tl n) (hb : Below (w.alloc (.cells #[.int .i64 0, .int .i64 0, .int .u64 0, .int .u64 0, .int .u64 0] 63)).heap.size (w.alloc (.cells #[.int .i64 0, .int .i64 0, .int .u64 0, .int .u64 0, .int .u64 0] 63)) W) : Raw W p T N L G tl n := h.only (only_below (fun _ => False) ((box_below w (.cells #[.int .i64 0, .int .i64 0, .int .u64 0, .int .u64 0, .int .u64 0] 63)).trans (hb.mono (by simp)))) id
theorem stay_past {w : World} {p : Nat} {T N L G tl n : Int} {W : World} (h : Raw w p T N L G tl n) (hb : Below (w.alloc (.cells #[.int .i64 0, .int .i64 0, .int .u64 0, .int .u64 0, .int .u64 0] 63)).heap.size (w.alloc (.cells #[.int .i64 0, .int .i64 0, .int .u64 0, .int .u64 0, .int .u64 0] 63)) W) : (fun W : World => W.cell? ⟨p, 0, none⟩ = some (.int .u64 n) ∧ W.cell? ⟨p, 1, none⟩ = some (.int .i64 T) ∧ W.cell? ⟨p, 2, none⟩ = some (.int .i64 N) ∧ W.cell? ⟨p, 3, none⟩ = some (.int .i64 L) ∧ W.cell? ⟨p, 4, none⟩ = some (.int .u64 G)) W := stay (raw_past h hb)
theorem stay_set {w : World} {p : Nat} {T N L G tl n : Int} {W : World} (h : Raw w p T N L G tl n) (hb : Below (w.alloc (.cells #[.int .i64 0, .int .i64 0, .int .u64 0, .int .u64 0, .int .u64 0] 63)).heap.size (w.alloc (.cells #[.int .i64 0, .int .i64 0, .int .u64 0, .int .u64 0, .int .u64 0] 63)) W) (u0 u1 u2 u3 u4 : Value) : (fun W : World => W.cell? ⟨p, 0, none⟩ = some (.int .u64 n) ∧ W.cell? ⟨p, 1, none⟩ = some (.int .i64 T) ∧ W.cell? ⟨p, 2, none⟩ = some (.int .i64 N) ∧ W.cell? ⟨p, 3, none⟩ = some (.int .i64 L) ∧ W.cell? ⟨p, 4, none⟩ = some (.int .u64 G)) ((((((W.setCell ⟨w.heap.size, 0, none⟩ u0).setCell ⟨w.heap.size, 1, none⟩ u1).setCell ⟨w.heap.size, 2, none⟩ u2).setCell ⟨w.heap.size, 3, none⟩ u3).setCell ⟨w.heap.size, 4, none⟩ u4)) := by
  have hp := h.lt
  have ho : ∀ (W : World) (j : Nat) (v : Value), Only (fun k => k = w.heap.size) W (W.setCell ⟨w.heap.size, j, none⟩ v) := fun W j v => only_set W w.heap.size j v
  exact stay ((raw_past h hb).only ((((((ho W 0 u0).trans (ho _ 1 u1)).trans (ho _ 2 u2)).trans (ho _ 3 u3)).trans (ho _ 4 u4))) (show ¬ p = w.heap.size by omega))
theorem next_done {w : World} {p : Nat} {T N L G tl n : Int} {j : Int} (h : Raw w p T N L G tl n) (hn : 0 ≤ n ∧ n < 18446744073709551616) (hj : n / 2 = j) (hb : T ≤ j) : Calls Tryz.prog 232 #[.pointer (some ⟨p, 0, none⟩)] w (Told w none) := by
  have HD := Lib.hid (done_any (h.later (box_below w (.cells #[.int .i64 0, .int .i64 0, .int .u64 0, .int .u64 0, .int .u64 0] 63))) hn hj (decide_eq_true hb))
  clear h hn hj hb
  go_enter Tryz.func232, Tryz.ntmps232
  go_wp2_with fail
  refine HD.out.mono ?_
  rintro e w1 ⟨rfl, b1⟩
  obtain ⟨⟨r0, r1, r2, r3, r4⟩, g0, g1, g2, g3, g4⟩ := res5 b1
  obtain ⟨⟨s0, s1, s2, s3, s4⟩, hB⟩ := set5 b1 (.int .i64 0) (.int .i64 0) (.int .u64 0) (.int .u64 0) (.int .u64 0)
  have HB := Lib.hid hB
  clear hB b1
  go_wp2
  exact bodyPost_ret (v := .tuple #[.agg #[.int .i64 0, .int .i64 0, .int .u64 0, .int .u64 0, .int .u64 0], .bool false]) (by simp [results, Tryz.results232, go_sem, s0, s1, s2, s3, s4]) rfl ⟨rfl, HB.out⟩
theorem next_look {w : World} {p : Nat} {T N L G tl n : Int} {j : Int} (h : Raw w p T N L G tl n) (hn : 0 ≤ n ∧ n < 18446744073709551616) (hj : n / 2 = j) (hb : ¬ T ≤ j) (hw : decide (n % 2 = 1) = false) : Calls Tryz.prog 232 #[.pointer (some ⟨p, 0, none⟩)] w (Told w (some (1, ofI T 1 j, 0, 0, 0))) := by
  have HX := Lib.hid h
  have HD := Lib.hid (done_any (h.later (box_below w (.cells #[.int .i64 0, .int .i64 0, .int .u64 0, .int .u64 0, .int .u64 0] 63))) hn hj (decide_eq_false hb))
  have HW := Lib.hid fun W => wakes_any hn.1 hw W
  have HT := Lib.hid fun W => thread_any hn hj W
  have HS := Lib.hid fun W => Plan.Sleep_any T N L G j W
  generalize ofI T 1 j = pl at HS ⊢
  clear h hn hj hb hw
  go_enter Tryz.func232, Tryz.ntmps232
  go_wp2_with fail
  refine HD.out.mono ?_
  rintro e w1 ⟨rfl, b1⟩
  have HB1 := Lib.hid (show Below (w.alloc (.cells #[.int .i64 0, .int .i64 0, .int .u64 0, .int .u64 0, .int .u64 0] 63)).heap.size (w.alloc (.cells #[.int .i64 0, .int .i64 0, .int .u64 0, .int .u64 0, .int .u64 0] 63)) w1 from b1)
  have HS0 := Lib.hid (show (fun W : World => W.cell? ⟨p, 0, none⟩ = some (.int .u64 n) ∧ W.cell? ⟨p, 1, none⟩ = some (.int .i64 T) ∧ W.cell? ⟨p, 2, none⟩ = some (.int .i64 N) ∧ W.cell? ⟨p, 3, none⟩ = some (.int .i64 L) ∧ W.cell? ⟨p, 4, none⟩ = some (.int .u64 G)) w1.drew from stay_past HX.out HB1.out.drew)
  have c_0 := (raw_past HX.out b1).cells.1
  clear b1
  go_wp2_with fail
  refine (HW.out _).mono ?_
  rintro e w' ⟨rfl, rfl⟩
  go_wp2_with fail
  go_region_held3 (fun W => W.cell? ⟨p, 0, none⟩ = some (.int .u64 n) ∧ W.cell? ⟨p, 1, none⟩ = some (.int .i64 T) ∧ W.cell? ⟨p, 2, none⟩ = some (.int .i64 N) ∧ W.cell? ⟨p, 3, none⟩ = some (.int .i64 L) ∧ W.cell? ⟨p, 4, none⟩ = some (.int .u64 G))
    ((first | (with_reducible exact HS0.out) | (with_reducible assumption) | (with_reducible exact HS4.out) | (with_reducible exact stay_set HX.out HB4.out _ _ _ _ _)))
    (first
      | (go_at_call 238; refine (HT.out _).mono ?_; rintro e w3 ⟨rfl, rfl⟩)
      | (go_at_call 239; refine (HS.out _).mono ?_; rintro e w4 ⟨rfl, hb⟩; have HB4 := Lib.hid (show Below (w.alloc (.cells #[.int .i64 0, .int .i64 0, .int .u64 0, .int .u64 0, .int .u64 0] 63)).heap.size (w.alloc (.cells #[.int .i64 0, .int .i64 0, .int .u64 0, .int .u64 0, .int .u64 0] 63)) w4 from HB1.out.drew.trans (hb.mono HB1.out.drew.size)); have HS4 := Lib.hid (stay_past HX.out HB4.out); obtain ⟨⟨r0, r1, r2, r3, r4⟩, q0, q1, q2, q3, q4⟩ := res5 HB4.out; clear hb))
  all_goals obtain ⟨⟨s0, s1, s2, s3, s4⟩, hB⟩ := set5 HB4.out (.int .i64 1) (.int .i64 pl) (.int .u64 0) (.int .u64 0) (.int .u64 0)
  all_goals have HB := Lib.hid hB
  all_goals clear hB r0 r1 r2 r3 r4 q0 q1 q2 q3 q4
  all_goals go_wp2
  all_goals exact bodyPost_ret (v := .tuple #[.agg #[.int .i64 1, .int .i64 pl, .int .u64 0, .int .u64 0, .int .u64 0], .bool true]) (by simp [results, Tryz.results232, go_sem, s0, s1, s2, s3, s4]) rfl ⟨rfl, HB.out⟩
theorem next_wake {w : World} {p : Nat} {T N L G tl n : Int} {j : Int} (h : Raw w p T N L G tl n) (hn : 0 ≤ n ∧ n < 18446744073709551616) (hj : n / 2 = j) (hb : ¬ T ≤ j) (hw : decide (n % 2 = 1) = true) : Calls Tryz.prog 232 #[.pointer (some ⟨p, 0, none⟩)] w (Told w (some (4, ofI T 2 j, 1, 0, 0))) := by
  have HX := Lib.hid h
  have HD := Lib.hid (done_any (h.later (box_below w (.cells #[.int .i64 0, .int .i64 0, .int .u64 0, .int .u64 0, .int .u64 0] 63))) hn hj (decide_eq_false hb))
  have HW := Lib.hid fun W => wakes_any hn.1 hw W
  have HT := Lib.hid fun W => thread_any hn hj W
  have HS := Lib.hid fun W => Plan.Sem_any T N L G j W
  generalize ofI T 2 j = pl at HS ⊢
  clear h hn hj hb hw
  go_enter Tryz.func232, Tryz.ntmps232
  go_wp2_with fail
  refine HD.out.mono ?_
  rintro e w1 ⟨rfl, b1⟩
  have HB1 := Lib.hid (show Below (w.alloc (.cells #[.int .i64 0, .int .i64 0, .int .u64 0, .int .u64 0, .int .u64 0] 63)).heap.size (w.alloc (.cells #[.int .i64 0, .int .i64 0, .int .u64 0, .int .u64 0, .int .u64 0] 63)) w1 from b1)
  have HS0 := Lib.hid (show (fun W : World => W.cell? ⟨p, 0, none⟩ = some (.int .u64 n) ∧ W.cell? ⟨p, 1, none⟩ = some (.int .i64 T) ∧ W.cell? ⟨p, 2, none⟩ = some (.int .i64 N) ∧ W.cell? ⟨p, 3, none⟩ = some (.int .i64 L) ∧ W.cell? ⟨p, 4, none⟩ = some (.int .u64 G)) w1.drew from stay_past HX.out HB1.out.drew)
  have c_0 := (raw_past HX.out b1).cells.1
  clear b1
  go_wp2_with fail
  refine (HW.out _).mono ?_
  rintro e w' ⟨rfl, rfl⟩
  go_wp2_with fail
  go_region_held3 (fun W => W.cell? ⟨p, 0, none⟩ = some (.int .u64 n) ∧ W.cell? ⟨p, 1, none⟩ = some (.int .i64 T) ∧ W.cell? ⟨p, 2, none⟩ = some (.int .i64 N) ∧ W.cell? ⟨p, 3, none⟩ = some (.int .i64 L) ∧ W.cell? ⟨p, 4, none⟩ = some (.int .u64 G))
    ((first | (with_reducible exact HS0.out) | (with_reducible assumption) | (with_reducible exact HS4.out) | (with_reducible exact stay_set HX.out HB4.out _ _ _ _ _)))
    (first
      | (go_at_call 238; refine (HT.out _).mono ?_; rintro e w3 ⟨rfl, rfl⟩)
      | (go_at_call 237; refine (HS.out _).mono ?_; rintro e w4 ⟨rfl, hb⟩; have HB4 := Lib.hid (show Below (w.alloc (.cells #[.int .i64 0, .int .i64 0, .int .u64 0, .int .u64 0, .int .u64 0] 63)).heap.size (w.alloc (.cells #[.int .i64 0, .int .i64 0, .int .u64 0, .int .u64 0, .int .u64 0] 63)) w4 from HB1.out.drew.trans (hb.mono HB1.out.drew.size)); have HS4 := Lib.hid (stay_past HX.out HB4.out); obtain ⟨⟨r0, r1, r2, r3, r4⟩, q0, q1, q2, q3, q4⟩ := res5 HB4.out; clear hb))
  all_goals obtain ⟨⟨s0, s1, s2, s3, s4⟩, hB⟩ := set5 HB4.out (.int .i64 4) (.int .i64 pl) (.int .u64 1) (.int .u64 0) (.int .u64 0)
  all_goals have HB := Lib.hid hB
  all_goals clear hB r0 r1 r2 r3 r4 q0 q1 q2 q3 q4
  all_goals go_wp2
  all_goals exact bodyPost_ret (v := .tuple #[.agg #[.int .i64 4, .int .i64 pl, .int .u64 1, .int .u64 0, .int .u64 0], .bool true]) (by simp [results, Tryz.results232, go_sem, s0, s1, s2, s3, s4]) rfl ⟨rfl, HB.out⟩
theorem tell_done {w : World} {p : Nat} {T N L G tl n : Int} {j x : Int} (h : Raw w p T N L G tl n) (hn : 0 ≤ n ∧ n < 18446744073709551616) (hj : n / 2 = j) (hb : T ≤ j) : Calls Tryz.prog 233 #[.pointer (some ⟨p, 0, none⟩), .int .u64 x] w fun e w' => e = .returned (.tuple #[]) ∧ Raw w' p T N L G tl n ∧ Only (fun k => k = p) w w' := by
  have HX := Lib.hid h
  have HD := Lib.hid (done_any h hn hj (decide_eq_true hb))
  clear h hn hj hb
  go_enter Tryz.func233, Tryz.ntmps233
  go_wp2_with fail
  refine HD.out.mono ?_
  rintro e w1 ⟨rfl, b1⟩
  have HE := Lib.hid (And.intro (HX.out.later b1) (only_below (fun k => k = p) b1))
  clear b1
  go_wp2
  exact bodyPost_ret (v := .tuple #[]) (results_none rfl _ _ _) rfl ⟨rfl, HE.out.1, HE.out.2⟩
/-- A thread that was asked, and sleeps too long. -/
theorem tell_long {w : World} {p : Nat} {T N L G tl n : Int} {j x : Int} (h : Raw w p T N L G tl n) (hn : 0 ≤ n ∧ n + 1 < 18446744073709551616) (hj : n / 2 = j) (hb : ¬ T ≤ j) (hw : n % 2 = 0) (hx : tl < x) : Calls Tryz.prog 233 #[.pointer (some ⟨p, 0, none⟩), .int .u64 x] w fun e w' => e = .returned (.tuple #[]) ∧ Raw w' p T N L G tl (n + 1) ∧ Only (fun k => k = p) w w' := by
  have HX := Lib.hid h
  have HD := Lib.hid (done_any h ⟨hn.1, by omega⟩ hj (decide_eq_false hb))
  have HW := Lib.hid fun W => wakes_any (b := false) hn.1 (decide_eq_false (by omega)) W
  have HN := Lib.hid hn
  clear h hn hj hb hw
  go_enter Tryz.func233, Tryz.ntmps233
  go_wp2_with fail
  refine HD.out.mono ?_
  rintro e w1 ⟨rfl, b1⟩
  have H1 := Lib.hid (And.intro (HX.out.later b1) (only_below (fun k => k = p) b1))
  obtain ⟨c_0, -, -, -, -, c_5⟩ := H1.out.1.cells
  clear b1
  go_wp2_with fail
  refine (HW.out _).mono ?_
  rintro e w' ⟨rfl, rfl⟩
  go_wp2_with fail
  refine (wake_any H1.out.1 HN.out).mono ?_
  rintro e w2 ⟨rfl, h2, o2⟩
  have HE := Lib.hid (And.intro h2 (H1.out.2.trans o2))
  clear h2 o2
  go_wp2
  exact bodyPost_ret (v := .tuple #[]) (results_none rfl _ _ _) rfl ⟨rfl, HE.out.1, HE.out.2⟩
/-- Goes on to the next thread. -/
theorem tell_not {w : World} {p : Nat} {T N L G tl n : Int} {j m x : Int} (h : Raw w p T N L G tl n) (hn : 0 ≤ n ∧ n < 18446744073709551616) (hj : n / 2 = j) (hb : ¬ T ≤ j) (hm : n + (2 - n % 2) = m) (hlt : m < 18446744073709551616) (hw : n % 2 = 0) (hx : ¬ tl < x) : Calls Tryz.prog 233 #[.pointer (some ⟨p, 0, none⟩), .int .u64 x] w fun e w' => e = .returned (.tuple #[]) ∧ Raw w' p T N L G tl m ∧ Only (fun k => k = p) w w' := by
  have HX := Lib.hid h
  have HD := Lib.hid (done_any h hn hj (decide_eq_false hb))
  have HW := Lib.hid fun W => wakes_any (b := false) hn.1 (by rw [hw]; rfl) W
  have HP := Lib.hid fun (W : World) (hr : Raw W p T N L G tl n) => pass_any hr hn.1 hm hlt
  clear h hn hj hb hw hm hlt
  go_enter Tryz.func233, Tryz.ntmps233
  go_wp2_with fail
  refine HD.out.mono ?_
  rintro e w1 ⟨rfl, b1⟩
  have H1 := Lib.hid (And.intro (HX.out.later b1) (only_below (fun k => k = p) b1))
  obtain ⟨c_0, -, -, -, -, c_5⟩ := H1.out.1.cells
  clear b1
  go_wp2_with fail
  refine (HW.out _).mono ?_
  rintro e w' ⟨rfl, rfl⟩
  go_wp2_with fail
  refine (HP.out _ H1.out.1).mono ?_
  rintro e w2 ⟨rfl, h2, o2⟩
  have HE := Lib.hid (And.intro h2 (H1.out.2.trans o2))
  clear h2 o2
  go_wp2
  exact bodyPost_end (results_none rfl _ _ _) rfl ⟨rfl, HE.out.1, HE.out.2⟩
theorem tell_add {w : World} {p : Nat} {T N L G tl n : Int} {j m x : Int} (h : Raw w p T N L G tl n) (hn : 0 ≤ n ∧ n < 18446744073709551616) (hj : n / 2 = j) (hb : ¬ T ≤ j) (hm : n + (2 - n % 2) = m) (hlt : m < 18446744073709551616) (hw : n % 2 = 1) : Calls Tryz.prog 233 #[.pointer (some ⟨p, 0, none⟩), .int .u64 x] w fun e w' => e = .returned (.tuple #[]) ∧ Raw w' p T N L G tl m ∧ Only (fun k => k = p) w w' := by
  have HX := Lib.hid h
  have HD := Lib.hid (done_any h hn hj (decide_eq_false hb))
  have HW := Lib.hid fun W => wakes_any (b := true) hn.1 (by rw [hw]; rfl) W
  have HP := Lib.hid fun (W : World) (hr : Raw W p T N L G tl n) => pass_any hr hn.1 hm hlt
  clear h hn hj hb hw hm hlt
  go_enter Tryz.func233, Tryz.ntmps233
  go_wp2_with fail
  refine HD.out.mono ?_
  rintro e w1 ⟨rfl, b1⟩
  have H1 := Lib.hid (And.intro (HX.out.later b1) (only_below (fun k => k = p) b1))
  obtain ⟨c_0, -, -, -, -, c_5⟩ := H1.out.1.cells
  clear b1
  go_wp2_with fail
  refine (HW.out _).mono ?_
  rintro e w' ⟨rfl, rfl⟩
  go_wp2_with fail
  refine (HP.out _ H1.out.1).mono ?_
  rintro e w2 ⟨rfl, h2, o2⟩
  have HE := Lib.hid (And.intro h2 (H1.out.2.trans o2))
  clear h2 o2
  go_wp2
  exact bodyPost_end (results_none rfl _ _ _) rfl ⟨rfl, HE.out.1, HE.out.2⟩

/-- Whose turn it is, as the program counts. -/
def trn (s : WkM.St) : Int := if s.ad = true then 2 * s.th + 1 else 2 * s.th
/-- A waker in block p. -/
def Wakes (w : World) (p : Nat) (T N L G dl : Int) (s : WkM.St) : Prop := T ≤ 9223372036854775807 ∧ WkM.Ok T s ∧ Raw w p T N L G (dueW dl) (trn s)
section
variable {w w' : World} {p : Nat} {T N L G dl : Int} {s : WkM.St}
theorem Wakes.only {R : Nat → Prop} (h : Wakes w p T N L G dl s) (ho : Only R w w') (hp : ¬ R p) : Wakes w' p T N L G dl s := ⟨h.1, h.2.1, h.2.2.only ho hp⟩
theorem Wakes.later (h : Wakes w p T N L G dl s) (hb : Below w.heap.size w w') : Wakes w' p T N L G dl s := h.only (only_below (fun _ => False) hb) id
theorem Wakes.lt (h : Wakes w p T N L G dl s) : p < w.heap.size := h.2.2.lt
end
theorem trn_ok {T : Int} {s : WkM.St} (hT : T ≤ 9223372036854775807) (h : WkM.Ok T s) : (0 ≤ trn s ∧ trn s < 18446744073709551616) ∧ trn s / 2 = s.th := by
  obtain ⟨h1, h2, h3⟩ := h
  unfold trn
  split
  · rename_i e
    have := h3 e
    omega
  · omega
theorem Wake_next {w : World} {p : Nat} {T N L G dl : Int} {s : WkM.St} (h : Wakes w p T N L G dl s) : Calls Tryz.prog 232 #[.pointer (some ⟨p, 0, none⟩)] w (Told w (wakeA T s)) := by
  obtain ⟨hT, ho, hr⟩ := h
  obtain ⟨q1, q2⟩ := trn_ok hT ho
  obtain ⟨t, b⟩ := s
  simp only at q2
  by_cases e : t < T
  · cases b with
    | true =>
      rw [wakeA_add e]
      exact next_wake hr q1 q2 (by omega) (by unfold trn; simp only [if_true]; exact decide_eq_true (by omega))
    | false =>
      rw [wakeA_look e]
      exact next_look hr q1 q2 (by omega) (by unfold trn; simp only [Bool.false_eq_true, if_false]; exact decide_eq_false (by omega))
  · rw [wakeA_done e]
    exact next_done hr q1 q2 (by omega)
theorem Wake_tell {w : World} {p : Nat} {T N L G dl x : Int} {s : WkM.St} (h : Wakes w p T N L G dl s) (hx : 0 ≤ x ∧ x < 18446744073709551616) : Calls Tryz.prog 233 #[.pointer (some ⟨p, 0, none⟩), .int .u64 x] w fun e w' => e = .returned (.tuple #[]) ∧ Wakes w' p T N L G dl (wakeT T dl s x) ∧ Only (fun k => k = p) w w' := by
  obtain ⟨hT, ho, hr⟩ := h
  obtain ⟨q1, q2⟩ := trn_ok hT ho
  have hok := wakeT_ok (dl := dl) (f := x) ho
  obtain ⟨h1, h2, h3⟩ := ho
  obtain ⟨t, b⟩ := s
  simp only at q2 h1 h2 h3
  by_cases e : t < T
  · cases b with
    | true =>
      rw [wakeT_add e] at hok ⊢
      have e1 : trn ⟨t, true⟩ = 2 * t + 1 := rfl
      have e2 : trn ⟨t + 1, false⟩ = 2 * t + 2 := by show 2 * (t + 1) = _; omega
      rw [e1] at hr q1 q2
      exact (tell_add hr q1 q2 (by omega) (m := 2 * t + 2) (by omega) (by omega) (by omega)).mono fun e w' ⟨p1, p2, p3⟩ => ⟨p1, ⟨hT, hok, by rw [e2]; exact p2⟩, p3⟩
    | false =>
      have e1 : trn ⟨t, false⟩ = 2 * t := rfl
      rw [e1] at hr q1 q2
      by_cases q : dueW dl < x
      · rw [wakeT_long e q] at hok ⊢
        have e2 : trn ⟨t, true⟩ = 2 * t + 1 := rfl
        exact (tell_long hr (by omega) q2 (by omega) (by omega) q).mono fun e w' ⟨p1, p2, p3⟩ => ⟨p1, ⟨hT, hok, by rw [e2]; exact p2⟩, p3⟩
      · rw [wakeT_not e q] at hok ⊢
        have e2 : trn ⟨t + 1, false⟩ = 2 * t + 2 := by show 2 * (t + 1) = _; omega
        exact (tell_not hr q1 q2 (by omega) (m := 2 * t + 2) (by omega) (by omega) (by omega) q).mono fun e w' ⟨p1, p2, p3⟩ => ⟨p1, ⟨hT, hok, by rw [e2]; exact p2⟩, p3⟩
  · rw [wakeT_done e] at hok ⊢
    exact (tell_done hr q1 q2 (by omega)).mono fun e w' ⟨p1, p2, p3⟩ => ⟨p1, ⟨hT, hok, p2⟩, p3⟩
theorem due_word (dl : Int) : IntKind.u64.wrap (IntKind.u64.wrap dl + 1) = dueW dl := by
  simp only [IntKind.wrap_u64]
  unfold dueW
  omega
theorem Wake_any {T : Int} (hT : T ≤ 9223372036854775807) (N L G dl : Int) (w : World) : Calls Tryz.prog 165 #[.agg #[.int .i64 T, .int .i64 N, .int .i64 L, .int .u64 G], .int .i64 dl] w fun e w' => ∃ p, e = .returned (.pointer (some ⟨p, 0, none⟩)) ∧ Wakes w' p T N L G dl WkM.start ∧ w.heap.size ≤ p ∧ Below w.heap.size w w' := by
  obtain ⟨c_0, c_1, c_2, c_3⟩ := box4 w (.int .i64 T) (.int .i64 N) (.int .i64 L) (.int .u64 G) 24
  have HB := Lib.hid (box_below w (.cells #[.int .i64 T, .int .i64 N, .int .i64 L, .int .u64 G] 24))
  have HE := Lib.hid (new_heap (w.alloc (.cells #[.int .i64 T, .int .i64 N, .int .i64 L, .int .u64 G] 24)) (.cells #[.int .u64 0, .int .i64 T, .int .i64 N, .int .i64 L, .int .u64 G, .int .u64 (dueW dl)] 222))
  have hd := due_word dl
  have HM := Lib.hid hT
  clear hT
  go_enter Tryz.func165, Tryz.ntmps165
  go_wp2
  go_ret
  refine ⟨w.heap.size + 1, rfl, ⟨HM.out, start_ok T, ?_⟩, by omega, HB.out.trans ((box_below _ _).mono HB.out.size)⟩
  have h := HE.out
  rw [World.size_alloc] at h
  exact h
end Go.Proofs.YtlagghghbpbcbaaGreatDoor.Wkr
