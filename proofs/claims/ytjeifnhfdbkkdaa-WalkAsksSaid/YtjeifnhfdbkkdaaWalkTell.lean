/- Package walk (layer 26), part two: a walker as a task: what it asks for, what it becomes when it is told, which timers it took, by which deadline it was stopped; all else in memory stays as it was. -/
import Derived.Test.YtjeifnhfdbkkdaaWalkWalks
import Derived.Test.YtjeifnhfdbkkdaaDueRows
namespace Go.Proofs.Ytjeifnhfdbkkdaa.Wlk
set_option maxRecDepth 20000
open Go.ChangeShapes Go.WideShapes Go.RowKit CM DM PM KM WaM Lay Plan Go.Proofs.Ytjeifnhfdbkkdaa.Task Go.Proofs.Ytjeifnhfdbkkdaa.DueRows
open ClM (genI)
set_option linter.unusedVariables false
set_option linter.unusedSimpArgs false

/-- What a task is asked. -/
def ToldD (w : World) (d : D) (more : Bool) (e : Ending) (w' : World) : Prop :=
  e = .returned (.tuple #[.agg #[.int .i64 d.1, .int .i64 d.2.1, .int .u64 d.2.2.1, .int .u64 d.2.2.2.1, .int .u64 d.2.2.2.2], .bool more]) ∧ Below w.heap.size w w'
def Told (w : World) (x : Option D) : Ending → World → Prop := ToldD w (x.getD (0, 0, 0, 0, 0)) x.isSome
theorem next_0 {w : World} {p : Nat} {T N L G ct a nw cu dd sp : Int} {V : Value} (h : Raw w p T N L G ct 0 nw cu dd V sp) : Calls Try.prog 6 #[.pointer (some ⟨p, 0, none⟩)] w (ToldD w (0, 0, 0, 0, 0) false) := by
  obtain ⟨-, -, -, -, -, c_5, -⟩ := (h.later (box_below w (.cells #[.int .i64 0, .int .i64 0, .int .u64 0, .int .u64 0, .int .u64 0] 31))).cells
  obtain ⟨⟨s0, s1, s2, s3, s4⟩, -⟩ := res5 (Below.refl (w.alloc (.cells #[.int .i64 0, .int .i64 0, .int .u64 0, .int .u64 0, .int .u64 0] 31)).heap.size (w.alloc (.cells #[.int .i64 0, .int .i64 0, .int .u64 0, .int .u64 0, .int .u64 0] 31)))
  have HB := Lib.hid (box_below w (.cells #[.int .i64 0, .int .i64 0, .int .u64 0, .int .u64 0, .int .u64 0] 31))
  clear h
  go_enter Try.func6, Try.ntmps6
  go_wp2
  exact bodyPost_ret (v := .tuple #[.agg #[.int .i64 0, .int .i64 0, .int .u64 0, .int .u64 0, .int .u64 0], .bool false]) (by simp [results, Try.results6, go_sem, s0, s1, s2, s3, s4]) rfl ⟨rfl, HB.out⟩
theorem next_step {w : World} {p : Nat} {T N L G ct a nw cu dd sp : Int} {V : Value} {f : FuncId} {d : D} {g : Value} (h : Raw w p T N L G ct a nw cu dd V sp) (h0 : ¬ a = 0) (hcf : ∀ (xs : Array Value) (W : World), (callFunc f xs).run Try.prog W = .ok (.enter f xs) W) (ha : ∀ W, Calls Try.prog 14 #[.int .i64 a] W fun e w' => e = .returned (.func (.func f) #[] #[]) ∧ W = w') (hs : Calls Try.prog f #[.pointer (some ⟨p, 0, none⟩)] (w.alloc (.cells #[.int .i64 0, .int .i64 0, .int .u64 0, .int .u64 0, .int .u64 0] 31)) (ToldF (w.alloc (.cells #[.int .i64 0, .int .i64 0, .int .u64 0, .int .u64 0, .int .u64 0] 31)) d g)) : Calls Try.prog 6 #[.pointer (some ⟨p, 0, none⟩)] w (ToldD w d true) := by
  obtain ⟨-, -, -, -, -, c_5, -⟩ := (h.later (box_below w (.cells #[.int .i64 0, .int .i64 0, .int .u64 0, .int .u64 0, .int .u64 0] 31))).cells
  have HA := Lib.hid ha
  have HS := Lib.hid hs
  have he : (a == 0) = false := by simpa using h0
  clear h ha hs
  go_enter Try.func6, Try.ntmps6
  go_wp2_with fail
  refine (HA.out _).mono ?_
  rintro e w1 ⟨rfl, rfl⟩
  go_wp2_with fail
  refine (HS.out).mono ?_
  rintro e w1 ⟨rfl, b0⟩
  have b1 := b0.trans ((box_below w1 (.cells #[.int .i64 d.1, .int .i64 d.2.1, .int .u64 d.2.2.1, .int .u64 d.2.2.2.1, .int .u64 d.2.2.2.2] 31)).mono b0.size)
  obtain ⟨⟨r0, r1, r2, r3, r4⟩, g0, g1, g2, g3, g4⟩ := res5 b1
  obtain ⟨⟨s0, s1, s2, s3, s4⟩, hB⟩ := set5 b1 (.int .i64 d.1) (.int .i64 d.2.1) (.int .u64 d.2.2.1) (.int .u64 d.2.2.2.1) (.int .u64 d.2.2.2.2)
  have HB := Lib.hid hB
  clear hB b1 b0 c_5
  go_wp2
  exact bodyPost_ret (v := .tuple #[.agg #[.int .i64 d.1, .int .i64 d.2.1, .int .u64 d.2.2.1, .int .u64 d.2.2.2.1, .int .u64 d.2.2.2.2], .bool true]) (by simp [results, Try.results6, go_sem, s0, s1, s2, s3, s4]) rfl ⟨rfl, HB.out⟩
theorem tell_0 {w : World} {p : Nat} {T N L G ct a nw cu dd sp : Int} {V : Value} {x : Int} (h : Raw w p T N L G ct 0 nw cu dd V sp) : Calls Try.prog 7 #[.pointer (some ⟨p, 0, none⟩), .int .u64 x] w fun e w' => e = .returned (.tuple #[]) ∧ w = w' := by
  obtain ⟨-, -, -, -, -, c_5, -⟩ := h.cells
  clear h
  go_enter Try.func7, Try.ntmps7
  go_wp2
  exact bodyPost_ret (v := .tuple #[]) (results_none rfl _ _ _) rfl ⟨rfl, rfl⟩
theorem tell_step {w : World} {p : Nat} {T N L G ct a nw cu dd sp : Int} {V : Value} {x : Int} {f m : FuncId} {d : D} {Q : World → Prop} (h : Raw w p T N L G ct a nw cu dd V sp) (h0 : ¬ a = 0) (hcf : ∀ (xs : Array Value) (W : World), (callFunc f xs).run Try.prog W = .ok (.enter f xs) W) (hcm : ∀ (xs : Array Value) (W : World), (callFunc m xs).run Try.prog W = .ok (.enter m xs) W) (ha : ∀ W, Calls Try.prog 14 #[.int .i64 a] W fun e w' => e = .returned (.func (.func f) #[] #[]) ∧ W = w') (hs : Calls Try.prog f #[.pointer (some ⟨p, 0, none⟩)] w (ToldF w d (meth m p)))
    (hm : ∀ W, Below w.heap.size w W → Calls Try.prog m #[.pointer (some ⟨p, 0, none⟩), .int .u64 x] W fun e w' => e = .returned (.tuple #[]) ∧ Q w') : Calls Try.prog 7 #[.pointer (some ⟨p, 0, none⟩), .int .u64 x] w fun e w' => e = .returned (.tuple #[]) ∧ Q w' := by
  obtain ⟨-, -, -, -, -, c_5, -⟩ := h.cells
  have HA := Lib.hid ha
  have HS := Lib.hid hs
  have HM := Lib.hid hm
  have he : (a == 0) = false := by simpa using h0
  clear h ha hs hm
  go_enter Try.func7, Try.ntmps7
  go_wp2_with fail
  refine (HA.out _).mono ?_
  rintro e w1 ⟨rfl, rfl⟩
  go_wp2_with fail
  refine (HS.out).mono ?_
  rintro e w1 ⟨rfl, b0⟩
  have HB1 := Lib.hid (b0.trans ((box_below w1 (.cells #[.int .i64 d.1, .int .i64 d.2.1, .int .u64 d.2.2.1, .int .u64 d.2.2.2.1, .int .u64 d.2.2.2.2] 31)).mono b0.size))
  unfold meth
  clear b0 c_5
  go_wp2_with fail
  refine (HM.out _ HB1.out).mono ?_
  rintro e w2 ⟨rfl, q⟩
  have HQ := Lib.hid q
  clear q
  go_wp2
  exact bodyPost_end (results_none rfl _ _ _) rfl ⟨rfl, HQ.out⟩

theorem keepNow_any {w : World} {p : Nat} {T N L G ct a nw cu dd sp : Int} {V : Value} {x : Int} (h : Raw w p T N L G ct a nw cu dd V sp) : Calls Try.prog 29 #[.pointer (some ⟨p, 0, none⟩), .int .u64 x] w fun e w' => e = .returned (.tuple #[]) ∧ Raw w' p T N L G ct 2 (wrap64 x) cu dd V sp ∧ Only (fun k => k = p) w w' := by
  have f6 := h.thawed 6
  have f5 := (h.set_nw (wrap64 x)).thawed 5
  have HE := Lib.hid (And.intro ((h.set_nw (wrap64 x)).set_a 2) ((only_set w p 6 (.int .i64 (wrap64 x))).trans (only_set _ p 5 (.int .i64 2))))
  obtain ⟨-, -, -, -, -, c_5, c_6, -⟩ := h.cells
  clear h
  go_enter Try.func29, Try.ntmps29
  go_wp2
  exact bodyPost_end (results_none rfl _ _ _) rfl ⟨rfl, HE.out⟩
theorem reach_count {w : World} {p : Nat} {T N L G ct a nw cu dd sp : Int} {V : Value} {x : Int} {A : Option Addr} {n c : Nat} (h : Raw w p T N L G ct a nw cu dd (.slice A n c) sp) (hc : ct ≤ (n : Int)) : Calls Try.prog 32 #[.pointer (some ⟨p, 0, none⟩), .int .u64 x] w fun e w' => e = .returned (.tuple #[]) ∧ Raw w' p T N L G ct 0 nw cu dd (.slice A n c) sp ∧ Only (fun k => k = p) w w' := by
  obtain ⟨-, -, -, -, c_4, c_5, -, -, -, c_9, -⟩ := h.cells
  have HX := Lib.hid h
  have C4 := fun q : After w => q.cell c_4
  have C9 := fun q : After w => q.cell c_9
  have hd : decide (ct ≤ (n : Int)) = true := decide_eq_true hc
  clear h c_4 c_9 hc c_5
  go_enter Try.func32, Try.ntmps32
  go_wp2
  refine wp_region_after mixed (by kernel_rfl) ?_
  repeat (first | go_big_quiet_step (fail) | quiet_step (fail))
  refine wpQuiet_nil ?_
  intro _ hw'
  obtain ⟨pq, hw''⟩ := hw'
  subst hw''
  have hq := pq.ok
  generalize pq.x = wq at hq ⊢
  have h1 := HX.out.later hq
  have c_5 := h1.cells.2.2.2.2.2.1
  have f5 := h1.thawed 5
  have HE := Lib.hid (And.intro (h1.set_a 0) ((only_below (fun k => k = p) hq).trans (only_set wq p 5 (.int .i64 0))))
  clear h1
  go_wp2
  exact bodyPost_ret (v := .tuple #[]) (results_none rfl _ _ _) rfl ⟨rfl, HE.out⟩
theorem reach_none {w : World} {p : Nat} {T N L G ct a nw cu dd sp : Int} {V : Value} {x : Int} {A : Option Addr} {n c : Nat} (h : Raw w p T N L G ct a nw cu dd (.slice A n c) sp) (hc : ¬ ct ≤ (n : Int)) (hx : 0 ≤ x ∧ x < 18446744073709551616) (h0 : idx x = 0) : Calls Try.prog 32 #[.pointer (some ⟨p, 0, none⟩), .int .u64 x] w fun e w' => e = .returned (.tuple #[]) ∧ Raw w' p T N L G ct 0 nw cu dd (.slice A n c) sp ∧ Only (fun k => k = p) w w' := by
  obtain ⟨-, -, -, -, c_4, c_5, -, c_7, -, c_9, -⟩ := h.cells
  have HX := Lib.hid h
  have HN := Lib.hid fun W => Refer.None_any x hx.1 hx.2 W
  have HP := Lib.hid fun W => Refer.Plain_any x hx.1 hx.2 W
  rw [show x % 4294967296 / 2 = idx x from rfl, decide_eq_true h0] at HN
  rw [show x - x % 2 = plainI x from rfl] at HP
  have C4 := fun q : After w => q.cell c_4
  have C9 := fun q : After w => q.cell c_9
  have hd : decide (ct ≤ (n : Int)) = false := decide_eq_false hc
  clear h c_4 c_9 hc c_5 h0 hx c_7
  go_enter Try.func32, Try.ntmps32
  go_wp2
  refine wp_region_after mixed (by kernel_rfl) ?_
  repeat (first | go_big_quiet_step ((exact calls_after_same (HN.out _))) | quiet_step ((exact calls_after_same (HN.out _))))
  refine wpQuiet_nil ?_
  intro _ hw'
  obtain ⟨pq, hw''⟩ := hw'
  subst hw''
  have hq := pq.ok
  generalize pq.x = wq at hq ⊢
  have h1 := HX.out.later hq
  have c_5 := h1.cells.2.2.2.2.2.1
  have c_7 := h1.cells.2.2.2.2.2.2.2.1
  have f5 := h1.thawed 5
  have f7 := h1.thawed 7
  have g5 := (h1.set_cu (plainI x)).thawed 5
  have HE := Lib.hid (And.intro (h1.set_a 0) ((only_below (fun k => k = p) hq).trans (only_set wq p 5 (.int .i64 0))))
  have HF := Lib.hid (And.intro ((h1.set_cu (plainI x)).set_a 3) ((only_below (fun k => k = p) hq).trans ((only_set wq p 7 (.int .u64 (plainI x))).trans (only_set _ p 5 (.int .i64 3)))))
  clear h1
  go_wp2_with (refine (HP.out _).mono ?_; rintro e w' ⟨rfl, rfl⟩)
  first
    | exact bodyPost_ret (v := .tuple #[]) (results_none rfl _ _ _) rfl ⟨rfl, HE.out⟩
    | exact bodyPost_end (results_none rfl _ _ _) rfl ⟨rfl, HF.out⟩
theorem reach_more {w : World} {p : Nat} {T N L G ct a nw cu dd sp : Int} {V : Value} {x : Int} {A : Option Addr} {n c : Nat} (h : Raw w p T N L G ct a nw cu dd (.slice A n c) sp) (hc : ¬ ct ≤ (n : Int)) (hx : 0 ≤ x ∧ x < 18446744073709551616) (h0 : ¬ idx x = 0) : Calls Try.prog 32 #[.pointer (some ⟨p, 0, none⟩), .int .u64 x] w fun e w' => e = .returned (.tuple #[]) ∧ Raw w' p T N L G ct 3 nw (plainI x) dd (.slice A n c) sp ∧ Only (fun k => k = p) w w' := by
  obtain ⟨-, -, -, -, c_4, c_5, -, c_7, -, c_9, -⟩ := h.cells
  have HX := Lib.hid h
  have HN := Lib.hid fun W => Refer.None_any x hx.1 hx.2 W
  have HP := Lib.hid fun W => Refer.Plain_any x hx.1 hx.2 W
  rw [show x % 4294967296 / 2 = idx x from rfl, decide_eq_false h0] at HN
  rw [show x - x % 2 = plainI x from rfl] at HP
  have C4 := fun q : After w => q.cell c_4
  have C9 := fun q : After w => q.cell c_9
  have hd : decide (ct ≤ (n : Int)) = false := decide_eq_false hc
  clear h c_4 c_9 hc c_5 h0 hx c_7
  go_enter Try.func32, Try.ntmps32
  go_wp2
  refine wp_region_after mixed (by kernel_rfl) ?_
  repeat (first | go_big_quiet_step ((exact calls_after_same (HN.out _))) | quiet_step ((exact calls_after_same (HN.out _))))
  refine wpQuiet_nil ?_
  intro _ hw'
  obtain ⟨pq, hw''⟩ := hw'
  subst hw''
  have hq := pq.ok
  generalize pq.x = wq at hq ⊢
  have h1 := HX.out.later hq
  have c_5 := h1.cells.2.2.2.2.2.1
  have c_7 := h1.cells.2.2.2.2.2.2.2.1
  have f5 := h1.thawed 5
  have f7 := h1.thawed 7
  have g5 := (h1.set_cu (plainI x)).thawed 5
  have HE := Lib.hid (And.intro (h1.set_a 0) ((only_below (fun k => k = p) hq).trans (only_set wq p 5 (.int .i64 0))))
  have HF := Lib.hid (And.intro ((h1.set_cu (plainI x)).set_a 3) ((only_below (fun k => k = p) hq).trans ((only_set wq p 7 (.int .u64 (plainI x))).trans (only_set _ p 5 (.int .i64 3)))))
  clear h1
  go_wp2_with (refine (HP.out _).mono ?_; rintro e w' ⟨rfl, rfl⟩)
  first
    | exact bodyPost_ret (v := .tuple #[]) (results_none rfl _ _ _) rfl ⟨rfl, HE.out⟩
    | exact bodyPost_end (results_none rfl _ _ _) rfl ⟨rfl, HF.out⟩
theorem keepDead_stop {w : World} {p : Nat} {T N L G ct a nw cu dd sp : Int} {V : Value} {x : Int} (h : Raw w p T N L G ct a nw cu dd V sp) (h0 : nw < wrap64 x) : Calls Try.prog 36 #[.pointer (some ⟨p, 0, none⟩), .int .u64 x] w fun e w' => e = .returned (.tuple #[]) ∧ Raw w' p T N L G ct 0 nw cu (wrap64 x) V (wrap64 x) ∧ Only (fun k => k = p) w w' := by
  have hd : decide (nw < wrap64 x) = true := decide_eq_true h0
  obtain ⟨-, -, -, -, -, c_5, c_6, -, c_8, -⟩ := h.cells
  have f8 := h.thawed 8
  have f5 := (h.set_dd (wrap64 x)).thawed 5
  have h1 := (h.set_dd (wrap64 x)).set_a 4
  have o1 := (only_set w p 8 (.int .i64 (wrap64 x))).trans (only_set _ p 5 (.int .i64 4))
  obtain ⟨-, -, -, -, -, d_5, d_6, -, d_8, -⟩ := h1.cells
  have C6 := fun q : After ((w.setCell ⟨p, 8, none⟩ (.int .i64 (wrap64 x))).setCell ⟨p, 5, none⟩ (.int .i64 4)) => q.cell d_6
  have C8 := fun q : After ((w.setCell ⟨p, 8, none⟩ (.int .i64 (wrap64 x))).setCell ⟨p, 5, none⟩ (.int .i64 4)) => q.cell d_8
  have HX := Lib.hid (And.intro h1 o1)
  clear h h1 o1 h0 d_5 d_6 d_8 c_6
  go_enter Try.func36, Try.ntmps36
  go_wp2
  refine wp_region_after mixed (by kernel_rfl) ?_
  repeat (first | go_big_quiet_step (fail) | quiet_step (fail))
  refine wpQuiet_nil ?_
  intro _ hw'
  obtain ⟨pq, hw''⟩ := hw'
  subst hw''
  have hq := pq.ok
  generalize pq.x = wq at hq ⊢
  have h2 := HX.out.1.later hq
  have o2 := HX.out.2.then_below hq
  have f5 := (h2.set_sp (wrap64 x)).thawed 5
  have f10 := h2.thawed 10
  obtain ⟨-, -, -, -, -, e_5, -, -, e_8, -, e_10⟩ := h2.cells
  have HE := Lib.hid (And.intro ((h2.set_sp (wrap64 x)).set_a 0) (o2.trans ((only_set wq p 10 (.int .i64 (wrap64 x))).trans (only_set _ p 5 (.int .i64 0)))))
  have HF := Lib.hid (And.intro h2 o2)
  clear h2 o2
  go_wp2
  first
    | exact bodyPost_ret (v := .tuple #[]) (results_none rfl _ _ _) rfl ⟨rfl, HE.out⟩
    | exact bodyPost_end (results_none rfl _ _ _) rfl ⟨rfl, HE.out⟩
    | exact bodyPost_end (results_none rfl _ _ _) rfl ⟨rfl, HF.out⟩
theorem keepDead_on {w : World} {p : Nat} {T N L G ct a nw cu dd sp : Int} {V : Value} {x : Int} (h : Raw w p T N L G ct a nw cu dd V sp) (h0 : ¬ nw < wrap64 x) : Calls Try.prog 36 #[.pointer (some ⟨p, 0, none⟩), .int .u64 x] w fun e w' => e = .returned (.tuple #[]) ∧ Raw w' p T N L G ct 4 nw cu (wrap64 x) V sp ∧ Only (fun k => k = p) w w' := by
  have hd : decide (nw < wrap64 x) = false := decide_eq_false h0
  obtain ⟨-, -, -, -, -, c_5, c_6, -, c_8, -⟩ := h.cells
  have f8 := h.thawed 8
  have f5 := (h.set_dd (wrap64 x)).thawed 5
  have h1 := (h.set_dd (wrap64 x)).set_a 4
  have o1 := (only_set w p 8 (.int .i64 (wrap64 x))).trans (only_set _ p 5 (.int .i64 4))
  obtain ⟨-, -, -, -, -, d_5, d_6, -, d_8, -⟩ := h1.cells
  have C6 := fun q : After ((w.setCell ⟨p, 8, none⟩ (.int .i64 (wrap64 x))).setCell ⟨p, 5, none⟩ (.int .i64 4)) => q.cell d_6
  have C8 := fun q : After ((w.setCell ⟨p, 8, none⟩ (.int .i64 (wrap64 x))).setCell ⟨p, 5, none⟩ (.int .i64 4)) => q.cell d_8
  have HX := Lib.hid (And.intro h1 o1)
  clear h h1 o1 h0 d_5 d_6 d_8 c_6
  go_enter Try.func36, Try.ntmps36
  go_wp2
  refine wp_region_after mixed (by kernel_rfl) ?_
  repeat (first | go_big_quiet_step (fail) | quiet_step (fail))
  refine wpQuiet_nil ?_
  intro _ hw'
  obtain ⟨pq, hw''⟩ := hw'
  subst hw''
  have hq := pq.ok
  generalize pq.x = wq at hq ⊢
  have h2 := HX.out.1.later hq
  have o2 := HX.out.2.then_below hq
  have f5 := (h2.set_sp (wrap64 x)).thawed 5
  have f10 := h2.thawed 10
  obtain ⟨-, -, -, -, -, e_5, -, -, e_8, -, e_10⟩ := h2.cells
  have HE := Lib.hid (And.intro ((h2.set_sp (wrap64 x)).set_a 0) (o2.trans ((only_set wq p 10 (.int .i64 (wrap64 x))).trans (only_set _ p 5 (.int .i64 0)))))
  have HF := Lib.hid (And.intro h2 o2)
  clear h2 o2
  go_wp2
  first
    | exact bodyPost_ret (v := .tuple #[]) (results_none rfl _ _ _) rfl ⟨rfl, HE.out⟩
    | exact bodyPost_end (results_none rfl _ _ _) rfl ⟨rfl, HE.out⟩
    | exact bodyPost_end (results_none rfl _ _ _) rfl ⟨rfl, HF.out⟩
theorem lives_any {w : World} {p : Nat} {T N L G ct a nw cu dd sp : Int} {V : Value} {x : Int} (h : Raw w p T N L G ct a nw cu dd V sp) (hc : 0 ≤ cu ∧ cu < 18446744073709551616) : Calls Try.prog 57 #[.pointer (some ⟨p, 0, none⟩), .int .u64 x] w fun e w' => e = .returned (.bool (decide (x = SM.stI (genI cu) 2))) ∧ w = w' := by
  have HGN := Lib.hid fun W => Refer.Gen_any cu hc.1 hc.2 W
  have hg := ClM.gen_ok hc
  have HIS := Lib.hid fun W => State.Is_any x (genI cu) 2 hg.1 W
  rw [ClM.is_live hg.2] at HIS
  rw [show cu / 4294967296 = genI cu from rfl] at HGN
  obtain ⟨g0, g1⟩ := hg
  generalize decide (x = SM.stI (genI cu) 2) = b at HIS ⊢
  generalize genI cu = g at HGN HIS g0 g1
  obtain ⟨-, -, -, -, -, -, -, c_7, -⟩ := h.cells
  clear h hc
  go_enter Try.func57, Try.ntmps57
  go_wp2_with fail
  refine (HGN.out _).mono ?_
  rintro e w2 ⟨rfl, rfl⟩
  go_wp2_with fail
  refine (HIS.out _).mono ?_
  rintro e w2 ⟨rfl, rfl⟩
  go_wp2
  go_ret
  exact ⟨rfl, rfl⟩
theorem goAfter_yes {w : World} {p : Nat} {T N L G ct a nw cu dd sp : Int} {V : Value} {x : Int} (h : Raw w p T N L G ct a nw cu dd V sp) (hc : 0 ≤ cu ∧ cu < 18446744073709551616) (h0 : x = SM.stI (genI cu) 2) : Calls Try.prog 39 #[.pointer (some ⟨p, 0, none⟩), .int .u64 x] w fun e w' => e = .returned (.tuple #[]) ∧ Raw w' p T N L G ct 5 nw cu dd V sp ∧ Only (fun k => k = p) w w' := by
  have h1 := h.set_a 7
  have HL := Lib.hid (lives_any (x := x) h1 hc)
  rw [decide_eq_true h0] at HL
  have f5 := h.thawed 5
  have g5 := h1.thawed 5
  have c_5 := h.cells.2.2.2.2.2.1
  have HE := Lib.hid (And.intro h1 (only_set w p 5 (.int .i64 7)))
  have HF := Lib.hid (And.intro (h1.set_a 5) ((only_set w p 5 (.int .i64 7)).trans (only_set _ p 5 (.int .i64 5))))
  clear h h1 hc h0
  go_enter Try.func39, Try.ntmps39
  go_wp2_with fail
  refine HL.out.mono ?_
  rintro e w2 ⟨rfl, rfl⟩
  go_wp2
  first
    | exact bodyPost_end (results_none rfl _ _ _) rfl ⟨rfl, HE.out⟩
    | exact bodyPost_end (results_none rfl _ _ _) rfl ⟨rfl, HF.out⟩
theorem goAfter_no {w : World} {p : Nat} {T N L G ct a nw cu dd sp : Int} {V : Value} {x : Int} (h : Raw w p T N L G ct a nw cu dd V sp) (hc : 0 ≤ cu ∧ cu < 18446744073709551616) (h0 : ¬ x = SM.stI (genI cu) 2) : Calls Try.prog 39 #[.pointer (some ⟨p, 0, none⟩), .int .u64 x] w fun e w' => e = .returned (.tuple #[]) ∧ Raw w' p T N L G ct 7 nw cu dd V sp ∧ Only (fun k => k = p) w w' := by
  have h1 := h.set_a 7
  have HL := Lib.hid (lives_any (x := x) h1 hc)
  rw [decide_eq_false h0] at HL
  have f5 := h.thawed 5
  have g5 := h1.thawed 5
  have c_5 := h.cells.2.2.2.2.2.1
  have HE := Lib.hid (And.intro h1 (only_set w p 5 (.int .i64 7)))
  have HF := Lib.hid (And.intro (h1.set_a 5) ((only_set w p 5 (.int .i64 7)).trans (only_set _ p 5 (.int .i64 5))))
  clear h h1 hc h0
  go_enter Try.func39, Try.ntmps39
  go_wp2_with fail
  refine HL.out.mono ?_
  rintro e w2 ⟨rfl, rfl⟩
  go_wp2
  first
    | exact bodyPost_end (results_none rfl _ _ _) rfl ⟨rfl, HE.out⟩
    | exact bodyPost_end (results_none rfl _ _ _) rfl ⟨rfl, HF.out⟩
/-- A walker in block p, the timers that it took in a row of its own; S: all its blocks. -/
def Parts (w : World) (p : Nat) (S : Nat → Prop) (T N L G ct a nw cu dd sp : Int) (out : List Du) (A : Option Addr) (c : Nat) : Prop :=
  Raw w p T N L G ct a nw cu dd (.slice A out.length c) sp ∧ w.ownsRow 0 62 3 (.slice A out.length c) out.length (flat encU out) ∧ S p ∧ (∀ b, A = some b → S b.block ∧ b.block ≠ p) ∧ ∀ k, S k → k < w.heap.size
theorem own_block {A : Option Addr} {n c k : Nat} (e : (Value.slice A n c).ownBlock = some k) : ∃ x, A = some x ∧ x.block = k := by
  cases A with
  | none => cases e
  | some a => cases e; exact ⟨a, rfl, rfl⟩
theorem Parts.put {w W0 w3 : World} {p g2 cap c n : Nat} {S : Nat → Prop} {T N L G ct a nw cu dd sp : Int} {out : List Du} {A : Option Addr} (h : Parts w p S T N L G ct a nw cu dd sp out A c) (x : Du) (hB : Below w.heap.size w W0) (hon : Only (fun k => (Value.slice A n c).ownBlock = some k) W0 w3) (hn : n = out.length)
    (ho : w3.ownsRow 0 62 3 (.slice (some ⟨g2, 0, none⟩) (n + 1) cap) (n + 1) (flat encU out ++ encU x)) (hor : (Value.slice A n c).ownBlock = some g2 ∨ g2 = W0.heap.size) (hlt : g2 < w3.heap.size) :
    Raw w3 p T N L G ct a nw cu dd (.slice A n c) sp ∧ ∃ S', Parts (w3.setCell ⟨p, 9, none⟩ (.slice (some ⟨g2, 0, none⟩) (n + 1) cap)) p S' T N L G ct a nw cu dd sp (out ++ [x]) (some ⟨g2, 0, none⟩) cap ∧
      Only S w (w3.setCell ⟨p, 9, none⟩ (.slice (some ⟨g2, 0, none⟩) (n + 1) cap)) ∧ ∀ k, S' k → S k ∨ (w.heap.size ≤ k ∧ k < w3.heap.size) := by
  subst hn
  obtain ⟨h1, h2, h3, h4, h5⟩ := h
  have hz := hB.size
  have hp := h5 p h3
  have hR : Only (fun k => (Value.slice A out.length c).ownBlock = some k) w w3 := (only_below _ hB).trans hon
  have hnp : ¬ (Value.slice A out.length c).ownBlock = some p := fun e => by obtain ⟨x, hx, hxp⟩ := own_block e; exact (h4 x hx).2 hxp
  have hb3 := h1.only hR hnp
  have hg : (S g2 ∨ w.heap.size ≤ g2) ∧ g2 ≠ p := by
    rcases hor with e | e
    · obtain ⟨x, hx, rfl⟩ := own_block e
      exact ⟨.inl (h4 x hx).1, (h4 x hx).2⟩
    · exact ⟨.inr (by omega), by omega⟩
  have hs := only_set w3 p 9 (.slice (some ⟨g2, 0, none⟩) (out.length + 1) cap)
  have hl : (out ++ [x]).length = out.length + 1 := by simp
  refine ⟨hb3, fun k => S k ∨ k = g2, ⟨?_, ?_, .inl h3, ?_, ?_⟩, ?_, ?_⟩
  · rw [hl]; exact hb3.set_v _
  · rw [hl, flat_append, flat_one]
    exact hs.own ho (fun k hk e => by obtain ⟨x, hx, rfl⟩ := own_block hk; cases hx; exact hg.2 e)
  · rintro a e; cases e; exact ⟨.inr rfl, hg.2⟩
  · rintro k (hk | rfl)
    · have h1 := h5 k hk; have h2 := hR.size; have h3 := hs.size; omega
    · have h3 := hs.size; omega
  · exact (hR.wide (R' := S) fun k e => by obtain ⟨y, hy, rfl⟩ := own_block e; exact .inl (h4 y hy).1).setCell (.inl h3) _
  · rintro k (hk | rfl)
    · exact .inl hk
    · exact hg.1.imp id fun z => ⟨z, hlt⟩
theorem keepSeq_any {w : World} {p : Nat} {T N L G ct a nw cu dd sp : Int} {V : Value} {x hh d0 z : Int} {l : List Du} {g n c : Nat} (h : Raw w p T N L G ct a nw cu dd (.slice (some ⟨g, 0, none⟩) n c) sp) (ho : w.ownsRow 0 62 3 (.slice (some ⟨g, 0, none⟩) n c) n (flat encU (l ++ [(hh, d0, z)]))) (hn : n = l.length + 1) (hm : n ≤ 1000000) (hgp : g ≠ p) : Calls Try.prog 46 #[.pointer (some ⟨p, 0, none⟩), .int .u64 x] w fun e w' =>
    e = .returned (.tuple #[]) ∧ Raw w' p T N L G ct 7 nw cu dd (.slice (some ⟨g, 0, none⟩) n c) sp ∧ w'.ownsRow 0 62 3 (.slice (some ⟨g, 0, none⟩) n c) n (flat encU (l ++ [(hh, d0, x)])) ∧ Only (fun k => k = p ∨ k = g) w w' := by
  obtain ⟨m, hmm⟩ : ∃ m, m = l.length := ⟨_, rfl⟩
  have HM := Lib.hid hmm
  rw [← hmm] at hn
  subst hn
  obtain ⟨q0, q1, q2⟩ := own_last ho (by rw [hmm]) x
  rw [← hmm] at q0 q1 q2
  obtain ⟨-, -, -, -, -, c_5, -, -, -, c_9, -⟩ := h.cells
  have hs := only_set w g (m * 3 + 2) (.int .u64 x)
  have h1 := h.only hs (fun e => hgp e.symm)
  obtain ⟨W1, hW1⟩ : ∃ W1, W1 = (w.setCell ⟨g, m * 3 + 2, none⟩ (.int .u64 x)).drew := ⟨_, rfl⟩
  have h2 : Raw W1 p T N L G ct a nw cu dd (.slice (some ⟨g, 0, none⟩) (m + 1) c) sp := by subst hW1; exact h1
  have HQ := Lib.hid (show W1.ownsRow 0 62 3 (.slice (some ⟨g, 0, none⟩) (m + 1) c) (m + 1) (flat encU (l ++ [(hh, d0, x)])) by subst hW1; exact q2)
  have HS := Lib.hid (show Only (fun k => k = p ∨ k = g) w W1 by subst hW1; exact (hs.wide fun k e => .inl (.inr e)).drew)
  have f5 := h2.thawed 5
  have e_5 := h2.cells.2.2.2.2.2.1
  have HE := Lib.hid (h2.set_a 7)
  have HW1 := Lib.hid hW1
  have hw : IntKind.i64.wrap (m : Int) = (m : Int) := by rw [IntKind.wrap_i64]; omega
  have hlt : (m : Int) < (m : Int) + 1 := by omega
  have hge : (0 : Int) ≤ (m : Int) := by omega
  clear h h1 h2 hmm hm ho q2 hs hW1
  go_enter Try.func46, Try.ntmps46
  go_wp2
  go_region
  rw [← HW1.out]
  go_wp2
  have HR := Lib.hid ((only_set W1 p 5 (.int .i64 7)).own HQ.out (fun k hk e => by cases hk; exact hgp e))
  exact bodyPost_end (results_none rfl _ _ _) rfl ⟨rfl, HE.out, HR.out, HS.out.trans ((only_set W1 p 5 (.int .i64 7)).wide fun k e => .inl (.inl e))⟩
theorem keepTimer_no {w : World} {p : Nat} {T N L G ct a nw cu dd sp : Int} {V : Value} {x : Int} (h : Raw w p T N L G ct a nw cu dd V sp) (hc : 0 ≤ cu ∧ cu < 18446744073709551616) (h0 : ¬ x = SM.stI (genI cu) 2) : Calls Try.prog 43 #[.pointer (some ⟨p, 0, none⟩), .int .u64 x] w fun e w' => e = .returned (.tuple #[]) ∧ Raw w' p T N L G ct 7 nw cu dd V sp ∧ Only (fun k => k = p) w w' := by
  have HL := Lib.hid (lives_any (x := x) h hc)
  rw [decide_eq_false h0] at HL
  have f5 := h.thawed 5
  have c_5 := h.cells.2.2.2.2.2.1
  have HE := Lib.hid (And.intro (h.set_a 7) (only_set w p 5 (.int .i64 7)))
  clear h hc h0
  go_enter Try.func43, Try.ntmps43
  go_wp2_with fail
  refine HL.out.mono ?_
  rintro e w2 ⟨rfl, rfl⟩
  go_wp2
  exact bodyPost_ret (v := .tuple #[]) (results_none rfl _ _ _) rfl ⟨rfl, HE.out⟩
theorem pair_hand {r : Int} (hr : 0 ≤ r ∧ r < 18446744073709551616) : genI r % 4294967296 * 4294967296 + IntKind.u64.wrap (idx r) % 4294967296 = handI r := by
  rw [IntKind.wrap_u64]
  unfold handI genI idx
  omega
theorem keepTimer_yes {w : World} {p c : Nat} {S : Nat → Prop} {T N L G ct a nw cu dd sp x : Int} {out : List Du} {A : Option Addr} (h : Parts w p S T N L G ct a nw cu dd sp out A c) (hm : out.length ≤ 1000000) (hc : 0 ≤ cu ∧ cu < 18446744073709551616) (h0 : x = SM.stI (genI cu) 2) : Calls Try.prog 43 #[.pointer (some ⟨p, 0, none⟩), .int .u64 x] w fun e w' =>
    e = .returned (.tuple #[]) ∧ ∃ S' A' c', Parts w' p S' T N L G ct 6 nw cu dd sp (out ++ [(handI cu, dd, 0)]) A' c' ∧ Only S w w' ∧ ∀ k, S' k → S k ∨ (w.heap.size ≤ k ∧ k < w'.heap.size) := by
  have HL := Lib.hid (lives_any (x := x) h.1 hc)
  rw [decide_eq_true h0] at HL
  obtain ⟨wd, hwd⟩ : ∃ wd, wd = w.drew := ⟨_, rfl⟩
  have hbd : Below w.heap.size w wd := by rw [hwd]; exact (Below.refl _ _).drew
  have hpd : Parts wd p S T N L G ct a nw cu dd sp out A c := ⟨h.1.later hbd, own_later h.2.1 hbd, h.2.2.1, h.2.2.2.1, fun k e => Nat.lt_of_lt_of_le (h.2.2.2.2 k e) hbd.size⟩
  have HBD := Lib.hid hbd
  have HGN := Lib.hid fun W => Refer.Gen_any cu hc.1 hc.2 W
  have HIX := Lib.hid fun W => Refer.Index_any cu hc.1 hc.2 W
  have hg := ClM.gen_ok hc
  have HPR := Lib.hid fun W => Field.Pair_any (genI cu) (IntKind.u64.wrap (idx cu)) hg.1 (State.u64_lo _) (State.u64_hi _) W
  rw [pair_hand hc] at HPR
  rw [show cu / 4294967296 = genI cu from rfl] at HGN
  rw [show cu % 4294967296 / 2 = idx cu from rfl] at HIX
  obtain ⟨n, hn⟩ : ∃ n, n = out.length := ⟨_, rfl⟩
  have HN := Lib.hid hn
  have HP := Lib.hid hpd
  have ho1 := hpd.2.1
  rw [← hn] at ho1 hm
  have HO1 := Lib.hid ho1
  have HC7 := Lib.hid (show w.drew.cell? ⟨p, 7, none⟩ = some (.int .u64 cu) by have := hpd.1.cells.2.2.2.2.2.2.2.1; rw [hwd] at this; exact this)
  obtain ⟨-, -, -, -, -, d_5, -, d_7, d_8, d_9, -⟩ := hpd.1.cells
  rw [← hn] at d_9
  have K8 := fun o => cell_later (box_below wd o) d_8
  have K9 := fun o => cell_later (box_below wd o) d_9
  obtain ⟨i0, hi0, hz0, hz1, hz2⟩ := info_parts info_due
  have HWD := Lib.hid hwd
  clear hg
  generalize handI cu = hd at HPR ⊢
  generalize genI cu = g at HGN HPR
  generalize idx cu = i at HIX HPR
  have HA1 := Lib.hid (fun (W0 w3 : World) (g2 cap : Nat) (hB : Below wd.heap.size wd W0) (hg : W0.grownBy w3 (Value.slice A n c).ownBlock) (ho : w3.ownsRow 0 62 3 (.slice (some ⟨g2, 0, none⟩) (n + 1) cap) (n + 1) (flat encU out ++ encU (hd, dd, 0))) hor hlt => hpd.put (hd, dd, 0) hB (only_grown hg fun k e => e) hn ho hor hlt)
  clear h hc h0 hpd hbd hwd hn ho1
  go_enter Try.func43, Try.ntmps43
  go_wp2_with fail
  refine HL.out.mono ?_
  rintro e w2 ⟨rfl, rfl⟩
  go_wp2_with fail
  go_region_held3 (fun W => W.cell? ⟨p, 7, none⟩ = some (.int .u64 cu))
    ((first | (with_reducible exact HC7.out) | (with_reducible assumption)))
    (first
      | (go_at_call 41; refine (HGN.out _).mono ?_; rintro e w3 ⟨rfl, rfl⟩)
      | (go_at_call 35; refine (HIX.out _).mono ?_; rintro e w3 ⟨rfl, rfl⟩)
      | (go_at_call 59; refine (HPR.out _).mono ?_; rintro e w3 ⟨rfl, rfl⟩))
  rw [← HWD.out]
  go_wp2_with fail
  go_cut [] (fun wx => ∃ S' A' c', Parts wx p S' T N L G ct a nw cu dd sp (out ++ [(hd, dd, 0)]) A' c' ∧ Only S wd wx ∧ ∀ k, S' k → S k ∨ (wd.heap.size ≤ k ∧ k < wx.heap.size))
  case first =>
    go_region_law (refine step_append_lies _ rfl (.tmp 28) (.tmp 35) 43 rfl 0 62 i0 _ 3 24 Try.underlying43 hi0 hz0 hz1 hz2 rfl (by decide) _ n _ rfl (own_later HO1.out (((Below.refl _ _).alloc (Nat.le_refl _) _).drew)) ⟨wd.heap.size, 0, none⟩ 1 1 (encU (hd, dd, 0)) rfl rfl (cells_new _ _ _) (Open.enc3_one _ _ _ _) (by decide) (by simp only [maxLen]; omega) (by omega) (Nat.zero_le _) _ rfl ?_; intro g2 cap w3 ho2 hg2 hor2 hlt2; obtain ⟨k1, S1, k2, k3, k4⟩ := HA1.out _ _ _ _ (((Below.refl _ _).alloc (Nat.le_refl _) _).drew) hg2 ho2 hor2 hlt2; have f9 := k1.thawed 9; have m9 := k1.cells.2.2.2.2.2.2.2.2.2.1; have HP1 := Lib.hid k2; have HO2 := Lib.hid k3; have HS1 := Lib.hid k4; clear k1 k2 k3 k4 ho2 hg2 hor2 hlt2)
    all_goals go_wp2_with fail
    all_goals go_meet
    all_goals (case rel => exact ⟨_, _, _, HP1.out, HO2.out, fun k e => (HS1.out k e).imp id fun z => ⟨z.1, Nat.lt_of_lt_of_le z.2 (by simp [World.setCell])⟩⟩)
  case rest =>
    obtain ⟨S1, A1, c1, hp1, hon1, hs1⟩ := hcut
    have f5 := hp1.1.thawed 5
    have e_5 := hp1.1.cells.2.2.2.2.2.1
    have HE := Lib.hid (show Parts (wc.setCell ⟨p, 5, none⟩ (.int .i64 6)) p S1 T N L G ct 6 nw cu dd sp (out ++ [(hd, dd, 0)]) A1 c1 from
      ⟨hp1.1.set_a 6, (only_set wc p 5 (.int .i64 6)).own hp1.2.1 (fun k hk e => by obtain ⟨y, hy, q⟩ := own_block hk; exact (hp1.2.2.2.1 y hy).2 (q.trans e)), hp1.2.2.1, hp1.2.2.2.1, fun k e => Nat.lt_of_lt_of_le (hp1.2.2.2.2 k e) (only_set wc p 5 (.int .i64 6)).size⟩)
    have HF := Lib.hid (show Only S w (wc.setCell ⟨p, 5, none⟩ (.int .i64 6)) from ((only_below S HBD.out).trans hon1).setCell (.inl HP.out.2.2.1) _)
    have HS := Lib.hid hs1
    clear hp1 hon1 hs1
    go_wp2
    exact bodyPost_end (results_none rfl _ _ _) rfl ⟨rfl, _, _, _, HE.out, HF.out, fun k e => (HS.out k e).imp id fun z => ⟨Nat.le_trans HBD.out.size z.1, Nat.lt_of_lt_of_le z.2 (only_set wc p 5 (.int .i64 6)).size⟩⟩
end Go.Proofs.Ytjeifnhfdbkkdaa.Wlk
