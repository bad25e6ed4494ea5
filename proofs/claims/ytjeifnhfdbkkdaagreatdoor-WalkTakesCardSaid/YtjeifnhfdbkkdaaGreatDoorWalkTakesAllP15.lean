import Derived.Test.YtjeifnhfdbkkdaaGreatDoorWalkTakesAllP13
import Derived.Test.YtjeifnhfdbkkdaaGreatDoorWalkTakesAllP14
/- Package walk (layer 26), part two: a walker as a task: what it asks for, what it becomes when it is told, which timers it took, by which deadline it was stopped; all else in memory stays as it was. -/
namespace Go.Proofs.YtjeifnhfdbkkdaaGreatDoor.Wlk
set_option maxRecDepth 20000
open Go.ChangeShapes Go.WideShapes Go.RowKit CM DM PM KM WaM Lay Plan Go.Proofs.YtjeifnhfdbkkdaaGreatDoor.Task Go.Proofs.YtjeifnhfdbkkdaaGreatDoor.DueRows
open ClM (genI)
set_option linter.unusedVariables false
set_option linter.unusedSimpArgs false

/-- What a task is asked. -/
def ToldD (w : World) (d : D) (more : Bool) (e : Ending) (w' : World) : Prop :=
  e = .returned (.tuple #[.agg #[.int .i64 d.1, .int .i64 d.2.1, .int .u64 d.2.2.1, .int .u64 d.2.2.2.1, .int .u64 d.2.2.2.2], .bool more]) ∧ Below w.heap.size w w'
def Told (w : World) (x : Option D) : Ending → World → Prop := ToldD w (x.getD (0, 0, 0, 0, 0)) x.isSome
theorem next_0 {w : World} {p : Nat} {T N L G ct a nw cu dd sp : Int} {V : Value} (h : Raw w p T N L G ct 0 nw cu dd V sp) : Calls Tryz.prog 10 #[.pointer (some ⟨p, 0, none⟩)] w (ToldD w (0, 0, 0, 0, 0) false) := by
  obtain ⟨-, -, -, -, -, c_5, -⟩ := (h.later (box_below w (.cells #[.int .i64 0, .int .i64 0, .int .u64 0, .int .u64 0, .int .u64 0] 38))).cells
  obtain ⟨⟨s0, s1, s2, s3, s4⟩, -⟩ := res5 (Below.refl (w.alloc (.cells #[.int .i64 0, .int .i64 0, .int .u64 0, .int .u64 0, .int .u64 0] 38)).heap.size (w.alloc (.cells #[.int .i64 0, .int .i64 0, .int .u64 0, .int .u64 0, .int .u64 0] 38)))
  have HB := Lib.hid (box_below w (.cells #[.int .i64 0, .int .i64 0, .int .u64 0, .int .u64 0, .int .u64 0] 38))
  clear h
  go_enter Tryz.func10, Tryz.ntmps10
  go_wp2
  exact bodyPost_ret (v := .tuple #[.agg #[.int .i64 0, .int .i64 0, .int .u64 0, .int .u64 0, .int .u64 0], .bool false]) (by simp [results, Tryz.results10, go_sem, s0, s1, s2, s3, s4]) rfl ⟨rfl, HB.out⟩
theorem next_step {w : World} {p : Nat} {T N L G ct a nw cu dd sp : Int} {V : Value} {f : FuncId} {d : D} {g : Value} (h : Raw w p T N L G ct a nw cu dd V sp) (h0 : ¬ a = 0) (hcf : ∀ (xs : Array Value) (W : World), (callFunc f xs).run Tryz.prog W = .ok (.enter f xs) W) (ha : ∀ W, Calls Tryz.prog 27 #[.int .i64 a] W fun e w' => e = .returned (.func (.func f) #[] #[]) ∧ W = w') (hs : Calls Tryz.prog f #[.pointer (some ⟨p, 0, none⟩)] (w.alloc (.cells #[.int .i64 0, .int .i64 0, .int .u64 0, .int .u64 0, .int .u64 0] 38)) (ToldF (w.alloc (.cells #[.int .i64 0, .int .i64 0, .int .u64 0, .int .u64 0, .int .u64 0] 38)) d g)) : Calls Tryz.prog 10 #[.pointer (some ⟨p, 0, none⟩)] w (ToldD w d true) := by
  obtain ⟨-, -, -, -, -, c_5, -⟩ := (h.later (box_below w (.cells #[.int .i64 0, .int .i64 0, .int .u64 0, .int .u64 0, .int .u64 0] 38))).cells
  have HA := Lib.hid ha
  have HS := Lib.hid hs
  have he : (a == 0) = false := by simpa using h0
  clear h ha hs
  go_enter Tryz.func10, Tryz.ntmps10
  go_wp2_with fail
  refine (HA.out _).mono ?_
  rintro e w1 ⟨rfl, rfl⟩
  go_wp2_with fail
  refine (HS.out).mono ?_
  rintro e w1 ⟨rfl, b0⟩
  have b1 := b0.trans ((box_below w1 (.cells #[.int .i64 d.1, .int .i64 d.2.1, .int .u64 d.2.2.1, .int .u64 d.2.2.2.1, .int .u64 d.2.2.2.2] 38)).mono b0.size)
  obtain ⟨⟨r0, r1, r2, r3, r4⟩, g0, g1, g2, g3, g4⟩ := res5 b1
  obtain ⟨⟨s0, s1, s2, s3, s4⟩, hB⟩ := set5 b1 (.int .i64 d.1) (.int .i64 d.2.1) (.int .u64 d.2.2.1) (.int .u64 d.2.2.2.1) (.int .u64 d.2.2.2.2)
  have HB := Lib.hid hB
  clear hB b1 b0 c_5
  go_wp2
  exact bodyPost_ret (v := .tuple #[.agg #[.int .i64 d.1, .int .i64 d.2.1, .int .u64 d.2.2.1, .int .u64 d.2.2.2.1, .int .u64 d.2.2.2.2], .bool true]) (by simp [results, Tryz.results10, go_sem, s0, s1, s2, s3, s4]) rfl ⟨rfl, HB.out⟩
theorem tell_0 {w : World} {p : Nat} {T N L G ct a nw cu dd sp : Int} {V : Value} {x : Int} (h : Raw w p T N L G ct 0 nw cu dd V sp) : Calls Tryz.prog 11 #[.pointer (some ⟨p, 0, none⟩), .int .u64 x] w fun e w' => e = .returned (.tuple #[]) ∧ w = w' := by
  obtain ⟨-, -, -, -, -, c_5, -⟩ := h.cells
  clear h
  go_enter Tryz.func11, Tryz.ntmps11
  go_wp2
  exact bodyPost_ret (v := .tuple #[]) (results_none rfl _ _ _) rfl ⟨rfl, rfl⟩
theorem tell_step {w : World} {p : Nat} {T N L G ct a nw cu dd sp : Int} {V : Value} {x : Int} {f m : FuncId} {d : D} {Q : World → Prop} (h : Raw w p T N L G ct a nw cu dd V sp) (h0 : ¬ a = 0) (hcf : ∀ (xs : Array Value) (W : World), (callFunc f xs).run Tryz.prog W = .ok (.enter f xs) W) (hcm : ∀ (xs : Array Value) (W : World), (callFunc m xs).run Tryz.prog W = .ok (.enter m xs) W) (ha : ∀ W, Calls Tryz.prog 27 #[.int .i64 a] W fun e w' => e = .returned (.func (.func f) #[] #[]) ∧ W = w') (hs : Calls Tryz.prog f #[.pointer (some ⟨p, 0, none⟩)] w (ToldF w d (meth m p)))
    (hm : ∀ W, Below w.heap.size w W → Calls Tryz.prog m #[.pointer (some ⟨p, 0, none⟩), .int .u64 x] W fun e w' => e = .returned (.tuple #[]) ∧ Q w') : Calls Tryz.prog 11 #[.pointer (some ⟨p, 0, none⟩), .int .u64 x] w fun e w' => e = .returned (.tuple #[]) ∧ Q w' := by
  obtain ⟨-, -, -, -, -, c_5, -⟩ := h.cells
  have HA := Lib.hid ha
  have HS := Lib.hid hs
  have HM := Lib.hid hm
  have he : (a == 0) = false := by simpa using h0
  clear h ha hs hm
  go_enter Tryz.func11, Tryz.ntmps11
  go_wp2_with fail
  refine (HA.out _).mono ?_
  rintro e w1 ⟨rfl, rfl⟩
  go_wp2_with fail
  refine (HS.out).mono ?_
  rintro e w1 ⟨rfl, b0⟩
  have HB1 := Lib.hid (b0.trans ((box_below w1 (.cells #[.int .i64 d.1, .int .i64 d.2.1, .int .u64 d.2.2.1, .int .u64 d.2.2.2.1, .int .u64 d.2.2.2.2] 38)).mono b0.size))
  unfold meth
  clear b0 c_5
  go_wp2_with fail
  refine (HM.out _ HB1.out).mono ?_
  rintro e w2 ⟨rfl, q⟩
  have HQ := Lib.hid q
  clear q
  go_wp2
  exact bodyPost_end (results_none rfl _ _ _) rfl ⟨rfl, HQ.out⟩

theorem keepNow_any {w : World} {p : Nat} {T N L G ct a nw cu dd sp : Int} {V : Value} {x : Int} (h : Raw w p T N L G ct a nw cu dd V sp) : Calls Tryz.prog 37 #[.pointer (some ⟨p, 0, none⟩), .int .u64 x] w fun e w' => e = .returned (.tuple #[]) ∧ Raw w' p T N L G ct 2 (wrap64 x) cu dd V sp ∧ Only (fun k => k = p) w w' := by
  have f6 := h.thawed 6
  have f5 := (h.set_nw (wrap64 x)).thawed 5
  have HE := Lib.hid (And.intro ((h.set_nw (wrap64 x)).set_a 2) ((only_set w p 6 (.int .i64 (wrap64 x))).trans (only_set _ p 5 (.int .i64 2))))
  obtain ⟨-, -, -, -, -, c_5, c_6, -⟩ := h.cells
  clear h
  go_enter Tryz.func37, Tryz.ntmps37
  go_wp2
  exact bodyPost_end (results_none rfl _ _ _) rfl ⟨rfl, HE.out⟩
theorem reach_count {w : World} {p : Nat} {T N L G ct a nw cu dd sp : Int} {V : Value} {x : Int} {A : Option Addr} {n c : Nat} (h : Raw w p T N L G ct a nw cu dd (.slice A n c) sp) (hc : ct ≤ (n : Int)) : Calls Tryz.prog 40 #[.pointer (some ⟨p, 0, none⟩), .int .u64 x] w fun e w' => e = .returned (.tuple #[]) ∧ Raw w' p T N L G ct 0 nw cu dd (.slice A n c) sp ∧ Only (fun k => k = p) w w' := by
  obtain ⟨-, -, -, -, c_4, c_5, -, -, -, c_9, -⟩ := h.cells
  have HX := Lib.hid h
  have C4 := fun q : After w => q.cell c_4
  have C9 := fun q : After w => q.cell c_9
  have hd : decide (ct ≤ (n : Int)) = true := decide_eq_true hc
  clear h c_4 c_9 hc c_5
  go_enter Tryz.func40, Tryz.ntmps40
  go_wp2
  refine wp_region_after mixed (by kernel_rfl) ?_
  repeat (first | go_big_quiet_step (fail) | quiet_step (fail))
  refine wpQuiet_nil ?_
  intro _ hw'
  obtain ⟨pq, hw''⟩ := hw'
  subst hw''
  have hq := pq.ok
  generalize pq.x = wq at hq ⊢
  have h1 := HX.out.later hq
  have c_5 := h1.cells.2.2.2.2.2.1
  have f5 := h1.thawed 5
  have HE := Lib.hid (And.intro (h1.set_a 0) ((only_below (fun k => k = p) hq).trans (only_set wq p 5 (.int .i64 0))))
  clear h1
  go_wp2
  exact bodyPost_ret (v := .tuple #[]) (results_none rfl _ _ _) rfl ⟨rfl, HE.out⟩
theorem reach_none {w : World} {p : Nat} {T N L G ct a nw cu dd sp : Int} {V : Value} {x : Int} {A : Option Addr} {n c : Nat} (h : Raw w p T N L G ct a nw cu dd (.slice A n c) sp) (hc : ¬ ct ≤ (n : Int)) (hx : 0 ≤ x ∧ x < 18446744073709551616) (h0 : idx x = 0) : Calls Tryz.prog 40 #[.pointer (some ⟨p, 0, none⟩), .int .u64 x] w fun e w' => e = .returned (.tuple #[]) ∧ Raw w' p T N L G ct 0 nw cu dd (.slice A n c) sp ∧ Only (fun k => k = p) w w' := by
  obtain ⟨-, -, -, -, c_4, c_5, -, c_7, -, c_9, -⟩ := h.cells
  have HX := Lib.hid h
  have HN := Lib.hid fun W => Refer.None_any x hx.1 hx.2 W
  have HP := Lib.hid fun W => Refer.Plain_any x hx.1 hx.2 W
  rw [show x % 4294967296 / 2 = idx x from rfl, decide_eq_true h0] at HN
  rw [show x - x % 2 = plainI x from rfl] at HP
  have C4 := fun q : After w => q.cell c_4
  have C9 := fun q : After w => q.cell c_9
  have hd : decide (ct ≤ (n : Int)) = false := decide_eq_false hc
  clear h c_4 c_9 hc c_5 h0 hx c_7
  go_enter Tryz.func40, Tryz.ntmps40
  go_wp2
  refine wp_region_after mixed (by kernel_rfl) ?_
  repeat (first | go_big_quiet_step ((exact calls_after_same (HN.out _))) | quiet_step ((exact calls_after_same (HN.out _))))
  refine wpQuiet_nil ?_
  intro _ hw'
  obtain ⟨pq, hw''⟩ := hw'
  subst hw''
  have hq := pq.ok
  generalize pq.x = wq at hq ⊢
  have h1 := HX.out.later hq
  have c_5 := h1.cells.2.2.2.2.2.1
  have c_7 := h1.cells.2.2.2.2.2.2.2.1
  have f5 := h1.thawed 5
  have f7 := h1.thawed 7
  have g5 := (h1.set_cu (plainI x)).thawed 5
  have HE := Lib.hid (And.intro (h1.set_a 0) ((only_below (fun k => k = p) hq).trans (only_set wq p 5 (.int .i64 0))))
  have HF := Lib.hid (And.intro ((h1.set_cu (plainI x)).set_a 3) ((only_below (fun k => k = p) hq).trans ((only_set wq p 7 (.int .u64 (plainI x))).trans (only_set _ p 5 (.int .i64 3)))))
  clear h1
  go_wp2_with (refine (HP.out _).mono ?_; rintro e w' ⟨rfl, rfl⟩)
  first
    | exact bodyPost_ret (v := .tuple #[]) (results_none rfl _ _ _) rfl ⟨rfl, HE.out⟩
    | exact bodyPost_end (results_none rfl _ _ _) rfl ⟨rfl, HF.out⟩
theorem reach_more {w : World} {p : Nat} {T N L G ct a nw cu dd sp : Int} {V : Value} {x : Int} {A : Option Addr} {n c : Nat} (h : Raw w p T N L G ct a nw cu dd (.slice A n c) sp) (hc : ¬ ct ≤ (n : Int)) (hx : 0 ≤ x ∧ x < 18446744073709551616) (h0 : ¬ idx x = 0) : Calls Tryz.prog 40 #[.pointer (some ⟨p, 0, none⟩), .int .u64 x] w fun e w' => e = .returned (.tuple #[]) ∧ Raw w' p T N L G ct 3 nw (plainI x) dd (.slice A n c) sp ∧ Only (fun k => k = p) w w' := by
  obtain ⟨-, -, -, -, c_4, c_5, -, c_7, -, c_9, -⟩ := h.cells
  have HX := Lib.hid h
  have HN := Lib.hid fun W => Refer.None_any x hx.1 hx.2 W
  have HP := Lib.hid fun W => Refer.Plain_any x hx.1 hx.2 W
  rw [show x % 4294967296 / 2 = idx x from rfl, decide_eq_false h0] at HN
  rw [show x - x % 2 = plainI x from rfl] at HP
  have C4 := fun q : After w => q.cell c_4
  have C9 := fun q : After w => q.cell c_9
  have hd : decide (ct ≤ (n : Int)) = false := decide_eq_false hc
  clear h c_4 c_9 hc c_5 h0 hx c_7
  go_enter Tryz.func40, Tryz.ntmps40
  go_wp2
  refine wp_region_after mixed (by kernel_rfl) ?_
  repeat (first | go_big_quiet_step ((exact calls_after_same (HN.out _))) | quiet_step ((exact calls_after_same (HN.out _))))
  refine wpQuiet_nil ?_
  intro _ hw'
  obtain ⟨pq, hw''⟩ := hw'
  subst hw''
  have hq := pq.ok
  generalize pq.x = wq at hq ⊢
  have h1 := HX.out.later hq
  have c_5 := h1.cells.2.2.2.2.2.1
  have c_7 := h1.cells.2.2.2.2.2.2.2.1
  have f5 := h1.thawed 5
  have f7 := h1.thawed 7
  have g5 := (h1.set_cu (plainI x)).thawed 5
  have HE := Lib.hid (And.intro (h1.set_a 0) ((only_below (fun k => k = p) hq).trans (only_set wq p 5 (.int .i64 0))))
  have HF := Lib.hid (And.intro ((h1.set_cu (plainI x)).set_a 3) ((only_below (fun k => k = p) hq).trans ((only_set wq p 7 (.int .u64 (plainI x))).trans (only_set _ p 5 (.int .i64 3)))))
  clear h1
  go_wp2_with (refine (HP.out _).mono ?_; rintro e w' ⟨rfl, rfl⟩)
  first
    | exact bodyPost_ret (v := .tuple #[]) (results_none rfl _ _ _) rfl ⟨rfl, HE.out⟩
    | exact bodyPost_end (results_none rfl _ _ _) rfl ⟨rfl, HF.out⟩
theorem keepDead_stop {w : World} {p : Nat} {T N L G ct a nw cu dd sp : Int} {V : Value} {x : Int} (h : Raw w p T N L G ct a nw cu dd V sp) (h0 : nw < wrap64 x) : Calls Tryz.prog 44 #[.pointer (some ⟨p, 0, none⟩), .int .u64 x] w fun e w' => e = .returned (.tuple #[]) ∧ Raw w' p T N L G ct 0 nw cu (wrap64 x) V (wrap64 x) ∧ Only (fun k => k = p) w w' := by
  have hd : decide (nw < wrap64 x) = true := decide_eq_true h0
  obtain ⟨-, -, -, -, -, c_5, c_6, -, c_8, -⟩ := h.cells
  have f8 := h.thawed 8
  have f5 := (h.set_dd (wrap64 x)).thawed 5
  have h1 := (h.set_dd (wrap64 x)).set_a 4
  have o1 := (only_set w p 8 (.int .i64 (wrap64 x))).trans (only_set _ p 5 (.int .i64 4))
  obtain ⟨-, -, -, -, -, d_5, d_6, -, d_8, -⟩ := h1.cells
  have C6 := fun q : After ((w.setCell ⟨p, 8, none⟩ (.int .i64 (wrap64 x))).setCell ⟨p, 5, none⟩ (.int .i64 4)) => q.cell d_6
  have C8 := fun q : After ((w.setCell ⟨p, 8, none⟩ (.int .i64 (wrap64 x))).setCell ⟨p, 5, none⟩ (.int .i64 4)) => q.cell d_8
  have HX := Lib.hid (And.intro h1 o1)
  clear h h1 o1 h0 d_5 d_6 d_8 c_6
  go_enter Tryz.func44, Tryz.ntmps44
  go_wp2
  refine wp_region_after mixed (by kernel_rfl) ?_
  repeat (first | go_big_quiet_step (fail) | quiet_step (fail))
  refine wpQuiet_nil ?_
  intro _ hw'
  obtain ⟨pq, hw''⟩ := hw'
  subst hw''
  have hq := pq.ok
  generalize pq.x = wq at hq ⊢
  have h2 := HX.out.1.later hq
  have o2 := HX.out.2.then_below hq
  have f5 := (h2.set_sp (wrap64 x)).thawed 5
  have f10 := h2.thawed 10
  obtain ⟨-, -, -, -, -, e_5, -, -, e_8, -, e_10⟩ := h2.cells
  have HE := Lib.hid (And.intro ((h2.set_sp (wrap64 x)).set_a 0) (o2.trans ((only_set wq p 10 (.int .i64 (wrap64 x))).trans (only_set _ p 5 (.int .i64 0)))))
  have HF := Lib.hid (And.intro h2 o2)
  clear h2 o2
  go_wp2
  first
    | exact bodyPost_ret (v := .tuple #[]) (results_none rfl _ _ _) rfl ⟨rfl, HE.out⟩
    | exact bodyPost_end (results_none rfl _ _ _) rfl ⟨rfl, HE.out⟩
    | exact bodyPost_end (results_none rfl _ _ _) rfl ⟨rfl, HF.out⟩
theorem keepDead_on {w : World} {p : Nat} {T N L G ct a nw cu dd sp : Int} {V : Value} {x : Int} (h : Raw w p T N L G ct a nw cu dd V sp) (h0 : ¬ nw < wrap64 x) : Calls Tryz.prog 44 #[.pointer (some ⟨p, 0, none⟩), .int .u64 x] w fun e w' => e = .returned (.tuple #[]) ∧ Raw w' p T N L G ct 4 nw cu (wrap64 x) V sp ∧ Only (fun k => k = p) w w' := by
  have hd : decide (nw < wrap64 x) = false := decide_eq_false h0
  obtain ⟨-, -, -, -, -, c_5, c_6, -, c_8, -⟩ := h.cells
  have f8 := h.thawed 8
  have f5 := (h.set_dd (wrap64 x)).thawed 5
  have h1 := (h.set_dd (wrap64 x)).set_a 4
  have o1 := (only_set w p 8 (.int .i64 (wrap64 x))).trans (only_set _ p 5 (.int .i64 4))
  obtain ⟨-, -, -, -, -, d_5, d_6, -, d_8, -⟩ := h1.cells
  have C6 := fun q : After ((w.setCell ⟨p, 8, none⟩ (.int .i64 (wrap64 x))).setCell ⟨p, 5, none⟩ (.int .i64 4)) => q.cell d_6
  have C8 := fun q : After ((w.setCell ⟨p, 8, none⟩ (.int .i64 (wrap64 x))).setCell ⟨p, 5, none⟩ (.int .i64 4)) => q.cell d_8
  have HX := Lib.hid (And.intro h1 o1)
  clear h h1 o1 h0 d_5 d_6 d_8 c_6
  go_enter Tryz.func44, Tryz.ntmps44
  go_wp2
  refine wp_region_after mixed (by kernel_rfl) ?_
  repeat (first | go_big_quiet_step (fail) | quiet_step (fail))
  refine wpQuiet_nil ?_
  intro _ hw'
  obtain ⟨pq, hw''⟩ := hw'
  subst hw''
  have hq := pq.ok
  generalize pq.x = wq at hq ⊢
  have h2 := HX.out.1.later hq
  have o2 := HX.out.2.then_below hq
  have f5 := (h2.set_sp (wrap64 x)).thawed 5
  have f10 := h2.thawed 10
  obtain ⟨-, -, -, -, -, e_5, -, -, e_8, -, e_10⟩ := h2.cells
  have HE := Lib.hid (And.intro ((h2.set_sp (wrap64 x)).set_a 0) (o2.trans ((only_set wq p 10 (.int .i64 (wrap64 x))).trans (only_set _ p 5 (.int .i64 0)))))
  have HF := Lib.hid (And.intro h2 o2)
  clear h2 o2
  go_wp2
  first
    | exact bodyPost_ret (v := .tuple #[]) (results_none rfl _ _ _) rfl ⟨rfl, HE.out⟩
    | exact bodyPost_end (results_none rfl _ _ _) rfl ⟨rfl, HE.out⟩
    | exact bodyPost_end (results_none rfl _ _ _) rfl ⟨rfl, HF.out⟩
theorem lives_any {w : World} {p : Nat} {T N L G ct a nw cu dd sp : Int} {V : Value} {x : Int} (h : Raw w p T N L G ct a nw cu dd V sp) (hc : 0 ≤ cu ∧ cu < 18446744073709551616) : Calls Tryz.prog 84 #[.pointer (some ⟨p, 0, none⟩), .int .u64 x] w fun e w' => e = .returned (.bool (decide (x = SM.stI (genI cu) 2))) ∧ w = w' := by
  have HGN := Lib.hid fun W => Refer.Gen_any cu hc.1 hc.2 W
  have hg := ClM.gen_ok hc
  have HIS := Lib.hid fun W => State.Is_any x (genI cu) 2 hg.1 W
  rw [ClM.is_live hg.2] at HIS
  rw [show cu / 4294967296 = genI cu from rfl] at HGN
  obtain ⟨g0, g1⟩ := hg
  generalize decide (x = SM.stI (genI cu) 2) = b at HIS ⊢
  generalize genI cu = g at HGN HIS g0 g1
  obtain ⟨-, -, -, -, -, -, -, c_7, -⟩ := h.cells
  clear h hc
  go_enter Tryz.func84, Tryz.ntmps84
  go_wp2_with fail
  refine (HGN.out _).mono ?_
  rintro e w2 ⟨rfl, rfl⟩
  go_wp2_with fail
  refine (HIS.out _).mono ?_
  rintro e w2 ⟨rfl, rfl⟩
  go_wp2
  go_ret
  exact ⟨rfl, rfl⟩
theorem goAfter_yes {w : World} {p : Nat} {T N L G ct a nw cu dd sp : Int} {V : Value} {x : Int} (h : Raw w p T N L G ct a nw cu dd V sp) (hc : 0 ≤ cu ∧ cu < 18446744073709551616) (h0 : x = SM.stI (genI cu) 2) : Calls Tryz.prog 47 #[.pointer (some ⟨p, 0, none⟩), .int .u64 x] w fun e w' => e = .returned (.tuple #[]) ∧ Raw w' p T N L G ct 5 nw cu dd V sp ∧ Only (fun k => k = p) w w' := by
  have h1 := h.set_a 7
  have HL := Lib.hid (lives_any (x := x) h1 hc)
  rw [decide_eq_true h0] at HL
  have f5 := h.thawed 5
  have g5 := h1.thawed 5
  have c_5 := h.cells.2.2.2.2.2.1
  have HE := Lib.hid (And.intro h1 (only_set w p 5 (.int .i64 7)))
  have HF := Lib.hid (And.intro (h1.set_a 5) ((only_set w p 5 (.int .i64 7)).trans (only_set _ p 5 (.int .i64 5))))
  clear h h1 hc h0
  go_enter Tryz.func47, Tryz.ntmps47
  go_wp2_with fail
  refine HL.out.mono ?_
  rintro e w2 ⟨rfl, rfl⟩
  go_wp2
  first
    | exact bodyPost_end (results_none rfl _ _ _) rfl ⟨rfl, HE.out⟩
    | exact bodyPost_end (results_none rfl _ _ _) rfl ⟨rfl, HF.out⟩
theorem goAfter_no {w : World} {p : Nat} {T N L G ct a nw cu dd sp : Int} {V : Value} {x : Int} (h : Raw w p T N L G ct a nw cu dd V sp) (hc : 0 ≤ cu ∧ cu < 18446744073709551616) (h0 : ¬ x = SM.stI (genI cu) 2) : Calls Tryz.prog 47 #[.pointer (some ⟨p, 0, none⟩), .int .u64 x] w fun e w' => e = .returned (.tuple #[]) ∧ Raw w' p T N L G ct 7 nw cu dd V sp ∧ Only (fun k => k = p) w w' := by
  have h1 := h.set_a 7
  have HL := Lib.hid (lives_any (x := x) h1 hc)
  rw [decide_eq_false h0] at HL
  have f5 := h.thawed 5
  have g5 := h1.thawed 5
  have c_5 := h.cells.2.2.2.2.2.1
  have HE := Lib.hid (And.intro h1 (only_set w p 5 (.int .i64 7)))
  have HF := Lib.hid (And.intro (h1.set_a 5) ((only_set w p 5 (.int .i64 7)).trans (only_set _ p 5 (.int .i64 5))))
  clear h h1 hc h0
  go_enter Tryz.func47, Tryz.ntmps47
  go_wp2_with fail
  refine HL.out.mono ?_
  rintro e w2 ⟨rfl, rfl⟩
  go_wp2
  first
    | exact bodyPost_end (results_none rfl _ _ _) rfl ⟨rfl, HE.out⟩
    | exact bodyPost_end (results_none rfl _ _ _) rfl ⟨rfl, HF.out⟩
/-- A walker in block p, the timers that it took in a row of its own; S: all its blocks. -/
def Parts (w : World) (p : Nat) (S : Nat → Prop) (T N L G ct a nw cu dd sp : Int) (out : List Du) (A : Option Addr) (c : Nat) : Prop :=
  Raw w p T N L G ct a nw cu dd (.slice A out.length c) sp ∧ w.ownsRow 0 77 3 (.slice A out.length c) out.length (flat encU out) ∧ S p ∧ (∀ b, A = some b → S b.block ∧ b.block ≠ p) ∧ ∀ k, S k → k < w.heap.size
theorem own_block {A : Option Addr} {n c k : Nat} (e : (Value.slice A n c).ownBlock = some k) : ∃ x, A = some x ∧ x.block = k := by
  cases A with
  | none => cases e
  | some a => cases e; exact ⟨a, rfl, rfl⟩
theorem Parts.put {w W0 w3 : World} {p g2 cap c n : Nat} {S : Nat → Prop} {T N L G ct a nw cu dd sp : Int} {out : List Du} {A : Option Addr} (h : Parts w p S T N L G ct a nw cu dd sp out A c) (x : Du) (hB : Below w.heap.size w W0) (hon : Only (fun k => (Value.slice A n c).ownBlock = some k) W0 w3) (hn : n = out.length)
    (ho : w3.ownsRow 0 77 3 (.slice (some ⟨g2, 0, none⟩) (n + 1) cap) (n + 1) (flat encU out ++ encU x)) (hor : (Value.slice A n c).ownBlock = some g2 ∨ g2 = W0.heap.size) (hlt : g2 < w3.heap.size) :
    Raw w3 p T N L G ct a nw cu dd (.slice A n c) sp ∧ ∃ S', Parts (w3.setCell ⟨p, 9, none⟩ (.slice (some ⟨g2, 0, none⟩) (n + 1) cap)) p S' T N L G ct a nw cu dd sp (out ++ [x]) (some ⟨g2, 0, none⟩) cap ∧
      Only S w (w3.setCell ⟨p, 9, none⟩ (.slice (some ⟨g2, 0, none⟩) (n + 1) cap)) ∧ ∀ k, S' k → S k ∨ (w.heap.size ≤ k ∧ k < w3.heap.size) := by
  subst hn
  obtain ⟨h1, h2, h3, h4, h5⟩ := h
  have hz := hB.size
  have hp := h5 p h3
  have hR : Only (fun k => (Value.slice A out.length c).ownBlock = some k) w w3 := (only_below _ hB).trans hon
  have hnp : ¬ (Value.slice A out.length c).ownBlock = some p := fun e => by obtain ⟨x, hx, hxp⟩ := own_block e; exact (h4 x hx).2 hxp
  have hb3 := h1.only hR hnp
  have hg : (S g2 ∨ w.heap.size ≤ g2) ∧ g2 ≠ p := by
    rcases hor with e | e
    · obtain ⟨x, hx, rfl⟩ := own_block e
      exact ⟨.inl (h4 x hx).1, (h4 x hx).2⟩
    · exact ⟨.inr (by omega), by omega⟩
  have hs := only_set w3 p 9 (.slice (some ⟨g2, 0, none⟩) (out.length + 1) cap)
  have hl : (out ++ [x]).length = out.length + 1 := by simp
  refine ⟨hb3, fun k => S k ∨ k = g2, ⟨?_, ?_, .inl h3, ?_, ?_⟩, ?_, ?_⟩
  · rw [hl]; exact hb3.set_v _
  · rw [hl, flat_append, flat_one]
    exact hs.own ho (fun k hk e => by obtain ⟨x, hx, rfl⟩ := own_block hk; cases hx; exact hg.2 e)
  · rintro a e; cases e; exact ⟨.inr rfl, hg.2⟩
  · rintro k (hk | rfl)
    · have h1 := h5 k hk; have h2 := hR.size; have h3 := hs.size; omega
    · have h3 := hs.size; omega
  · exact (hR.wide (R' := S) fun k e => by obtain ⟨y, hy, rfl⟩ := own_block e; exact .inl (h4 y hy).1).setCell (.inl h3) _
  · rintro k (hk | rfl)
    · exact .inl hk
    · exact hg.1.imp id fun z => ⟨z, hlt⟩
theorem keepSeq_any {w : World} {p : Nat} {T N L G ct a nw cu dd sp : Int} {V : Value} {x hh d0 z : Int} {l : List Du} {g n c : Nat} (h : Raw w p T N L G ct a nw cu dd (.slice (some ⟨g, 0, none⟩) n c) sp) (ho : w.ownsRow 0 77 3 (.slice (some ⟨g, 0, none⟩) n c) n (flat encU (l ++ [(hh, d0, z)]))) (hn : n = l.length + 1) (hm : n ≤ 1000000) (hgp : g ≠ p) : Calls Tryz.prog 54 #[.pointer (some ⟨p, 0, none⟩), .int .u64 x] w fun e w' =>
    e = .returned (.tuple #[]) ∧ Raw w' p T N L G ct 7 nw cu dd (.slice (some ⟨g, 0, none⟩) n c) sp ∧ w'.ownsRow 0 77 3 (.slice (some ⟨g, 0, none⟩) n c) n (flat encU (l ++ [(hh, d0, x)])) ∧ Only (fun k => k = p ∨ k = g) w w' := by
  obtain ⟨m, hmm⟩ : ∃ m, m = l.length := ⟨_, rfl⟩
  have HM := Lib.hid hmm
  rw [← hmm] at hn
  subst hn
  obtain ⟨q0, q1, q2⟩ := own_last ho (by rw [hmm]) x
  rw [← hmm] at q0 q1 q2
  obtain ⟨-, -, -, -, -, c_5, -, -, -, c_9, -⟩ := h.cells
  have hs := only_set w g (m * 3 + 2) (.int .u64 x)
  have h1 := h.only hs (fun e => hgp e.symm)
  obtain ⟨W1, hW1⟩ : ∃ W1, W1 = (w.setCell ⟨g, m * 3 + 2, none⟩ (.int .u64 x)).drew := ⟨_, rfl⟩
  have h2 : Raw W1 p T N L G ct a nw cu dd (.slice (some ⟨g, 0, none⟩) (m + 1) c) sp := by subst hW1; exact h1
  have HQ := Lib.hid (show W1.ownsRow 0 77 3 (.slice (some ⟨g, 0, none⟩) (m + 1) c) (m + 1) (flat encU (l ++ [(hh, d0, x)])) by subst hW1; exact q2)
  have HS := Lib.hid (show Only (fun k => k = p ∨ k = g) w W1 by subst hW1; exact (hs.wide fun k e => .inl (.inr e)).drew)
  have f5 := h2.thawed 5
  have e_5 := h2.cells.2.2.2.2.2.1
  have HE := Lib.hid (h2.set_a 7)
  have HW1 := Lib.hid hW1
  have hw : IntKind.i64.wrap (m : Int) = (m : Int) := by rw [IntKind.wrap_i64]; omega
  have hlt : (m : Int) < (m : Int) + 1 := by omega
  have hge : (0 : Int) ≤ (m : Int) := by omega
  clear h h1 h2 hmm hm ho q2 hs hW1
  go_enter Tryz.func54, Tryz.ntmps54
  go_wp2
  go_region
  rw [← HW1.out]
  go_wp2
  have HR := Lib.hid ((only_set W1 p 5 (.int .i64 7)).own HQ.out (fun k hk e => by cases hk; exact hgp e))
  exact bodyPost_end (results_none rfl _ _ _) rfl ⟨rfl, HE.out, HR.out, HS.out.trans ((only_set W1 p 5 (.int .i64 7)).wide fun k e => .inl (.inl e))⟩
theorem keepTimer_no {w : World} {p : Nat} {T N L G ct a nw cu dd sp : Int} {V : Value} {x : Int} (h : Raw w p T N L G ct a nw cu dd V sp) (hc : 0 ≤ cu ∧ cu < 18446744073709551616) (h0 : ¬ x = SM.stI (genI cu) 2) : Calls Tryz.prog 51 #[.pointer (some ⟨p, 0, none⟩), .int .u64 x] w fun e w' => e = .returned (.tuple #[]) ∧ Raw w' p T N L G ct 7 nw cu dd V sp ∧ Only (fun k => k = p) w w' := by
  have HL := Lib.hid (lives_any (x := x) h hc)
  rw [decide_eq_false h0] at HL
  have f5 := h.thawed 5
  have c_5 := h.cells.2.2.2.2.2.1
  have HE := Lib.hid (And.intro (h.set_a 7) (only_set w p 5 (.int .i64 7)))
  clear h hc h0
  go_enter Tryz.func51, Tryz.ntmps51
  go_wp2_with fail
  refine HL.out.mono ?_
  rintro e w2 ⟨rfl, rfl⟩
  go_wp2
  exact bodyPost_ret (v := .tuple #[]) (results_none rfl _ _ _) rfl ⟨rfl, HE.out⟩
theorem pair_hand {r : Int} (hr : 0 ≤ r ∧ r < 18446744073709551616) : genI r % 4294967296 * 4294967296 + IntKind.u64.wrap (idx r) % 4294967296 = handI r := by
  rw [IntKind.wrap_u64]
  unfold handI genI idx
  omega
theorem keepTimer_yes {w : World} {p c : Nat} {S : Nat → Prop} {T N L G ct a nw cu dd sp x : Int} {out : List Du} {A : Option Addr} (h : Parts w p S T N L G ct a nw cu dd sp out A c) (hm : out.length ≤ 1000000) (hc : 0 ≤ cu ∧ cu < 18446744073709551616) (h0 : x = SM.stI (genI cu) 2) : Calls Tryz.prog 51 #[.pointer (some ⟨p, 0, none⟩), .int .u64 x] w fun e w' =>
    e = .returned (.tuple #[]) ∧ ∃ S' A' c', Parts w' p S' T N L G ct 6 nw cu dd sp (out ++ [(handI cu, dd, 0)]) A' c' ∧ Only S w w' ∧ ∀ k, S' k → S k ∨ (w.heap.size ≤ k ∧ k < w'.heap.size) := by
  have HL := Lib.hid (lives_any (x := x) h.1 hc)
  rw [decide_eq_true h0] at HL
  obtain ⟨wd, hwd⟩ : ∃ wd, wd = w.drew := ⟨_, rfl⟩
  have hbd : Below w.heap.size w wd := by rw [hwd]; exact (Below.refl _ _).drew
  have hpd : Parts wd p S T N L G ct a nw cu dd sp out A c := ⟨h.1.later hbd, own_later h.2.1 hbd, h.2.2.1, h.2.2.2.1, fun k e => Nat.lt_of_lt_of_le (h.2.2.2.2 k e) hbd.size⟩
  have HBD := Lib.hid hbd
  have HGN := Lib.hid fun W => Refer.Gen_any cu hc.1 hc.2 W
  have HIX := Lib.hid fun W => Refer.Index_any cu hc.1 hc.2 W
  have hg := ClM.gen_ok hc
  have HPR := Lib.hid fun W => Field.Pair_any (genI cu) (IntKind.u64.wrap (idx cu)) hg.1 (State.u64_lo _) (State.u64_hi _) W
  rw [pair_hand hc] at HPR
  rw [show cu / 4294967296 = genI cu from rfl] at HGN
  rw [show cu % 4294967296 / 2 = idx cu from rfl] at HIX
  obtain ⟨n, hn⟩ : ∃ n, n = out.length := ⟨_, rfl⟩
  have HN := Lib.hid hn
  have HP := Lib.hid hpd
  have ho1 := hpd.2.1
  rw [← hn] at ho1 hm
  have HO1 := Lib.hid ho1
  have HC7 := Lib.hid (show w.drew.cell? ⟨p, 7, none⟩ = some (.int .u64 cu) by have := hpd.1.cells.2.2.2.2.2.2.2.1; rw [hwd] at this; exact this)
  obtain ⟨-, -, -, -, -, d_5, -, d_7, d_8, d_9, -⟩ := hpd.1.cells
  rw [← hn] at d_9
  have K8 := fun o => cell_later (box_below wd o) d_8
  have K9 := fun o => cell_later (box_below wd o) d_9
  obtain ⟨i0, hi0, hz0, hz1, hz2⟩ := info_parts info_due
  have HWD := Lib.hid hwd
  clear hg
  generalize handI cu = hd at HPR ⊢
  generalize genI cu = g at HGN HPR
  generalize idx cu = i at HIX HPR
  have HA1 := Lib.hid (fun (W0 w3 : World) (g2 cap : Nat) (hB : Below wd.heap.size wd W0) (hg : W0.grownBy w3 (Value.slice A n c).ownBlock) (ho : w3.ownsRow 0 77 3 (.slice (some ⟨g2, 0, none⟩) (n + 1) cap) (n + 1) (flat encU out ++ encU (hd, dd, 0))) hor hlt => hpd.put (hd, dd, 0) hB (only_grown hg fun k e => e) hn ho hor hlt)
  clear h hc h0 hpd hbd hwd hn ho1
  go_enter Tryz.func51, Tryz.ntmps51
  go_wp2_with fail
  refine HL.out.mono ?_
  rintro e w2 ⟨rfl, rfl⟩
  go_wp2_with fail
  go_region_held3 (fun W => W.cell? ⟨p, 7, none⟩ = some (.int .u64 cu))
    ((first | (with_reducible exact HC7.out) | (with_reducible assumption)))
    (first
      | (go_at_call 49; refine (HGN.out _).mono ?_; rintro e w3 ⟨rfl, rfl⟩)
      | (go_at_call 43; refine (HIX.out _).mono ?_; rintro e w3 ⟨rfl, rfl⟩)
      | (go_at_call 86; refine (HPR.out _).mono ?_; rintro e w3 ⟨rfl, rfl⟩))
  rw [← HWD.out]
  go_wp2_with fail
  go_cut [] (fun wx => ∃ S' A' c', Parts wx p S' T N L G ct a nw cu dd sp (out ++ [(hd, dd, 0)]) A' c' ∧ Only S wd wx ∧ ∀ k, S' k → S k ∨ (wd.heap.size ≤ k ∧ k < wx.heap.size))
  case first =>
    go_region_law (refine step_append_lies _ rfl (.tmp 28) (.tmp 35) 43 rfl 0 77 i0 _ 3 24 Tryz.underlying43 hi0 hz0 hz1 hz2 rfl (by decide) _ n _ rfl (own_later HO1.out (((Below.refl _ _).alloc (Nat.le_refl _) _).drew)) ⟨wd.heap.size, 0, none⟩ 1 1 (encU (hd, dd, 0)) rfl rfl (cells_new _ _ _) (Open.enc3_one _ _ _ _) (by decide) (by simp only [maxLen]; omega) (by omega) (Nat.zero_le _) _ rfl ?_; intro g2 cap w3 ho2 hg2 hor2 hlt2; obtain ⟨k1, S1, k2, k3, k4⟩ := HA1.out _ _ _ _ (((Below.refl _ _).alloc (Nat.le_refl _) _).drew) hg2 ho2 hor2 hlt2; have f9 := k1.thawed 9; have m9 := k1.cells.2.2.2.2.2.2.2.2.2.1; have HP1 := Lib.hid k2; have HO2 := Lib.hid k3; have HS1 := Lib.hid k4; clear k1 k2 k3 k4 ho2 hg2 hor2 hlt2)
    all_goals go_wp2_with fail
    all_goals go_meet
    all_goals (case rel => exact ⟨_, _, _, HP1.out, HO2.out, fun k e => (HS1.out k e).imp id fun z => ⟨z.1, Nat.lt_of_lt_of_le z.2 (by simp [World.setCell])⟩⟩)
  case rest =>
    obtain ⟨S1, A1, c1, hp1, hon1, hs1⟩ := hcut
    have f5 := hp1.1.thawed 5
    have e_5 := hp1.1.cells.2.2.2.2.2.1
    have HE := Lib.hid (show Parts (wc.setCell ⟨p, 5, none⟩ (.int .i64 6)) p S1 T N L G ct 6 nw cu dd sp (out ++ [(hd, dd, 0)]) A1 c1 from
      ⟨hp1.1.set_a 6, (only_set wc p 5 (.int .i64 6)).own hp1.2.1 (fun k hk e => by obtain ⟨y, hy, q⟩ := own_block hk; exact (hp1.2.2.2.1 y hy).2 (q.trans e)), hp1.2.2.1, hp1.2.2.2.1, fun k e => Nat.lt_of_lt_of_le (hp1.2.2.2.2 k e) (only_set wc p 5 (.int .i64 6)).size⟩)
    have HF := Lib.hid (show Only S w (wc.setCell ⟨p, 5, none⟩ (.int .i64 6)) from ((only_below S HBD.out).trans hon1).setCell (.inl HP.out.2.2.1) _)
    have HS := Lib.hid hs1
    clear hp1 hon1 hs1
    go_wp2
    exact bodyPost_end (results_none rfl _ _ _) rfl ⟨rfl, _, _, _, HE.out, HF.out, fun k e => (HS.out k e).imp id fun z => ⟨Nat.le_trans HBD.out.size z.1, Nat.lt_of_lt_of_le z.2 (only_set wc p 5 (.int .i64 6)).size⟩⟩
end Go.Proofs.YtjeifnhfdbkkdaaGreatDoor.Wlk

/- Package walk (layer 26), part three: a walker as a task: what it asks for, what it becomes when it is told, which timers it took, by which deadline it was stopped; a new one; all else in memory stays as it was. -/
namespace Go.Proofs.YtjeifnhfdbkkdaaGreatDoor.Wlk
set_option maxRecDepth 20000
open Go.ChangeShapes Go.WideShapes Go.RowKit CM DM PM KM WaM Lay Plan Go.Proofs.YtjeifnhfdbkkdaaGreatDoor.Task Go.Proofs.YtjeifnhfdbkkdaaGreatDoor.DueRows
open ClM (genI)
set_option linter.unusedVariables false
set_option linter.unusedSimpArgs false

/-- A step's number in the program. -/
def atO (st : Int) : Int := if st ≤ 2 then st else st - 1
/-- A walker in block p, told k words at most; S: all its blocks. -/
def Walks (w : World) (p : Nat) (S : Nat → Prop) (T N L G ct : Int) (k : Nat) (s : WaM.St) : Prop := WaM.Ok k s ∧ ∃ A c, Parts w p S T N L G ct (atO s.st) s.nw s.cu s.dd s.sp s.out A c
section
variable {w w' : World} {p c : Nat} {S : Nat → Prop} {T N L G ct a nw cu dd sp : Int} {out : List Du} {A : Option Addr}
theorem Parts.only {R : Nat → Prop} (h : Parts w p S T N L G ct a nw cu dd sp out A c) (ho : Only R w w') (hR : ∀ k, S k → ¬ R k) : Parts w' p S T N L G ct a nw cu dd sp out A c :=
  ⟨h.1.only ho (hR _ h.2.2.1), ho.own h.2.1 (fun k hk => by obtain ⟨y, hy, rfl⟩ := own_block hk; exact hR _ (h.2.2.2.1 y hy).1), h.2.2.1, h.2.2.2.1, fun k e => Nat.lt_of_lt_of_le (h.2.2.2.2 k e) ho.size⟩
theorem Parts.later (h : Parts w p S T N L G ct a nw cu dd sp out A c) (hb : Below w.heap.size w w') : Parts w' p S T N L G ct a nw cu dd sp out A c := h.only (only_below (fun _ => False) hb) (fun _ _ => id)
/-- The walker's own block has turned. -/
theorem Parts.turn {a' nw' cu' dd' sp' : Int} (h : Parts w p S T N L G ct a nw cu dd sp out A c) (h1 : Raw w' p T N L G ct a' nw' cu' dd' (.slice A out.length c) sp') (ho : Only (fun k => k = p) w w') : Parts w' p S T N L G ct a' nw' cu' dd' sp' out A c :=
  ⟨h1, ho.own h.2.1 (fun k hk e => by obtain ⟨y, hy, rfl⟩ := own_block hk; exact (h.2.2.2.1 y hy).2 e), h.2.2.1, h.2.2.2.1, fun k e => Nat.lt_of_lt_of_le (h.2.2.2.2 k e) ho.size⟩
theorem Walks.only {k : Nat} {s : WaM.St} {R : Nat → Prop} (h : Walks w p S T N L G ct k s) (ho : Only R w w') (hR : ∀ k, S k → ¬ R k) : Walks w' p S T N L G ct k s := by
  obtain ⟨h1, A, c, h2⟩ := h
  exact ⟨h1, A, c, h2.only ho hR⟩
theorem Walks.later {k : Nat} {s : WaM.St} (h : Walks w p S T N L G ct k s) (hb : Below w.heap.size w w') : Walks w' p S T N L G ct k s := h.only (only_below (fun _ => False) hb) (fun _ _ => id)
theorem Walks.up {k k' : Nat} {s : WaM.St} (h : Walks w p S T N L G ct k s) (hk : k ≤ k') : Walks w p S T N L G ct k' s := ⟨h.1.up hk, h.2⟩
theorem Walks.old {k : Nat} {s : WaM.St} (h : Walks w p S T N L G ct k s) : S p ∧ ∀ j, S j → j < w.heap.size := by
  obtain ⟨h1, A, c, h2⟩ := h
  exact ⟨h2.2.2.1, h2.2.2.2.2⟩
end
theorem Walk_next {w : World} {p k : Nat} {S : Nat → Prop} {T N L G ct : Int} {s : WaM.St} (h : Walks w p S T N L G ct k s) : Calls Tryz.prog 10 #[.pointer (some ⟨p, 0, none⟩)] w (Told w (walkA T L s)) := by
  obtain ⟨ho, A, c, h1, -⟩ := h
  obtain ⟨st, nw, cu, dd, sp, out⟩ := s
  have hc := ho.cu.1
  have hs := ho.st
  simp only at h1 hc hs
  have h2 := fun a (h : Raw w p T N L G ct a nw cu dd (.slice A out.length c) sp) => h.later (box_below w (.cells #[.int .i64 0, .int .i64 0, .int .u64 0, .int .u64 0, .int .u64 0] 38))
  rcases hs with rfl | rfl | rfl | rfl | rfl | rfl | rfl | rfl
  · rw [walkA_0]; exact next_0 (a := 0) h1
  · rw [walkA_1]; exact next_step (a := 1) h1 (by decide) (fun _ _ => by kernel_rfl) at_1 (step_1 p _)
  · rw [walkA_2]; exact next_step (a := 2) h1 (by decide) (fun _ _ => by kernel_rfl) at_2 (step_2 (h2 _ h1))
  · rw [walkA_4]; exact next_step (a := 3) h1 (by decide) (fun _ _ => by kernel_rfl) at_3 (step_3 (h2 _ h1) hc)
  · rw [walkA_5]; exact next_step (a := 4) h1 (by decide) (fun _ _ => by kernel_rfl) at_4 (step_4 (h2 _ h1) hc)
  · rw [walkA_6]; exact next_step (a := 5) h1 (by decide) (fun _ _ => by kernel_rfl) at_5 (step_5 (h2 _ h1) hc)
  · rw [walkA_7]; exact next_step (a := 6) h1 (by decide) (fun _ _ => by kernel_rfl) at_6 (step_6 (h2 _ h1) hc)
  · rw [walkA_8]; exact next_step (a := 7) h1 (by decide) (fun _ _ => by kernel_rfl) at_7 (step_7 (h2 _ h1) hc)
/-- What a walker becomes. -/
def Became (w : World) (S : Nat → Prop) (p : Nat) (T N L G ct : Int) (k : Nat) (s : WaM.St) (w' : World) : Prop := ∃ S', Walks w' p S' T N L G ct k s ∧ Only S w w' ∧ ∀ j, S' j → S j ∨ (w.heap.size ≤ j ∧ j < w'.heap.size)
theorem became_own {w : World} {p k : Nat} {S : Nat → Prop} {T N L G ct : Int} {s : WaM.St} {w' : World} {A : Option Addr} {c : Nat} {a nw cu dd sp : Int} (hok : WaM.Ok k s) (h : Parts w p S T N L G ct a nw cu dd sp s.out A c) (h1 : Raw w' p T N L G ct (atO s.st) s.nw s.cu s.dd (.slice A s.out.length c) s.sp) (ho : Only (fun k => k = p) w w') : Became w S p T N L G ct k s w' :=
  ⟨S, ⟨hok, A, c, h.turn h1 ho⟩, ho.wide fun k e => .inl (e ▸ h.2.2.1), fun j e => .inl e⟩
theorem Walk_tell {w : World} {p k : Nat} {S : Nat → Prop} {T N L G ct : Int} {s : WaM.St} {x : Int} (h : Walks w p S T N L G ct k s) (hk : k ≤ 1000000) (hx : 0 ≤ x ∧ x < 18446744073709551616) : Calls Tryz.prog 11 #[.pointer (some ⟨p, 0, none⟩), .int .u64 x] w fun e w' => e = .returned (.tuple #[]) ∧ Became w S p T N L G ct (k + 1) (walkT ct s x) w' := by
  obtain ⟨ho, A, c, hp⟩ := h
  have hok := walkT_ok (count := ct) ho hx
  obtain ⟨st, nw, cu, dd, sp, out⟩ := s
  have hu := ho.up (Nat.le_succ k)
  have hc := ho.cu.1
  have hs := ho.st
  have hl := ho.len
  have h7 := ho.some
  simp only at hp hc hs hl h7
  have hW : ∀ {a a' nw' cu' dd' sp' : Int} {W w' : World}, Below w.heap.size w W → Raw w' p T N L G ct a' nw' cu' dd' (.slice A out.length c) sp' ∧ Only (fun k => k = p) W w' → Raw w' p T N L G ct a' nw' cu' dd' (.slice A out.length c) sp' ∧ Only (fun k => k = p) w w' := fun hb h => ⟨h.1, (only_below _ hb).trans h.2⟩
  have h1 := hp.1
  rcases hs with rfl | rfl | rfl | rfl | rfl | rfl | rfl | rfl
  · rw [walkT_0]
    refine (tell_0 (a := 0) h1).mono ?_
    rintro e w' ⟨rfl, rfl⟩
    exact ⟨rfl, S, ⟨hu, A, c, hp⟩, Only.refl _ _, fun j e => .inl e⟩
  · rw [walkT_1] at hok ⊢
    exact tell_step (a := 1) h1 (by decide) (fun _ _ => by kernel_rfl) (fun _ _ => by kernel_rfl) at_1 (step_1 p _) fun W hb => (keepNow_any (h1.later hb)).mono fun e w' ⟨e1, e2⟩ => ⟨e1, became_own hok hp (hW (a := 0) hb e2).1 (hW (a := 0) hb e2).2⟩
  · rw [walkT_2] at hok ⊢
    by_cases q1 : ct ≤ (out.length : Int)
    · rw [arrive_done (.inl q1)] at hok ⊢
      exact tell_step (a := 2) h1 (by decide) (fun _ _ => by kernel_rfl) (fun _ _ => by kernel_rfl) at_2 (step_2 h1) fun W hb => (reach_count (V := .nilFunc) (h1.later hb) q1).mono fun e w' ⟨e1, e2⟩ => ⟨e1, became_own hok hp (hW (a := 0) hb e2).1 (hW (a := 0) hb e2).2⟩
    · by_cases q2 : idx x = 0
      · rw [arrive_done (.inr q2)] at hok ⊢
        exact tell_step (a := 2) h1 (by decide) (fun _ _ => by kernel_rfl) (fun _ _ => by kernel_rfl) at_2 (step_2 h1) fun W hb => (reach_none (V := .nilFunc) (h1.later hb) q1 hx q2).mono fun e w' ⟨e1, e2⟩ => ⟨e1, became_own hok hp (hW (a := 0) hb e2).1 (hW (a := 0) hb e2).2⟩
      · rw [arrive_more (by simp only; omega)] at hok ⊢
        exact tell_step (a := 2) h1 (by decide) (fun _ _ => by kernel_rfl) (fun _ _ => by kernel_rfl) at_2 (step_2 h1) fun W hb => (reach_more (V := .nilFunc) (h1.later hb) q1 hx q2).mono fun e w' ⟨e1, e2⟩ => ⟨e1, became_own hok hp (hW (a := 0) hb e2).1 (hW (a := 0) hb e2).2⟩
  · by_cases q : nw < wrap64 x
    · rw [walkT_4s q] at hok ⊢
      exact tell_step (a := 3) h1 (by decide) (fun _ _ => by kernel_rfl) (fun _ _ => by kernel_rfl) at_3 (step_3 h1 hc) fun W hb => (keepDead_stop (h1.later hb) q).mono fun e w' ⟨e1, e2⟩ => ⟨e1, became_own hok hp (hW (a := 0) hb e2).1 (hW (a := 0) hb e2).2⟩
    · rw [walkT_4 q] at hok ⊢
      exact tell_step (a := 3) h1 (by decide) (fun _ _ => by kernel_rfl) (fun _ _ => by kernel_rfl) at_3 (step_3 h1 hc) fun W hb => (keepDead_on (h1.later hb) q).mono fun e w' ⟨e1, e2⟩ => ⟨e1, became_own hok hp (hW (a := 0) hb e2).1 (hW (a := 0) hb e2).2⟩
  · by_cases q : x = SM.stI (genI cu) 2
    · rw [walkT_5 q] at hok ⊢
      exact tell_step (a := 4) h1 (by decide) (fun _ _ => by kernel_rfl) (fun _ _ => by kernel_rfl) at_4 (step_4 h1 hc) fun W hb => (goAfter_yes (h1.later hb) hc q).mono fun e w' ⟨e1, e2⟩ => ⟨e1, became_own hok hp (hW (a := 0) hb e2).1 (hW (a := 0) hb e2).2⟩
    · rw [walkT_5n q] at hok ⊢
      exact tell_step (a := 4) h1 (by decide) (fun _ _ => by kernel_rfl) (fun _ _ => by kernel_rfl) at_4 (step_4 h1 hc) fun W hb => (goAfter_no (h1.later hb) hc q).mono fun e w' ⟨e1, e2⟩ => ⟨e1, became_own hok hp (hW (a := 0) hb e2).1 (hW (a := 0) hb e2).2⟩
  · by_cases q : x = SM.stI (genI cu) 2
    · rw [walkT_6 q] at hok ⊢
      refine tell_step (a := 5) h1 (by decide) (fun _ _ => by kernel_rfl) (fun _ _ => by kernel_rfl) at_5 (step_5 h1 hc) fun W hb => (keepTimer_yes (hp.later hb) (by omega) hc q).mono fun e w' ⟨e1, S', A', c', e2, e3, e4⟩ => ⟨e1, S', ⟨hok, A', c', e2⟩, (only_below _ hb).trans e3, fun j z => (e4 j z).imp id fun z => ⟨Nat.le_trans hb.size z.1, z.2⟩⟩
    · rw [walkT_6n q] at hok ⊢
      exact tell_step (a := 5) h1 (by decide) (fun _ _ => by kernel_rfl) (fun _ _ => by kernel_rfl) at_5 (step_5 h1 hc) fun W hb => (keepTimer_no (h1.later hb) hc q).mono fun e w' ⟨e1, e2⟩ => ⟨e1, became_own hok hp (hW (a := 0) hb e2).1 (hW (a := 0) hb e2).2⟩
  · rw [walkT_7] at hok ⊢
    obtain ⟨l, ⟨hh, d0, z⟩, rfl⟩ : ∃ l y, out = l ++ [y] := by
      rcases List.eq_nil_or_concat out with e | ⟨l, y, e⟩
      · exact absurd e (h7 rfl)
      · exact ⟨l, y, by simpa using e⟩
    rw [fillS_snoc] at hok ⊢
    have hn : (l ++ [(hh, d0, z)]).length = l.length + 1 := by simp
    have hn2 : (l ++ [(hh, d0, x)]).length = l.length + 1 := by simp
    rw [hn] at hl
    have hrow := hp.2.1
    rw [hn] at h1 hrow
    obtain ⟨g, cap, hv, -⟩ := hrow.form (by omega)
    cases hv
    have hgp := (hp.2.2.2.1 _ rfl).2
    refine tell_step (a := 6) h1 (by decide) (fun _ _ => by kernel_rfl) (fun _ _ => by kernel_rfl) at_6 (step_6 h1 hc) fun W hb => (keepSeq_any (V := .nilFunc) (h1.later hb) (own_later hrow hb) rfl (by omega) hgp).mono fun e w' ⟨e1, e2, e3, e4⟩ => ⟨e1, S, ⟨hok, some ⟨g, 0, none⟩, c, ?_⟩, ((only_below _ hb).trans e4).wide fun k e => .inl (e.elim (fun e => e ▸ hp.2.2.1) (fun e => e ▸ (hp.2.2.2.1 _ rfl).1)), fun j e => .inl e⟩
    refine ⟨?_, ?_, hp.2.2.1, hp.2.2.2.1, fun k z => Nat.lt_of_lt_of_le (hp.2.2.2.2 k z) ((only_below (fun k => k = p ∨ k = g) hb).trans e4).size⟩
    · simp only [hn2]; exact e2
    · simp only [hn2]; exact e3
  · rw [walkT_8] at hok ⊢
    by_cases q1 : ct ≤ (out.length : Int)
    · rw [arrive_done (.inl q1)] at hok ⊢
      exact tell_step (a := 7) h1 (by decide) (fun _ _ => by kernel_rfl) (fun _ _ => by kernel_rfl) at_7 (step_7 h1 hc) fun W hb => (reach_count (V := .nilFunc) (h1.later hb) q1).mono fun e w' ⟨e1, e2⟩ => ⟨e1, became_own hok hp (hW (a := 0) hb e2).1 (hW (a := 0) hb e2).2⟩
    · by_cases q2 : idx x = 0
      · rw [arrive_done (.inr q2)] at hok ⊢
        exact tell_step (a := 7) h1 (by decide) (fun _ _ => by kernel_rfl) (fun _ _ => by kernel_rfl) at_7 (step_7 h1 hc) fun W hb => (reach_none (V := .nilFunc) (h1.later hb) q1 hx q2).mono fun e w' ⟨e1, e2⟩ => ⟨e1, became_own hok hp (hW (a := 0) hb e2).1 (hW (a := 0) hb e2).2⟩
      · rw [arrive_more (by simp only; omega)] at hok ⊢
        exact tell_step (a := 7) h1 (by decide) (fun _ _ => by kernel_rfl) (fun _ _ => by kernel_rfl) at_7 (step_7 h1 hc) fun W hb => (reach_more (V := .nilFunc) (h1.later hb) q1 hx q2).mono fun e w' ⟨e1, e2⟩ => ⟨e1, became_own hok hp (hW (a := 0) hb e2).1 (hW (a := 0) hb e2).2⟩
theorem Batch_any {w : World} {p k : Nat} {S : Nat → Prop} {T N L G ct : Int} {s : WaM.St} (h : Walks w p S T N L G ct k s) (hk : k ≤ 1000000) : Calls Tryz.prog 15 #[.pointer (some ⟨p, 0, none⟩)] w fun e w' => ∃ A c, e = .returned (.slice A s.out.length c) ∧ w'.ownsRow w.heap.size 77 3 (.slice A s.out.length c) s.out.length (flat encU s.out) ∧ Below w.heap.size w w' := by
  obtain ⟨ho, A, c, hp⟩ := h
  have hl := ho.len
  have HC := Lib.hid (Clone_any (n := s.out.length) (c := c) (Row.of_own hp.2.1) rfl (by omega))
  have c_9 := hp.1.cells.2.2.2.2.2.2.2.2.2.1
  generalize s.out.length = n at HC c_9 ⊢
  clear ho hp hl
  go_enter Tryz.func15, Tryz.ntmps15
  go_wp2_with fail
  refine HC.out.mono ?_
  rintro e w1 ⟨A', c', rfl, h1, h2⟩
  have HE := Lib.hid (And.intro h1 h2)
  clear h1 h2
  go_wp2
  go_ret
  exact ⟨A', c', rfl, HE.out⟩
theorem Stop_any {w : World} {p k : Nat} {S : Nat → Prop} {T N L G ct : Int} {s : WaM.St} (h : Walks w p S T N L G ct k s) : Calls Tryz.prog 16 #[.pointer (some ⟨p, 0, none⟩)] w fun e w' => e = .returned (.int .i64 s.sp) ∧ w = w' := by
  obtain ⟨ho, A, c, hp⟩ := h
  have c_10 := hp.1.cells.2.2.2.2.2.2.2.2.2.2
  generalize s.sp = sp at c_10 ⊢
  clear ho hp
  go_enter Tryz.func16, Tryz.ntmps16
  go_wp2
  go_ret
  exact ⟨rfl, rfl⟩
theorem Walk_any (T N L G ct : Int) (w : World) : Calls Tryz.prog 9 #[.agg #[.int .i64 T, .int .i64 N, .int .i64 L, .int .u64 G], .int .i64 ct] w fun e w' => ∃ p S, e = .returned (.pointer (some ⟨p, 0, none⟩)) ∧ Walks w' p S T N L G ct 0 WaM.start ∧ (∀ j, S j → w.heap.size ≤ j ∧ j < w'.heap.size) ∧ Below w.heap.size w w' := by
  obtain ⟨c_0, c_1, c_2, c_3⟩ := box4 w (.int .i64 T) (.int .i64 N) (.int .i64 L) (.int .u64 G) 24
  have HB := Lib.hid (box_below w (.cells #[.int .i64 T, .int .i64 N, .int .i64 L, .int .u64 G] 24))
  have HE := Lib.hid (new_heap (w.alloc (.cells #[.int .i64 T, .int .i64 N, .int .i64 L, .int .u64 G] 24)) (.cells #[.int .i64 T, .int .i64 N, .int .i64 L, .int .u64 G, .int .i64 ct, .int .i64 1, .int .i64 0, .int .u64 0, .int .i64 0, .slice none 0 0, .int .i64 never] 64))
  go_enter Tryz.func9, Tryz.ntmps9
  go_wp2
  go_ret
  refine ⟨w.heap.size + 1, fun k => k = w.heap.size + 1, rfl, ⟨start_ok, none, 0, ?_, World.ownsRow_nil _ _ _ _, rfl, fun b e => (by cases e), fun k e => (by have e : k = w.heap.size + 1 := e; subst e; simp)⟩, fun j e => ?_, HB.out.trans ((box_below _ _).mono HB.out.size)⟩
  · have h := HE.out
    rw [World.size_alloc] at h
    exact h
  · subst e
    simp
end Go.Proofs.YtjeifnhfdbkkdaaGreatDoor.Wlk

/- Law 26's example. -/
namespace Go.Proofs.YtjeifnhfdbkkdaaGreatDoor.Law26
set_option maxRecDepth 20000
open Go.ChangeShapes Go.WideShapes Go.ChangeAt Go.RowKit CM DM PM KM WaM Runs Lay Plan Go.Proofs.YtjeifnhfdbkkdaaGreatDoor.Task
open Go.Proofs.YtjeifnhfdbkkdaaGreatDoor.Wlk (Walks Walk_any Walk_next Walk_tell Batch_any Stop_any Became)
set_option linter.unusedVariables false
set_option linter.unusedSimpArgs false

theorem wf_u64 {a : Int} (h : (Lit.int .u64 a).wf = true) : 0 ≤ a ∧ a < 18446744073709551616 := by
  simp [Lit.wf, IntKind.min, IntKind.max, IntKind.signed, IntKind.bits] at h; omega
theorem wf_i64 {a : Int} (h : (Lit.int .i64 a).wf = true) : -9223372036854775808 ≤ a ∧ a ≤ 9223372036854775807 := by
  simp [Lit.wf, IntKind.min, IntKind.max, IntKind.signed, IntKind.bits] at h; omega
theorem plan4 {w w' : World} {N : Nat} {R : Nat → Prop} {T S L G : Int} (h : w.cell? ⟨N, 0, none⟩ = some (.int .i64 T) ∧ w.cell? ⟨N, 1, none⟩ = some (.int .i64 S) ∧ w.cell? ⟨N, 2, none⟩ = some (.int .i64 L) ∧ w.cell? ⟨N, 3, none⟩ = some (.int .u64 G)) (ho : Only R w w') (hr : ¬ R N) :
    w'.cell? ⟨N, 0, none⟩ = some (.int .i64 T) ∧ w'.cell? ⟨N, 1, none⟩ = some (.int .i64 S) ∧ w'.cell? ⟨N, 2, none⟩ = some (.int .i64 L) ∧ w'.cell? ⟨N, 3, none⟩ = some (.int .u64 G) :=
  ⟨ho.cell h.1 hr, ho.cell h.2.1 hr, ho.cell h.2.2.1 hr, ho.cell h.2.2.2 hr⟩
theorem ex_1 : walkT 3 WaM.start 5 = ⟨2, 5, 0, 0, never, []⟩ := by unfold WaM.start; rw [walkT_1, wrap_in (by omega)]
theorem ex_2 : walkT 3 ⟨2, 5, 0, 0, never, []⟩ 0 = ⟨0, 5, 0, 0, never, []⟩ := by rw [walkT_2, arrive_done (.inr rfl)]
/-- Told, it lies behind the world of the beginning still. -/
theorem told {w W W' : World} {S : Nat → Prop} {p k : Nat} {T N L G ct : Int} {s : WaM.St} (hb : Below w.heap.size w W) (hS : ∀ j, S j → w.heap.size ≤ j) (h : Became W S p T N L G ct k s W') : ∃ S', Walks W' p S' T N L G ct k s ∧ Below w.heap.size w W' ∧ ∀ j, S' j → w.heap.size ≤ j := by
  obtain ⟨S', h1, h2, h3⟩ := h
  exact ⟨S', h1, hb.trans (h2.below hb.size hS), fun j e => (h3 j e).elim (hS j) (fun e => Nat.le_trans hb.size e.1)⟩
set_option maxHeartbeats 1000000 in
theorem awake_any (w : World) : Calls Tryz.prog 7 #[] w fun e w' => e = .returned (.bool true) ∧ Below w.heap.size w w' := by
  go_enter Tryz.func7, Tryz.ntmps7
  go_wp2_with fail
  refine (Walk_any 1 1 1 0 3 _).mono ?_
  rintro e w1 ⟨p, S, rfl, h1, hS1, b1⟩
  have H1 := Lib.hid h1
  have HB1 := Lib.hid b1
  have HS1 := Lib.hid (show ∀ j, S j → w.heap.size ≤ j from fun j e => (hS1 j e).1)
  clear h1 hS1 b1
  go_wp2_with fail
  refine (Walk_tell H1.out (by decide) (x := 5) ⟨by decide, by decide⟩).mono ?_
  rintro e w2 ⟨rfl, h2⟩
  rw [ex_1] at h2
  obtain ⟨S2, h2, b2, hS2⟩ := told HB1.out HS1.out h2
  have H2 := Lib.hid h2
  have HB2 := Lib.hid b2
  have HS2 := Lib.hid hS2
  clear h2 b2 hS2 H1 HB1 HS1
  go_wp2_with fail
  refine (Walk_tell H2.out (by decide) (x := 0) ⟨by decide, by decide⟩).mono ?_
  rintro e w3 ⟨rfl, h3⟩
  rw [ex_2] at h3
  obtain ⟨S3, h3, b3, hS3⟩ := told HB2.out HS2.out h3
  have H3 := Lib.hid h3
  have HB3 := Lib.hid b3
  clear h3 b3 hS3 H2 HB2 HS2
  go_wp2_with fail
  have hnx := Walk_next H3.out
  rw [walkA_0] at hnx
  refine hnx.mono ?_
  rintro e w4 ⟨rfl, b4⟩
  simp only [Option.getD_none, Option.isSome_none]
  have HB4 := Lib.hid (b4.trans ((box_below w4 (.cells #[.int .i64 0, .int .i64 0, .int .u64 0, .int .u64 0, .int .u64 0] 38)).mono b4.size))
  have H4 := Lib.hid (H3.out.later HB4.out)
  clear b4 hnx
  go_wp2_with fail
  refine (Batch_any H4.out (by decide)).mono ?_
  rintro e w5 ⟨A, c, rfl, -, b5⟩
  have HB5 := Lib.hid b5
  have H5 := Lib.hid (H4.out.later b5)
  clear b5
  simp only [List.length_nil]
  have hst := Stop_any H5.out
  simp only [never] at hst
  have HST := Lib.hid hst
  clear hst
  go_wp2_with fail
  refine HST.out.mono ?_
  rintro e w6 ⟨rfl, rfl⟩
  go_wp2
  go_ret
  exact ⟨rfl, (HB3.out.trans (HB4.out.mono HB3.out.size)).trans (HB5.out.mono (HB3.out.trans (HB4.out.mono HB3.out.size)).size)⟩
end Go.Proofs.YtjeifnhfdbkkdaaGreatDoor.Law26
