import Derived.Test.YtlagghghbpbcbaaGreatDoorStartComesAllP30
import Derived.Deep.DeepCutAuto
/- A maker that is told a word (package mint, layer 19), and a new one. -/
namespace Go.Proofs.YtlagghghbpbcbaaGreatDoor.Mint
set_option maxRecDepth 20000
open Go.ChangeShapes Go.WideShapes Go.RowKit CM DM PM MiM Lay Plan Go.Proofs.YtlagghghbpbcbaaGreatDoor.Task
set_option linter.unusedVariables false
set_option linter.unusedSimpArgs false

theorem Raw.drew {w : World} {p : Nat} {a0 a1 a2 a3 a4 i dl dw tw sa b3 sd b4 b5 b6 lf rf sq : Int} (h : Raw w p a0 a1 a2 a3 a4 i dl dw tw sa b3 sd b4 b5 b6 lf rf sq) : Raw w.drew p a0 a1 a2 a3 a4 i dl dw tw sa b3 sd b4 b5 b6 lf rf sq := h
set_option maxHeartbeats 1000000 in
theorem fill_any {p : Nat} {w : World} {a0 a1 a2 a3 a4 i dl dw tw sa b3 sd b4 b5 b6 lf rf sq g : Int} (h : Raw w p a0 a1 a2 a3 a4 i dl dw tw sa b3 sd b4 b5 b6 lf rf sq) (hg : 0 ≤ g) : Calls Tryz.prog 196 #[.pointer (some ⟨p, 0, none⟩), .int .u64 g] w fun e w' =>
    e = .returned (.tuple #[]) ∧ Raw w' p a0 a1 a2 a3 a4 i dl dw tw (SM.stI g 1) (RM.ofI g i) sd (RM.ofI g i) (RM.ofI g i) (RM.ofI g i) lf (RM.ofI g i) sq ∧ Only (fun k => k = p) w w' := by
  have c36 := h.cell 36
  have f37 := h.thawed 37
  have f7 := h.thawed 7
  have f19 := h.thawed 19
  have f24 := h.thawed 24
  have f29 := h.thawed 29
  have f34 := h.thawed 34
  have c37 := h.cell 37
  have c7 := h.cell 7
  have c19 := h.cell 19
  have c24 := h.cell 24
  have c29 := h.cell 29
  have c34 := h.cell 34
  simp at c36 c37 c7 c19 c24 c29 c34
  have hp := h.lt
  have HRO := Lib.hid fun W : World => Refer.Of_any g i hg W
  have HSO := Lib.hid fun W : World => State.Of_any g 1 hg W
  have HK := Lib.hid fun r s => And.intro ((((((h.set_rf r).set_sa s).set_b3 r).set_b4 r).set_b5 r).set_b6 r) ((((((only_set w p 37 (.int .u64 r)).setCell (p := ⟨p, 7, none⟩) (.inl rfl) (.int .u64 s)).setCell (p := ⟨p, 19, none⟩) (.inl rfl) (.int .u64 r)).setCell (p := ⟨p, 24, none⟩) (.inl rfl) (.int .u64 r)).setCell (p := ⟨p, 29, none⟩) (.inl rfl) (.int .u64 r)).setCell (p := ⟨p, 34, none⟩) (.inl rfl) (.int .u64 r))
  generalize RM.ofI g i = r at HRO ⊢
  generalize SM.stI g 1 = s at HSO ⊢
  clear h
  go_enter Tryz.func196, Tryz.ntmps196
  go_wp2_with fail
  refine (HRO.out _).mono ?_
  rintro e w1 ⟨rfl, rfl⟩
  go_wp2_with fail
  go_region_with (go_at_call 77; refine (HSO.out _).mono ?_; rintro e w1 ⟨rfl, rfl⟩)
  go_wp2
  refine wp_loop_rounds 5 ?_
  rw [rounds_succ]
  go_wp2
  rw [rounds_succ]
  go_wp2
  rw [rounds_succ]
  go_wp2
  rw [rounds_succ]
  go_wp2
  rw [rounds_succ]
  go_wp2
  refine bodyPost_end (results_none rfl _ _ _) rfl ?_
  exact ⟨rfl, Raw.drew (HK.out _ _).1, (HK.out _ _).2.drew⟩
/-- Where only the count goes on. -/
theorem tell_1 {p : Nat} {w : World} {a0 a1 a2 a3 a4 i dl dw tw sa b3 sd b4 b5 b6 rf sq f : Int} (h : Raw w p a0 a1 a2 a3 a4 i dl dw tw sa b3 sd b4 b5 b6 6 rf sq) : Calls Tryz.prog 194 #[.pointer (some ⟨p, 0, none⟩), .int .u64 f] w fun e w' =>
    e = .returned (.tuple #[]) ∧ Raw w' p a0 a1 a2 a3 a4 i dl dw tw sa b3 sd b4 b5 b6 5 rf sq ∧ Only (fun k => k = p) w w' := by
  have c35 := h.cell 35
  have f35 := h.thawed 35
  simp at c35
  have C := Lib.hid c35
  have HK := Lib.hid (And.intro (h.set_lf 5) (only_set w p 35 (.int .i64 5)))
  clear h
  go_enter Tryz.func194, Tryz.ntmps194
  go_wp2_with fail
  refine (done_no C.out (by decide)).mono ?_
  rintro e w' ⟨rfl, rfl⟩
  go_wp2
  refine bodyPost_end (results_none rfl _ _ _) rfl ?_
  exact ⟨rfl, HK.out⟩
theorem tell_3 {p : Nat} {w : World} {a0 a1 a2 a3 a4 i dl dw tw sa b3 sd b4 b5 b6 rf sq f : Int} (h : Raw w p a0 a1 a2 a3 a4 i dl dw tw sa b3 sd b4 b5 b6 4 rf sq) : Calls Tryz.prog 194 #[.pointer (some ⟨p, 0, none⟩), .int .u64 f] w fun e w' =>
    e = .returned (.tuple #[]) ∧ Raw w' p a0 a1 a2 a3 a4 i dl dw tw sa b3 sd b4 b5 b6 3 rf sq ∧ Only (fun k => k = p) w w' := by
  have c35 := h.cell 35
  have f35 := h.thawed 35
  simp at c35
  have C := Lib.hid c35
  have HK := Lib.hid (And.intro (h.set_lf 3) (only_set w p 35 (.int .i64 3)))
  clear h
  go_enter Tryz.func194, Tryz.ntmps194
  go_wp2_with fail
  refine (done_no C.out (by decide)).mono ?_
  rintro e w' ⟨rfl, rfl⟩
  go_wp2
  refine bodyPost_end (results_none rfl _ _ _) rfl ?_
  exact ⟨rfl, HK.out⟩
theorem tell_4 {p : Nat} {w : World} {a0 a1 a2 a3 a4 i dl dw tw sa b3 sd b4 b5 b6 rf sq f : Int} (h : Raw w p a0 a1 a2 a3 a4 i dl dw tw sa b3 sd b4 b5 b6 3 rf sq) : Calls Tryz.prog 194 #[.pointer (some ⟨p, 0, none⟩), .int .u64 f] w fun e w' =>
    e = .returned (.tuple #[]) ∧ Raw w' p a0 a1 a2 a3 a4 i dl dw tw sa b3 sd b4 b5 b6 2 rf sq ∧ Only (fun k => k = p) w w' := by
  have c35 := h.cell 35
  have f35 := h.thawed 35
  simp at c35
  have C := Lib.hid c35
  have HK := Lib.hid (And.intro (h.set_lf 2) (only_set w p 35 (.int .i64 2)))
  clear h
  go_enter Tryz.func194, Tryz.ntmps194
  go_wp2_with fail
  refine (done_no C.out (by decide)).mono ?_
  rintro e w' ⟨rfl, rfl⟩
  go_wp2
  refine bodyPost_end (results_none rfl _ _ _) rfl ?_
  exact ⟨rfl, HK.out⟩
theorem tell_5 {p : Nat} {w : World} {a0 a1 a2 a3 a4 i dl dw tw sa b3 sd b4 b5 b6 rf sq f : Int} (h : Raw w p a0 a1 a2 a3 a4 i dl dw tw sa b3 sd b4 b5 b6 2 rf sq) : Calls Tryz.prog 194 #[.pointer (some ⟨p, 0, none⟩), .int .u64 f] w fun e w' =>
    e = .returned (.tuple #[]) ∧ Raw w' p a0 a1 a2 a3 a4 i dl dw tw sa b3 sd b4 b5 b6 1 rf sq ∧ Only (fun k => k = p) w w' := by
  have c35 := h.cell 35
  have f35 := h.thawed 35
  simp at c35
  have C := Lib.hid c35
  have HK := Lib.hid (And.intro (h.set_lf 1) (only_set w p 35 (.int .i64 1)))
  clear h
  go_enter Tryz.func194, Tryz.ntmps194
  go_wp2_with fail
  refine (done_no C.out (by decide)).mono ?_
  rintro e w' ⟨rfl, rfl⟩
  go_wp2
  refine bodyPost_end (results_none rfl _ _ _) rfl ?_
  exact ⟨rfl, HK.out⟩
theorem tell_6 {p : Nat} {w : World} {a0 a1 a2 a3 a4 i dl dw tw sa b3 sd b4 b5 b6 rf sq f : Int} (h : Raw w p a0 a1 a2 a3 a4 i dl dw tw sa b3 sd b4 b5 b6 1 rf sq) : Calls Tryz.prog 194 #[.pointer (some ⟨p, 0, none⟩), .int .u64 f] w fun e w' =>
    e = .returned (.tuple #[]) ∧ Raw w' p a0 a1 a2 a3 a4 i dl dw tw sa b3 sd b4 b5 b6 0 rf sq ∧ Only (fun k => k = p) w w' := by
  have c35 := h.cell 35
  have f35 := h.thawed 35
  simp at c35
  have C := Lib.hid c35
  have HK := Lib.hid (And.intro (h.set_lf 0) (only_set w p 35 (.int .i64 0)))
  clear h
  go_enter Tryz.func194, Tryz.ntmps194
  go_wp2_with fail
  refine (done_no C.out (by decide)).mono ?_
  rintro e w' ⟨rfl, rfl⟩
  go_wp2
  refine bodyPost_end (results_none rfl _ _ _) rfl ?_
  exact ⟨rfl, HK.out⟩
theorem tell_2 {p : Nat} {w : World} {a0 a1 a2 a3 a4 i dl dw tw sa b3 sd b4 b5 b6 rf sq f : Int} (h : Raw w p a0 a1 a2 a3 a4 i dl dw tw sa b3 sd b4 b5 b6 5 rf sq) : Calls Tryz.prog 194 #[.pointer (some ⟨p, 0, none⟩), .int .u64 f] w fun e w' =>
    e = .returned (.tuple #[]) ∧ Raw w' p a0 a1 a2 a3 a4 i dl dw tw sa b3 f b4 b5 b6 4 rf f ∧ Only (fun k => k = p) w w' := by
  have c35 := h.cell 35
  have f35 := h.thawed 35
  have c39 := h.cell 39
  have f39 := h.thawed 39
  have c22 := h.cell 22
  have f22 := h.thawed 22
  simp at c35 c39 c22
  have C := Lib.hid c35
  have HK := Lib.hid (And.intro (((h.set_sq f).set_sd f).drew.set_lf 4) ((((only_set w p 39 (.int .u64 f)).setCell (p := ⟨p, 22, none⟩) (.inl rfl) (.int .u64 f)).drew).setCell (p := ⟨p, 35, none⟩) (.inl rfl) (.int .i64 4)))
  clear h
  go_enter Tryz.func194, Tryz.ntmps194
  go_wp2_with fail
  refine (done_no C.out (by decide)).mono ?_
  rintro e w' ⟨rfl, rfl⟩
  go_wp2
  go_region
  go_wp2
  refine bodyPost_end (results_none rfl _ _ _) rfl ?_
  exact ⟨rfl, HK.out⟩
theorem tell_0 {p : Nat} {w : World} {a0 a1 a2 a3 a4 i dl dw tw sa b3 sd b4 b5 b6 rf sq f : Int} (h : Raw w p a0 a1 a2 a3 a4 i dl dw tw sa b3 sd b4 b5 b6 7 rf sq) (h0 : 0 ≤ f) (h1 : f < 18446744073709551616) : Calls Tryz.prog 194 #[.pointer (some ⟨p, 0, none⟩), .int .u64 f] w fun e w' =>
    e = .returned (.tuple #[]) ∧ Raw w' p a0 a1 a2 a3 a4 i dl dw tw (SM.stI (f / 4294967296) 1) (RM.ofI (f / 4294967296) i) sd (RM.ofI (f / 4294967296) i) (RM.ofI (f / 4294967296) i) (RM.ofI (f / 4294967296) i) 6 (RM.ofI (f / 4294967296) i) sq ∧ Only (fun k => k = p) w w' := by
  have c35 := h.cell 35
  simp at c35
  have C := Lib.hid c35
  have HG := Lib.hid fun W : World => State.Gen_any f h0 h1 W
  have HFI := Lib.hid (fill_any h (show 0 ≤ f / 4294967296 by omega))
  generalize f / 4294967296 = g at HG HFI ⊢
  generalize RM.ofI g i = r at HFI ⊢
  generalize SM.stI g 1 = s at HFI ⊢
  clear h
  go_enter Tryz.func194, Tryz.ntmps194
  go_wp2_with fail
  refine (done_no C.out (by decide)).mono ?_
  rintro e w' ⟨rfl, rfl⟩
  go_wp2_with fail
  refine (HG.out _).mono ?_
  rintro e w1 ⟨rfl, rfl⟩
  go_wp2_with fail
  refine HFI.out.mono ?_
  rintro e w2 ⟨rfl, h2, o2⟩
  have HO := Lib.hid o2
  have d35 := h2.cell 35
  have f35 := h2.thawed 35
  simp at d35
  have HK := Lib.hid (And.intro (h2.set_lf 6) (o2.trans (only_set w2 p 35 (.int .i64 6))))
  clear h2 o2 c35
  go_wp2
  refine bodyPost_end (results_none rfl _ _ _) rfl ?_
  exact ⟨rfl, HK.out⟩
theorem tell_7 {p : Nat} {w : World} {f : Int} (h : w.cell? ⟨p, 35, none⟩ = some (.int .i64 0)) : Calls Tryz.prog 194 #[.pointer (some ⟨p, 0, none⟩), .int .u64 f] w fun e w' => e = .returned (.tuple #[]) ∧ w = w' := by
  have C := Lib.hid h
  clear h
  go_enter Tryz.func194, Tryz.ntmps194
  go_wp2_with fail
  refine (done_yes C.out).mono ?_
  rintro e w' ⟨rfl, rfl⟩
  go_wp2
  exact bodyPost_ret (v := .tuple #[]) (results_none rfl _ _ _) rfl ⟨rfl, rfl⟩
theorem Make_tell {p : Nat} {w : World} {T L i dl dw tw : Int} {s : St} (h : Makes w p T L i dl dw tw s) {f : Int} (hf : 0 ≤ f ∧ f < 18446744073709551616) : Calls Tryz.prog 194 #[.pointer (some ⟨p, 0, none⟩), .int .u64 f] w fun e w' =>
    e = .returned (.tuple #[]) ∧ Makes w' p T L i dl dw tw (minT i s f) ∧ Only (fun k => k = p) w w' := by
  have HK := minT_ok (i := i) h.2 hf
  have hc := k_cases h.2
  obtain ⟨h, hk⟩ := h
  obtain ⟨k, sa, r, sq⟩ := s
  simp only at hc
  rcases hc with rfl | rfl | rfl | rfl | rfl | rfl | rfl | rfl
  · exact (tell_0 h hf.1 hf.2).mono fun e w' ⟨a, b, c⟩ => ⟨a, ⟨b, HK⟩, c⟩
  · exact (tell_1 h).mono fun e w' ⟨a, b, c⟩ => ⟨a, ⟨b, HK⟩, c⟩
  · exact (tell_2 h).mono fun e w' ⟨a, b, c⟩ => ⟨a, ⟨b, HK⟩, c⟩
  · exact (tell_3 h).mono fun e w' ⟨a, b, c⟩ => ⟨a, ⟨b, HK⟩, c⟩
  · exact (tell_4 h).mono fun e w' ⟨a, b, c⟩ => ⟨a, ⟨b, HK⟩, c⟩
  · exact (tell_5 h).mono fun e w' ⟨a, b, c⟩ => ⟨a, ⟨b, HK⟩, c⟩
  · exact (tell_6 h).mono fun e w' ⟨a, b, c⟩ => ⟨a, ⟨b, HK⟩, c⟩
  · exact (tell_7 (Raw.cell h 35)).mono fun e w' ⟨a, b⟩ => by subst b; exact ⟨a, ⟨h, HK⟩, Only.refl _ _⟩
theorem stay_start {w w2 : World} (T S L G : Int) (hb : Below (w.heap.size + 1) (w.alloc (.cells #[.int .i64 T, .int .i64 S, .int .i64 L, .int .u64 G] 24)) w2) : (fun W : World => W.cell? ⟨w.heap.size, 0, none⟩ = some (.int .i64 T) ∧ W.cell? ⟨w.heap.size, 1, none⟩ = some (.int .i64 S) ∧ W.cell? ⟨w.heap.size, 2, none⟩ = some (.int .i64 L) ∧ W.cell? ⟨w.heap.size, 3, none⟩ = some (.int .u64 G) ∧ Below (w.heap.size + 1) (w.alloc (.cells #[.int .i64 T, .int .i64 S, .int .i64 L, .int .u64 G] 24)) W) w2 := by
  have ⟨a, b, c, d⟩ := box4_later hb
  exact ⟨a, b, c, d, hb⟩
theorem stay_keep {w W w' : World} {T S L G : Int} (hb : Below W.heap.size W w') (h : W.cell? ⟨w.heap.size, 0, none⟩ = some (.int .i64 T) ∧ W.cell? ⟨w.heap.size, 1, none⟩ = some (.int .i64 S) ∧ W.cell? ⟨w.heap.size, 2, none⟩ = some (.int .i64 L) ∧ W.cell? ⟨w.heap.size, 3, none⟩ = some (.int .u64 G) ∧ Below (w.heap.size + 1) (w.alloc (.cells #[.int .i64 T, .int .i64 S, .int .i64 L, .int .u64 G] 24)) W) : (fun W : World => W.cell? ⟨w.heap.size, 0, none⟩ = some (.int .i64 T) ∧ W.cell? ⟨w.heap.size, 1, none⟩ = some (.int .i64 S) ∧ W.cell? ⟨w.heap.size, 2, none⟩ = some (.int .i64 L) ∧ W.cell? ⟨w.heap.size, 3, none⟩ = some (.int .u64 G) ∧ Below (w.heap.size + 1) (w.alloc (.cells #[.int .i64 T, .int .i64 S, .int .i64 L, .int .u64 G] 24)) W) w' := stay_start T S L G (h.2.2.2.2.trans (hb.mono (by have := h.2.2.2.2.size; simpa using this)))
theorem stay_end {w W : World} {T S L G : Int} (h : W.cell? ⟨w.heap.size, 0, none⟩ = some (.int .i64 T) ∧ W.cell? ⟨w.heap.size, 1, none⟩ = some (.int .i64 S) ∧ W.cell? ⟨w.heap.size, 2, none⟩ = some (.int .i64 L) ∧ W.cell? ⟨w.heap.size, 3, none⟩ = some (.int .u64 G) ∧ Below (w.heap.size + 1) (w.alloc (.cells #[.int .i64 T, .int .i64 S, .int .i64 L, .int .u64 G] 24)) W) : w.heap.size ≤ W.heap.size ∧ Below w.heap.size w W := by
  have h1 : Below w.heap.size w W := (box_below w (.cells #[.int .i64 T, .int .i64 S, .int .i64 L, .int .u64 G] 24)).trans (h.2.2.2.2.mono (by omega))
  exact ⟨h1.size, h1⟩
set_option maxHeartbeats 2000000 in
theorem Mint_any (T S L G i dl tl : Int) (w : World) : Calls Tryz.prog 115 #[.agg #[.int .i64 T, .int .i64 S, .int .i64 L, .int .u64 G], .int .i64 i, .int .i64 dl, .int .i64 tl] w fun e w' => ∃ p, e = .returned (.pointer (some ⟨p, 0, none⟩)) ∧ Makes w' p T L i dl (IntKind.u64.wrap dl) (IntKind.u64.wrap tl) ⟨0, 0, 0, 0⟩ ∧ w.heap.size ≤ p ∧ Below w.heap.size w w' := by
  obtain ⟨c_0, c_1, c_2, c_3⟩ := box4 w (.int .i64 T) (.int .i64 S) (.int .i64 L) (.int .u64 G) 24
  have HST := Lib.hid (stay_start T S L G (show Below (w.heap.size + 1) (w.alloc (.cells #[.int .i64 T, .int .i64 S, .int .i64 L, .int .u64 G] 24)) (w.alloc (.cells #[.int .i64 T, .int .i64 S, .int .i64 L, .int .u64 G] 24)).drew from (Below.refl _ _).drew))
  have HA := Lib.hid fun (W : World) => And.intro (Plan.State_any T S L G i W) (And.intro (Plan.Dead_any T S L G i W) (And.intro (Plan.Seq_any T S L G i W) (And.intro (Plan.Tall_any T S L G i W) (Plan.Hold_any T S L G i W))))
  have HE := Lib.hid fun (W : World) a0 a1 a2 a3 a4 dw tw => And.intro (show Raw (W.alloc (.cells #[.int .i64 1, .int .i64 a0, .int .u64 0, .int .u64 0, .int .u64 0, .int .i64 2, .int .i64 a0, .int .u64 0, .int .u64 0, .int .u64 0, .int .i64 4, .int .i64 2, .int .u64 1, .int .u64 0, .int .u64 0, .int .i64 2, .int .i64 a1, .int .u64 dw, .int .u64 0, .int .u64 0, .int .i64 2, .int .i64 a2, .int .u64 0, .int .u64 0, .int .u64 0, .int .i64 2, .int .i64 a3, .int .u64 tw, .int .u64 0, .int .u64 0, .int .i64 2, .int .i64 a4, .int .u64 2, .int .u64 0, .int .u64 0, .int .i64 7, .int .i64 i, .int .u64 0, .int .i64 dl, .int .u64 0] 150)) W.heap.size a0 a1 a2 a3 a4 i dl dw tw 0 0 0 0 0 0 7 0 0 from new_heap W _) ok_new
  unfold Makes
  simp only
  generalize atI T L i 0 = a0 at HA ⊢
  generalize atI T L i 1 = a1 at HA ⊢
  generalize atI T L i 2 = a2 at HA ⊢
  generalize atI T L i 3 = a3 at HA ⊢
  generalize atI T L i 4 = a4 at HA ⊢
  go_enter Tryz.func115, Tryz.ntmps115
  go_wp2_with fail
  go_region_held3 (fun W => W.cell? ⟨w.heap.size, 0, none⟩ = some (.int .i64 T) ∧ W.cell? ⟨w.heap.size, 1, none⟩ = some (.int .i64 S) ∧ W.cell? ⟨w.heap.size, 2, none⟩ = some (.int .i64 L) ∧ W.cell? ⟨w.heap.size, 3, none⟩ = some (.int .u64 G) ∧ Below (w.heap.size + 1) (w.alloc (.cells #[.int .i64 T, .int .i64 S, .int .i64 L, .int .u64 G] 24)) W)
    ((first | (with_reducible exact HST.out) | (with_reducible assumption) | (with_reducible exact HS3.out) | (with_reducible exact stay_keep (box_below _ _) HS3.out)))
    (first
      | (go_at_call 19; refine ((HA.out _).1).mono ?_; rintro e w3 ⟨rfl, hb⟩; have HS3 := Lib.hid (stay_keep hb (by assumption)); clear hb)
      | (go_at_call 124; refine ((HA.out _).2.1).mono ?_; rintro e w3 ⟨rfl, hb⟩; have HS3 := Lib.hid (stay_keep hb (by assumption)); clear hb)
      | (go_at_call 125; refine ((HA.out _).2.2.1).mono ?_; rintro e w3 ⟨rfl, hb⟩; have HS3 := Lib.hid (stay_keep hb (by assumption)); clear hb)
      | (go_at_call 126; refine ((HA.out _).2.2.2.1).mono ?_; rintro e w3 ⟨rfl, hb⟩; have HS3 := Lib.hid (stay_keep hb (by assumption)); clear hb)
      | (go_at_call 127; refine ((HA.out _).2.2.2.2).mono ?_; rintro e w3 ⟨rfl, hb⟩; have HS3 := Lib.hid (stay_keep hb (by assumption)); clear hb))
  go_wp2
  go_ret
  exact ⟨_, rfl, HE.out _ _ _ _ _ _ _ _, (stay_end HS3.out).1, (stay_end HS3.out).2.trans ((box_below _ _).mono (stay_end HS3.out).1)⟩
end Go.Proofs.YtlagghghbpbcbaaGreatDoor.Mint
