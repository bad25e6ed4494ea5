import Derived.Test.YtlagghghbpbcbaaGreatDoorStartComesAllP4
import Derived.Test.YtlagghghbpbcbaaGreatDoorStartComesAllP29
import Derived.Test.YtlagghghbpbcbaaGreatDoorStartComesAllP35
import Derived.Test.YtlagghghbpbcbaaGreatDoorStartComesAllP5
/- Law 31's own 'apart' and 'differs' (package sundiallaw31). -/
namespace Go.Proofs.YtlagghghbpbcbaaGreatDoor.StartApart
set_option maxRecDepth 20000
open Go.ChangeShapes Go.WideShapes Go.ChangeAt Go.RowKit CM DM PM KM MM Lay Plan Ints
open Go.Proofs.YtlagghghbpbcbaaGreatDoor.SeekRef (Chain_any Key_any Chained right_nat chain_refs chain_few)
open BM (freeL)
set_option linter.unusedVariables false
set_option linter.unusedSimpArgs false
theorem ba_b {w W W' : World} (hb : Below w.heap.size w W) (h : Below W.heap.size W W') : Below w.heap.size w W' := hb.trans (h.mono hb.size)
theorem past_on {w W W' : World} {o : Obj} (h : Below (w.heap.size + 1) (w.alloc o) W) (hb : Below W.heap.size W W') : Below (w.heap.size + 1) (w.alloc o) W' := h.trans (hb.mono (by have := h.size; simp only [World.size_alloc] at this; exact this))
theorem past_old {w W : World} {o : Obj} (h : Below (w.heap.size + 1) (w.alloc o) W) : Below w.heap.size w W := (box_below w o).trans (h.mono (by omega))
/-- Equal rows do not differ. -/
theorem differs_same {A1 A2 : Option Addr} {n c1 c2 : Nat} {l : List Int} {w : World} (hn : n = l.length) (hl : n ≤ 1000000) (h1 : Row w w.heap.size A1 (flat (encZ .u64) l)) (h2 : Row w w.heap.size A2 (flat (encZ .u64) l)) :
    Calls Tryz.prog 16 #[.slice A1 n c1, .slice A2 n c2] w fun e w' => e = .returned (.bool false) ∧ Below w.heap.size w w' := by
  have HN := Lib.hid hn
  have H1 := Lib.hid h1
  have H2 := Lib.hid h2
  clear hn h1 h2
  go_enter Tryz.func16, Tryz.ntmps16
  go_wp2
  go_loopw [5] (fun iv wr => ∃ k : Nat, k ≤ n ∧ iv = .int .i64 k ∧ Below w.heap.size w wr) (fun iv _ => n - (intOf iv).toNat)
  case atStart => exact ⟨0, Nat.zero_le _, rfl, Below.refl _ _⟩
  case round =>
    obtain ⟨k, hk, rfl, hb⟩ := hrel
    have HB := Lib.hid hb
    by_cases hlt : k < n
    · have hil : (k : Int) < (n : Int) := by omega
      have hil2 : decide ((n : Int) ≤ (k : Int)) = false := decide_eq_false (by omega)
      obtain ⟨y, hy⟩ : ∃ y, l[k]? = some y := ⟨_, List.getElem?_eq_getElem (by have := HN.out; omega)⟩
      obtain ⟨b0, o0, ea, -, hc0⟩ := int_at (H1.out.later hb) (show k < l.length by have := HN.out; omega)
      obtain ⟨b1, o1, eb, -, hc1⟩ := int_at (H2.out.later hb) (show k < l.length by have := HN.out; omega)
      subst ea eb
      have q0 := hc0 k y hy
      have q1 := hc1 k y hy
      have hyy : (y != y) = false := by simp
      have hil3 : decide (n ≤ k) = false := decide_eq_false (by omega)
      have Q_0 := fun p : After wr => p.cell q0
      have Q_1 := fun p : After wr => p.cell q1
      clear hc0 hc1 hy hb q0 q1
      go_wp2
      refine wp_region_after mixed (by kernel_rfl) ?_
      repeat (first | go_big_quiet_step (fail) | quiet_step (fail))
      refine wpQuiet_nil ?_
      intro _ hw'
      obtain ⟨pq, hw''⟩ := hw'
      subst hw''
      have HQ := Lib.hid (ba_b HB.out pq.ok)
      generalize pq.x = wq at HQ ⊢
      go_wp2
      go_roundw
      case rel => exact ⟨k + 1, by omega, by go_num, HQ.out⟩
      case measure => simp [intOf]; omega
    · obtain rfl : k = n := by omega
      clear hb
      go_wp2
      go_ret
      exact ⟨by simp, HB.out⟩
/-- What law 31's 'apart' finds. -/
def Apart (T N L : Nat) (l : List Int) : Prop := (freeL T N L l = [] → getI l 3 % 4294967296 = 0) ∧ getI l 2 ≠ 18446744073709551615 ∧ ∀ h : Nat, h < L → ∀ c ∈ (chainI T L N l h).1, idx c ∉ freeL T N L l ∧ (keyI T L l c).2 < getI l 2
def Found (w : World) (T N L : Nat) (l : List Int) (e : Ending) (w' : World) : Prop := ∃ b, e = .returned (.bool b) ∧ Below w.heap.size w w' ∧ (b = true → Apart T N L l)
theorem BankHas {A : Option Addr} {F : List Int} {c n : Nat} {w : World} {x : Int} {v : Bool} (h : decide (x ∈ F) = v) (hn : n = F.length) (hl : F.length ≤ 1000000) (hR : Row w w.heap.size A (flat (encZ .i64) F)) : Calls Tryz.prog 35 #[.slice A n c, .int .i64 x] w fun e w' => e = .returned (.bool v) ∧ w = w' := BlankRef.Has_is h hn (by omega) hR
set_option maxHeartbeats 2000000 in
theorem apart_any {T N L : Nat} {G : Int} (hr : rightB (T : Int) (N : Int) (L : Int) G = true) {A : Option Addr} {n c : Nat} {l : List Int} (hn : n = l.length) (hlen : l.length = wordsN T N L) (hf : BM.Fits l) {w : World} (hR : Row w w.heap.size A (flat (encZ .u64) l)) :
    Calls Tryz.prog 7 #[.agg #[.int .i64 (T : Int), .int .i64 (N : Int), .int .i64 (L : Int), .int .u64 G], .slice A n c] w (Found w T N L l) := by
  obtain ⟨t1, t8, s1, s64, l1, l8⟩ := right_nat hr
  have hn4 : n ≤ 4096 := by rw [hn, hlen]; exact words_small (by omega) (by omega) (by omega)
  have hn5 : 4 < n := by rw [hn, hlen]; unfold wordsN; omega
  have HROW := Lib.hid (show ∀ W, Below (w.heap.size + 1) (w.alloc (.cells #[.int .i64 (T : Int), .int .i64 (N : Int), .int .i64 (L : Int), .int .u64 G] 24)) W → Row W W.heap.size A (flat (encZ .u64) l) from fun W hb => hR.later (past_old hb))
  have HFR := Lib.hid (show ∀ W, Below (w.heap.size + 1) (w.alloc (.cells #[.int .i64 (T : Int), .int .i64 (N : Int), .int .i64 (L : Int), .int .u64 G] 24)) W → Calls Tryz.prog 33 #[.slice A n c, .agg #[.int .i64 (T : Int), .int .i64 (N : Int), .int .i64 (L : Int), .int .u64 G]] W (Blank.Lists W (freeL T N L l)) from fun W hb => BlankRef.Free_yes hr c hn (by omega) (HROW.out W hb) hf)
  have HFG := Lib.hid (show ∀ x ∈ freeL T N L l, 1 ≤ x ∧ x ≤ (N : Int) from (BM.go_good _ _ _ (BM.good_nil N)).2)
  have HFL := Lib.hid (show (freeL T N L l).length ≤ 64 from Nat.le_trans (BM.free_length T N L l) s64)
  have HAP := Lib.hid (show Apart T N L l → Apart T N L l from id)
  have HCH := Lib.hid (show ∀ (h : Nat) W, Below (w.heap.size + 1) (w.alloc (.cells #[.int .i64 (T : Int), .int .i64 (N : Int), .int .i64 (L : Int), .int .u64 G] 24)) W → Calls Tryz.prog 30 #[.slice A n c, .agg #[.int .i64 (T : Int), .int .i64 (N : Int), .int .i64 (L : Int), .int .u64 G], .int .i64 h] W (Chained W (chainI T L N l h)) from fun h W hb => Chain_any c hn (by omega) (HROW.out W hb) hf s64 h)
  have HRF := Lib.hid (show ∀ h : Nat, (∀ y ∈ (chainI T L N l h).1, Word y) ∧ (chainI T L N l h).1.length ≤ 64 from fun h => ⟨fun y hy => ((chain_refs hf (h : Int)).1 y hy).1, Nat.le_trans (chain_few hf (h : Int)) s64⟩)
  have HKY := Lib.hid (show ∀ (y : Int) W, Word y → Below (w.heap.size + 1) (w.alloc (.cells #[.int .i64 (T : Int), .int .i64 (N : Int), .int .i64 (L : Int), .int .u64 G] 24)) W → Calls Tryz.prog 22 #[.slice A n c, .agg #[.int .i64 (T : Int), .int .i64 (N : Int), .int .i64 (L : Int), .int .u64 G], .int .u64 y] W fun e w' => e = .returned (.agg #[.int .i64 (keyI T L l y).1, .int .u64 (keyI T L l y).2]) ∧ Below W.heap.size W w' from fun y W hy hb => Key_any c hn (by omega) (HROW.out W hb) T N L G hy)
  have HSL := Lib.hid (fun (x : Int) (W : World) => PlanRef.Slot_any (T : Int) (N : Int) (L : Int) G x 5 W)
  have HSI := Lib.hid (show ∀ x : Int, 1 ≤ x → x ≤ (N : Int) → ∃ k : Nat, atI (T : Int) (L : Int) x 5 = (k : Int) ∧ k < n from fun x h1 h2 => by
    obtain ⟨i, rfl⟩ : ∃ i : Nat, x = i := ⟨x.toNat, by omega⟩
    obtain ⟨k, e1, e2, e3⟩ := BM.at_nat (T := T) (S := N) (L := L) (i := i) (a := 5) t8 s64 l8 (by omega) (by omega) (by omega)
    exact ⟨k, e1, by rw [hn, hlen]; omega⟩)
  obtain ⟨c_0, c_1, c_2, c_3⟩ := box4 w (.int .i64 (T : Int)) (.int .i64 (N : Int)) (.int .i64 (L : Int)) (.int .u64 G) 24
  have HC := Lib.hid (show ∀ W, Below (w.heap.size + 1) (w.alloc (.cells #[.int .i64 (T : Int), .int .i64 (N : Int), .int .i64 (L : Int), .int .u64 G] 24)) W → W.cell? ⟨w.heap.size, 0, none⟩ = some (.int .i64 T) ∧ W.cell? ⟨w.heap.size, 1, none⟩ = some (.int .i64 N) ∧ W.cell? ⟨w.heap.size, 2, none⟩ = some (.int .i64 L) ∧ W.cell? ⟨w.heap.size, 3, none⟩ = some (.int .u64 G) from fun W hb => by
    have h2 : Below (w.alloc (.cells #[.int .i64 (T : Int), .int .i64 (N : Int), .int .i64 (L : Int), .int .u64 G] 24)).heap.size (w.alloc (.cells #[.int .i64 (T : Int), .int .i64 (N : Int), .int .i64 (L : Int), .int .u64 G] 24)) W := by simpa using hb
    exact ⟨cell_later h2 c_0, cell_later h2 c_1, cell_later h2 c_2, cell_later h2 c_3⟩)
  unfold Found Apart
  obtain ⟨x2, hx2⟩ : ∃ x, l[2]? = some x := ⟨_, List.getElem?_eq_getElem (by omega)⟩
  obtain ⟨x3, hx3⟩ : ∃ x, l[3]? = some x := ⟨_, List.getElem?_eq_getElem (by omega)⟩
  have g2 : getI l 2 = x2 := getI_some hx2
  have g3 : getI l 3 = x3 := getI_some hx3
  rw [g2, g3]
  have HGT := Lib.hid (show ∀ k : Nat, k < n → ∃ y, l[k]? = some y from fun k hk => ⟨_, List.getElem?_eq_getElem (by omega)⟩)
  have HLL := Lib.hid (show ∀ k : Nat, k < n → k < l.length from fun k hk => by omega)
  have HX2 := Lib.hid (And.intro hx2 hx3)
  generalize freeL (T : Int) N (L : Int) l = F at HFR HFG HFL
  generalize chainI (T : Int) (L : Int) (N : Int) l = ch at HCH HRF
  generalize keyI (T : Int) (L : Int) l = key at HKY
  have HB1 := Lib.hid (show Below (w.heap.size + 1) (w.alloc (.cells #[.int .i64 (T : Int), .int .i64 (N : Int), .int .i64 (L : Int), .int .u64 G] 24)) (w.alloc (.cells #[.int .i64 (T : Int), .int .i64 (N : Int), .int .i64 (L : Int), .int .u64 G] 24)) from by have := Below.refl (w.alloc (.cells #[.int .i64 (T : Int), .int .i64 (N : Int), .int .i64 (L : Int), .int .u64 G] 24)).heap.size (w.alloc (.cells #[.int .i64 (T : Int), .int .i64 (N : Int), .int .i64 (L : Int), .int .u64 G] 24)); simpa using this)
  have HX := Lib.hid (And.intro hr (And.intro hn (And.intro hlen (And.intro hf (And.intro hn4 hn5)))))
  have HG := Lib.hid (show 1 ≤ L ∧ L ≤ 8 ∧ N ≤ 64 from ⟨l1, l8, s64⟩)
  clear hR hr hn hlen hf hn4 hn5 t1 t8 s1 s64 l1 l8 hx2 hx3 g2 g3 HAP
  go_enter Tryz.func7, Tryz.ntmps7
  go_wp2_with fail
  refine (HFR.out _ HB1.out).mono ?_
  rintro e w1 ⟨A5, c5, rfl, r5, b5⟩
  have HB5 := Lib.hid (past_on HB1.out b5)
  have HR5 := Lib.hid r5
  have HN5 := Lib.hid HX.out.2.2.2.2
  clear b5 r5
  obtain ⟨n5, hn5⟩ : ∃ n5, F.length = n5 := ⟨_, rfl⟩
  rw [hn5]
  have HL5 := Lib.hid hn5
  clear hn5
  go_upto_region 2 with fail
  go_cut [47] (fun s47 wx => (s47 = .bool true ∨ (s47 = .bool false ∧ (F = [] → x3 % 4294967296 = 0) ∧ x2 ≠ 18446744073709551615)) ∧ Below (w.heap.size + 1) (w.alloc (.cells #[.int .i64 (T : Int), .int .i64 (N : Int), .int .i64 (L : Int), .int .u64 G] 24)) wx ∧ Row wx wx.heap.size A5 (flat (encZ .i64) F))
  case first =>
    obtain ⟨b0, o0, rfl, -, hc0⟩ := int_at (HROW.out _ HB5.out) (HLL.out 2 (by have := HN5.out.2; omega))
    have q2 := hc0 2 x2 HX2.out.1
    have q3 := hc0 3 x3 HX2.out.2
    have Q_2 := fun p : After w1 => p.cell q2
    have Q_3 := fun p : After w1 => p.cell q3
    have HCX := Lib.hid (HC.out _ HB5.out)
    obtain ⟨d_0, d_1, d_2, d_3⟩ := HCX.out
    have D_0 := fun p : After w1 => p.cell d_0
    have D_1 := fun p : After w1 => p.cell d_1
    have D_2 := fun p : After w1 => p.cell d_2
    have D_3 := fun p : After w1 => p.cell d_3
    have hu : IntKind.u32.wrap x3 = x3 % 4294967296 := rfl
    have HCC := Lib.hid hc0
    clear hc0 q2 q3 d_0 d_1 d_2 d_3 c_0 c_1 c_2 c_3
    have hn3 : (3 : Int) < (n : Int) := by have := HN5.out.2; omega
    have hn2 : (2 : Int) < (n : Int) := by omega
    by_cases hF : F = []
    · subst hF
      have h0 : n5 = 0 := HL5.out.symm
      subst h0
      cases e3 : (x3 % 4294967296 != 0) <;> cases e2 : (x2 == 18446744073709551615)
      · go_wp2
        refine wp_region_after mixed (by kernel_rfl) ?_
        repeat (first | go_big_quiet_step (fail) | quiet_step (fail))
        refine wpQuiet_nil ?_
        intro _ hw'
        obtain ⟨pq, hw''⟩ := hw'
        subst hw''
        have HQ := Lib.hid (And.intro (past_on HB5.out pq.ok) (HR5.out.later pq.ok))
        generalize pq.x = wq at HQ ⊢
        go_wp2_with fail
        go_meet
        all_goals (case rel => first | exact ⟨.inl rfl, HQ.out⟩ | exact ⟨.inr ⟨rfl, fun _ => by simpa using e3, by simpa using e2⟩, HQ.out⟩)
      · go_wp2
        refine wp_region_after mixed (by kernel_rfl) ?_
        repeat (first | go_big_quiet_step (fail) | quiet_step (fail))
        refine wpQuiet_nil ?_
        intro _ hw'
        obtain ⟨pq, hw''⟩ := hw'
        subst hw''
        have HQ := Lib.hid (And.intro (past_on HB5.out pq.ok) (HR5.out.later pq.ok))
        generalize pq.x = wq at HQ ⊢
        go_wp2_with fail
        go_meet
        all_goals (case rel => first | exact ⟨.inl rfl, HQ.out⟩ | exact ⟨.inr ⟨rfl, fun _ => by simpa using e3, by simpa using e2⟩, HQ.out⟩)
      · go_wp2
        refine wp_region_after mixed (by kernel_rfl) ?_
        repeat (first | go_big_quiet_step (fail) | quiet_step (fail))
        refine wpQuiet_nil ?_
        intro _ hw'
        obtain ⟨pq, hw''⟩ := hw'
        subst hw''
        have HQ := Lib.hid (And.intro (past_on HB5.out pq.ok) (HR5.out.later pq.ok))
        generalize pq.x = wq at HQ ⊢
        go_wp2_with fail
        go_meet
        all_goals (case rel => first | exact ⟨.inl rfl, HQ.out⟩ | exact ⟨.inr ⟨rfl, fun _ => by simpa using e3, by simpa using e2⟩, HQ.out⟩)
      · go_wp2
        refine wp_region_after mixed (by kernel_rfl) ?_
        repeat (first | go_big_quiet_step (fail) | quiet_step (fail))
        refine wpQuiet_nil ?_
        intro _ hw'
        obtain ⟨pq, hw''⟩ := hw'
        subst hw''
        have HQ := Lib.hid (And.intro (past_on HB5.out pq.ok) (HR5.out.later pq.ok))
        generalize pq.x = wq at HQ ⊢
        go_wp2_with fail
        go_meet
        all_goals (case rel => first | exact ⟨.inl rfl, HQ.out⟩ | exact ⟨.inr ⟨rfl, fun _ => by simpa using e3, by simpa using e2⟩, HQ.out⟩)
    · obtain ⟨m, hm⟩ : ∃ m, F.length = m + 1 := ⟨F.length - 1, by have := List.length_pos_iff.2 hF; omega⟩
      have HFN := Lib.hid hF
      have HML := Lib.hid hm
      obtain ⟨x, hx⟩ : ∃ x, F[m]? = some x := ⟨_, List.getElem?_eq_getElem (by omega)⟩
      obtain ⟨f1, f2⟩ := HFG.out x (List.mem_of_getElem? hx)
      obtain ⟨k, ek, hk⟩ := HSI.out x f1 f2
      obtain ⟨y, hy⟩ := HGT.out k hk
      have q4 := HCC.out k y hy
      have Q_4 := fun p : After w1 => p.cell q4
      obtain ⟨b5, o5, rfl, -, hc5⟩ := int_at HR5.out (show m < F.length by omega)
      have q5 := hc5 m x hx
      have Q_5 := fun p : After w1 => p.cell q5
      have HSX := Lib.hid (HSL.out x)
      rw [ek] at HSX
      have hsub : IntKind.i64.wrap (((m + 1 : Nat) : Int) - 1) = (m : Int) := by
        rw [show ((m + 1 : Nat) : Int) - 1 = (m : Int) by omega]
        exact IntWalk.i64_in _ (by have := HFL.out; omega)
      have hsub2 : wrap64 (m : Int) = (m : Int) := by unfold wrap64; have := HFL.out; omega
      have hkn : (k : Int) < (n : Int) := by omega
      have hmm : (m : Int) < ((m + 1 : Nat) : Int) := by omega
      have h0 : n5 = m + 1 := HL5.out.symm.trans hm
      subst h0
      clear hx hc5 q5 q4 hy ek hm hF f1 f2
      cases e4 : (y != 0) <;> cases e2 : (x2 == 18446744073709551615)
      · go_wp2
        refine wp_region_after mixed (by kernel_rfl) ?_
        repeat (first | go_big_quiet_step ((with_reducible exact calls_after (HSX.out _))) | quiet_step ((with_reducible exact calls_after (HSX.out _))))
        refine wpQuiet_nil ?_
        intro _ hw'
        obtain ⟨pq, hw''⟩ := hw'
        subst hw''
        have HQ := Lib.hid (And.intro (past_on HB5.out pq.ok) (HR5.out.later pq.ok))
        generalize pq.x = wq at HQ ⊢
        go_wp2_with fail
        go_meet
        all_goals (case rel => first | exact ⟨.inl rfl, HQ.out⟩ | exact ⟨.inr ⟨rfl, fun e => absurd e HFN.out, by simpa using e2⟩, HQ.out⟩)
      · go_wp2
        refine wp_region_after mixed (by kernel_rfl) ?_
        repeat (first | go_big_quiet_step ((with_reducible exact calls_after (HSX.out _))) | quiet_step ((with_reducible exact calls_after (HSX.out _))))
        refine wpQuiet_nil ?_
        intro _ hw'
        obtain ⟨pq, hw''⟩ := hw'
        subst hw''
        have HQ := Lib.hid (And.intro (past_on HB5.out pq.ok) (HR5.out.later pq.ok))
        generalize pq.x = wq at HQ ⊢
        go_wp2_with fail
        go_meet
        all_goals (case rel => first | exact ⟨.inl rfl, HQ.out⟩ | exact ⟨.inr ⟨rfl, fun e => absurd e HFN.out, by simpa using e2⟩, HQ.out⟩)
      · go_wp2
        refine wp_region_after mixed (by kernel_rfl) ?_
        repeat (first | go_big_quiet_step ((with_reducible exact calls_after (HSX.out _))) | quiet_step ((with_reducible exact calls_after (HSX.out _))))
        refine wpQuiet_nil ?_
        intro _ hw'
        obtain ⟨pq, hw''⟩ := hw'
        subst hw''
        have HQ := Lib.hid (And.intro (past_on HB5.out pq.ok) (HR5.out.later pq.ok))
        generalize pq.x = wq at HQ ⊢
        go_wp2_with fail
        go_meet
        all_goals (case rel => first | exact ⟨.inl rfl, HQ.out⟩ | exact ⟨.inr ⟨rfl, fun e => absurd e HFN.out, by simpa using e2⟩, HQ.out⟩)
      · go_wp2
        refine wp_region_after mixed (by kernel_rfl) ?_
        repeat (first | go_big_quiet_step ((with_reducible exact calls_after (HSX.out _))) | quiet_step ((with_reducible exact calls_after (HSX.out _))))
        refine wpQuiet_nil ?_
        intro _ hw'
        obtain ⟨pq, hw''⟩ := hw'
        subst hw''
        have HQ := Lib.hid (And.intro (past_on HB5.out pq.ok) (HR5.out.later pq.ok))
        generalize pq.x = wq at HQ ⊢
        go_wp2_with fail
        go_meet
        all_goals (case rel => first | exact ⟨.inl rfl, HQ.out⟩ | exact ⟨.inr ⟨rfl, fun e => absurd e HFN.out, by simpa using e2⟩, HQ.out⟩)
  case rest =>
    obtain ⟨hor, hp, hr5⟩ := hcut
    have HP := Lib.hid hp
    have HRX := Lib.hid hr5
    clear hp hr5 c_0 c_1 c_2 c_3
    rcases hor with rfl | ⟨rfl, hA, hB⟩
    · go_wp2
      go_ret
      exact ⟨false, rfl, past_old HP.out, fun e => by cases e⟩
    have HAB := Lib.hid (And.intro hA hB)
    have HFL2 := Lib.hid (show F.length ≤ 1000000 from by have := HFL.out; omega)
    have HHAS := Lib.hid (fun (i : Int) (v : Bool) (h : decide (i ∈ F) = v) (W : World) (hb : Row W W.heap.size A5 (flat (encZ .i64) F)) => BankHas h HL5.out.symm HFL2.out hb (c := c5))
    clear hA hB HB5 HR5
    have hL8 : L ≤ 8 := HG.out.2.1
    go_wp2
    go_loopw [6] (fun hv wr => ∃ h : Nat, h ≤ L ∧ hv = .int .i64 h ∧ (∀ g : Nat, g < h → ∀ c ∈ (ch g).1, idx c ∉ F ∧ (key c).2 < x2) ∧ Below (w.heap.size + 1) (w.alloc (.cells #[.int .i64 (T : Int), .int .i64 (N : Int), .int .i64 (L : Int), .int .u64 G] 24)) wr ∧ Row wr wr.heap.size A5 (flat (encZ .i64) F)) (fun hv _ => L - (intOf hv).toNat)
    case atStart => exact ⟨0, Nat.zero_le _, rfl, fun g hg => by omega, HP.out, HRX.out⟩
    case round =>
      obtain ⟨h, hh, rfl, hall, hb, hr5⟩ := hrel
      have HALL := Lib.hid hall
      have HBH := Lib.hid hb
      have HRH := Lib.hid hr5
      clear hall hb hr5
      obtain ⟨c_0, c_1, c_2, c_3⟩ := HC.out _ HBH.out
      by_cases hlt : h < L
      · have hil : (h : Int) < (L : Int) := by omega
        go_wp2_with fail
        refine (HCH.out h _ HBH.out).mono ?_
        rintro e w3 ⟨A2, n2, d2', rfl, h2, r2, -, b3⟩
        have HB3 := Lib.hid (past_on HBH.out b3)
        have HR2 := Lib.hid r2
        have HN2 := Lib.hid h2
        have HR3 := Lib.hid (HRH.out.later b3)
        have hn2 : n2 ≤ 64 := by have := (HRF.out h).2; omega
        clear r2 h2 b3 c_0 c_1 c_2 c_3
        generalize (ch h).2 = okv
        go_wp2
        go_loopw [9] (fun kv wr => ∃ k : Nat, k ≤ n2 ∧ kv = .int .i64 k ∧ Below w3.heap.size w3 wr ∧ ∀ c ∈ (ch h).1.take k, idx c ∉ F ∧ (key c).2 < x2) (fun kv _ => n2 - (intOf kv).toNat)
        case atStart => exact ⟨0, Nat.zero_le _, rfl, Below.refl _ _, fun c hc => by simp at hc⟩
        case round =>
          obtain ⟨k, hk, rfl, hb, hin⟩ := hrel
          have HBK := Lib.hid hb
          have HPK := Lib.hid (past_on HB3.out hb)
          have HIN := Lib.hid hin
          clear hin hb
          obtain ⟨c_0, c_1, c_2, c_3⟩ := HC.out _ HPK.out
          by_cases hkl : k < n2
          · have hil2 : (k : Int) < (n2 : Int) := by omega
            obtain ⟨y, hy⟩ : ∃ y, (ch h).1[k]? = some y := ⟨_, List.getElem?_eq_getElem (by have := HN2.out; omega)⟩
            have HY := Lib.hid ((HRF.out h).1 y (List.mem_of_getElem? hy))
            have HTS := Lib.hid (show (ch h).1.take (k + 1) = (ch h).1.take k ++ [y] from by rw [List.take_add_one, hy]; rfl)
            obtain ⟨b0, o0, ea, -, hc0⟩ := int_at (HR2.out.later HBK.out) (show k < (ch h).1.length by have := HN2.out; omega)
            subst ea
            have q0 := hc0 k y hy
            obtain ⟨b1, o1, eb, -, hc1⟩ := int_at (HROW.out _ HPK.out) (HLL.out 2 (by have := HN5.out.2; omega))
            subst eb
            have q2 := hc1 2 x2 HX2.out.1
            have C_0 := fun p : After wr => p.cell c_0
            have C_1 := fun p : After wr => p.cell c_1
            have C_2 := fun p : After wr => p.cell c_2
            have C_3 := fun p : After wr => p.cell c_3
            have Q_0 := fun p : After wr => p.cell q0
            have Q_2 := fun p : After wr => p.cell q2
            have hn3 : (2 : Int) < (n : Int) := by have := HN5.out.2; omega
            have HPQ := Lib.hid (show ∀ p : After wr, Below (w.heap.size + 1) (w.alloc (.cells #[.int .i64 (T : Int), .int .i64 (N : Int), .int .i64 (L : Int), .int .u64 G] 24)) p.x from fun p => past_on HPK.out p.ok)
            have HIY := Lib.hid (fun W : World => Refer.Index_any y HY.out.1 HY.out.2 W)
            have HKQ := Lib.hid (fun W hb => HKY.out y W HY.out hb)
            have HRQ := Lib.hid (show ∀ p : After wr, Row p.x p.x.heap.size A5 (flat (encZ .i64) F) from fun p => (HR3.out.later HBK.out).later p.ok)
            have HII := Lib.hid (show idx y = y % 4294967296 / 2 from rfl)
            have HKE := Lib.hid (show (key y).2 = (key y).2 from rfl)
            obtain ⟨x1, hx1⟩ : ∃ x, (key y).1 = x := ⟨_, rfl⟩
            obtain ⟨s1, hs1⟩ : ∃ x, (key y).2 = x := ⟨_, rfl⟩
            have HS1 := Lib.hid hs1
            rw [hx1, hs1] at HKQ
            have hfd : ∀ W : World, (Instr.field 58 (.agg #[.int .i64 x1, .int .u64 s1]) 1).run Tryz.prog W = .ok (.int .u64 s1) W := fun _ => by kernel_rfl
            clear hc0 hc1 hy q0 q2 c_0 c_1 c_2 c_3 hx1 hs1
            by_cases hyi : idx y ∈ F
            · have HHY := Lib.hid (fun W hb => HHAS.out (idx y) true (decide_eq_true hyi) W hb)
              rw [HII.out] at HHY
              clear hyi
              go_wp2
              refine wp_region_after mixed (by kernel_rfl) ?_
              repeat (first | go_big_quiet_step ((first | (with_reducible exact calls_after_same (HIY.out _)) | (with_reducible exact calls_after_same (HHY.out _ (HRQ.out _))))) | quiet_step ((first | (with_reducible exact calls_after_same (HIY.out _)) | (with_reducible exact calls_after_same (HHY.out _ (HRQ.out _))))))
              refine wpQuiet_nil ?_
              intro _ hw'
              obtain ⟨pq, hw''⟩ := hw'
              subst hw''
              have HQ := Lib.hid (HPQ.out pq)
              generalize pq.x = wq at HQ ⊢
              go_wp2
              go_ret
              exact ⟨false, rfl, past_old HQ.out, fun e => by cases e⟩
            · have HHY := Lib.hid (fun W hb => HHAS.out (idx y) false (decide_eq_false hyi) W hb)
              have HYI := Lib.hid hyi
              rw [HII.out] at HHY
              clear hyi
              by_cases hsq : x2 ≤ s1
              · have e1 : decide (x2 ≤ s1) = true := decide_eq_true hsq
                clear hsq
                go_wp2
                refine wp_region_after mixed (by kernel_rfl) ?_
                repeat (first | go_big_quiet_step ((first | (with_reducible exact calls_after_same (HIY.out _)) | (with_reducible exact calls_after_same (HHY.out _ (HRQ.out _))) | (with_reducible exact calls_after (HKQ.out _ (HPQ.out _))))) | quiet_step ((first | (with_reducible exact calls_after_same (HIY.out _)) | (with_reducible exact calls_after_same (HHY.out _ (HRQ.out _))) | (with_reducible exact calls_after (HKQ.out _ (HPQ.out _))))))
                refine wpQuiet_nil ?_
                intro _ hw'
                obtain ⟨pq, hw''⟩ := hw'
                subst hw''
                have HQ := Lib.hid (HPQ.out pq)
                generalize pq.x = wq at HQ ⊢
                go_wp2
                go_ret
                exact ⟨false, rfl, past_old HQ.out, fun e => by cases e⟩
              · have e1 : decide (x2 ≤ s1) = false := decide_eq_false hsq
                have HNW := Lib.hid (show ∀ c ∈ (ch h).1.take (k + 1), idx c ∉ F ∧ (key c).2 < x2 from fun c hc => by
                  rw [HTS.out, List.mem_append, List.mem_singleton] at hc
                  rcases hc with hc | rfl
                  · exact HIN.out c hc
                  · exact ⟨HYI.out, by rw [HS1.out]; omega⟩)
                clear hsq
                go_wp2
                refine wp_region_after mixed (by kernel_rfl) ?_
                repeat (first | go_big_quiet_step ((first | (with_reducible exact calls_after_same (HIY.out _)) | (with_reducible exact calls_after_same (HHY.out _ (HRQ.out _))) | (with_reducible exact calls_after (HKQ.out _ (HPQ.out _))))) | quiet_step ((first | (with_reducible exact calls_after_same (HIY.out _)) | (with_reducible exact calls_after_same (HHY.out _ (HRQ.out _))) | (with_reducible exact calls_after (HKQ.out _ (HPQ.out _))))))
                refine wpQuiet_nil ?_
                intro _ hw'
                obtain ⟨pq, hw''⟩ := hw'
                subst hw''
                have HQ := Lib.hid (ba_b HBK.out pq.ok)
                generalize pq.x = wq at HQ ⊢
                go_wp2
                go_roundw
                case rel => exact ⟨k + 1, by omega, by go_num, HQ.out, HNW.out⟩
                case measure => simp [intOf]; omega
          · obtain rfl : k = n2 := by omega
            have HNW := Lib.hid (show ∀ g : Nat, g < h + 1 → ∀ c ∈ (ch g).1, idx c ∉ F ∧ (key c).2 < x2 from fun g hg => by
              by_cases e : g = h
              · subst e
                intro c hc
                exact HIN.out c (by rw [List.take_of_length_le (by have := HN2.out; omega)]; exact hc)
              · exact HALL.out g (by omega))
            have HR4 := Lib.hid (HR3.out.later HBK.out)
            clear c_0 c_1 c_2 c_3
            go_wp2
            go_roundw
            case rel => exact ⟨h + 1, by omega, by go_num, HNW.out, HPK.out, HR4.out⟩
            case measure => simp [intOf]; omega
      · obtain rfl : L = h := by omega
        go_wp2
        go_ret
        exact ⟨true, rfl, past_old HBH.out, fun _ => ⟨HAB.out.1, HAB.out.2, fun g hg c hc => HALL.out g hg c hc⟩⟩
end Go.Proofs.YtlagghghbpbcbaaGreatDoor.StartApart
