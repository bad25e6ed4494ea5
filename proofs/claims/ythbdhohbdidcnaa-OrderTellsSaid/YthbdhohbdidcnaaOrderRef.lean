/- The document's answers for layer 3 (package sundialref03), held to the same plain arithmetic; those that are short. -/
import Derived.Test.YthbdhohbdidcnaaOrderWalks
namespace Go.Proofs.Ythbdhohbdidcnaa.OrderRef
open Go.ChangeShapes Go.WideShapes Go.RowKit Go.Sort OM Lay Order

theorem Less_any (x y : Key) (w : World) : Calls Try.prog 18 #[.agg #[.int .i64 x.1, .int .u64 x.2], .agg #[.int .i64 y.1, .int .u64 y.2]] w fun e w' => e = .returned (.bool (ltK x y)) ∧ Below w.heap.size w w' := by
  obtain ⟨a, b⟩ := x
  obtain ⟨c, d⟩ := y
  have hB : Below w.heap.size w ((w.alloc (.cells #[.int .i64 a, .int .u64 b] 25)).alloc (.cells #[.int .i64 c, .int .u64 d] 25)) := ((Below.refl _ _).alloc (Nat.le_refl _) _).alloc (by simp) _
  by_cases h1 : a < c
  · have e : ltK (a, b) (c, d) = true := by rw [ltK_iff]; exact .inl h1
    rw [e]
    clear e
    go_enter Try.func18, Try.ntmps18
    go_wp2
    go_ret
    exact ⟨rfl, hB⟩
  · by_cases h2 : a = c
    · subst h2
      by_cases h3 : b < d
      · have e : ltK (a, b) (a, d) = true := by rw [ltK_iff]; exact .inr ⟨rfl, h3⟩
        rw [e]
        clear e
        go_enter Try.func18, Try.ntmps18
        go_wp2
        go_ret
        exact ⟨rfl, hB⟩
      · have e : ltK (a, b) (a, d) = false := by
          cases g : ltK (a, b) (a, d)
          · rfl
          · rw [ltK_iff] at g; simp only at g; omega
        rw [e]
        clear e
        go_enter Try.func18, Try.ntmps18
        go_wp2
        go_ret
        exact ⟨rfl, hB⟩
    · have e : ltK (a, b) (c, d) = false := by
        cases g : ltK (a, b) (c, d)
        · rfl
        · rw [ltK_iff] at g; simp only at g; omega
      have h2' : (a == c) = false := by simpa using h2
      rw [e]
      clear e
      go_enter Try.func18, Try.ntmps18
      go_wp2
      go_ret
      exact ⟨rfl, hB⟩
theorem Less_is {x y : Key} {v : Bool} (h : ltK x y = v) (w : World) : Calls Try.prog 18 #[.agg #[.int .i64 x.1, .int .u64 x.2], .agg #[.int .i64 y.1, .int .u64 y.2]] w fun e w' => e = .returned (.bool v) ∧ Below w.heap.size w w' := by
  rw [← h]
  exact Less_any x y w

theorem Cmp_any (x y : Key) (w : World) : Calls Try.prog 8 #[.agg #[.int .i64 x.1, .int .u64 x.2], .agg #[.int .i64 y.1, .int .u64 y.2]] w fun e w' => e = .returned (.int .i64 (cmpK x y)) ∧ Below w.heap.size w w' := by
  have hB : Below w.heap.size w ((w.alloc (.cells #[.int .i64 x.1, .int .u64 x.2] 25)).alloc (.cells #[.int .i64 y.1, .int .u64 y.2] 25)) := ((Below.refl _ _).alloc (Nat.le_refl _) _).alloc (by simp) _
  rcases cmpK_cases x y with ⟨h1, _, e⟩ | ⟨h1, h2, e⟩ | ⟨hxy, h1, h2, e⟩
  · rw [e]
    have H1 := Lib.hid h1
    clear e h1
    go_enter Try.func8, Try.ntmps8
    go_wp2_with fail
    refine (Less_is H1.out _).mono ?_
    rintro e w' ⟨rfl, hb1⟩
    go_wp2
    go_ret
    exact ⟨rfl, hB.trans (hb1.mono (by simp; omega))⟩
  · rw [e]
    have H1 := Lib.hid h1
    have H2 := Lib.hid h2
    clear e h1 h2
    go_enter Try.func8, Try.ntmps8
    go_wp2_with fail
    refine (Less_is H1.out _).mono ?_
    rintro e w' ⟨rfl, hb1⟩
    have hc := reads_as hb1
    go_wp2_with fail
    refine (Less_is H2.out _).mono ?_
    rintro e w' ⟨rfl, hb2⟩
    go_wp2
    go_ret
    exact ⟨rfl, hB.trans ((hb1.trans (hb2.mono hb1.size)).mono (by simp; omega))⟩
  · rw [e]
    have H1 := Lib.hid h1
    have H2 := Lib.hid h2
    clear e h1 h2 hxy
    go_enter Try.func8, Try.ntmps8
    go_wp2_with fail
    refine (Less_is H1.out _).mono ?_
    rintro e w' ⟨rfl, hb1⟩
    have hc := reads_as hb1
    go_wp2_with fail
    refine (Less_is H2.out _).mono ?_
    rintro e w' ⟨rfl, hb2⟩
    go_wp2
    go_ret
    exact ⟨rfl, hB.trans ((hb1.trans (hb2.mono hb1.size)).mono (by simp; omega))⟩

set_option maxHeartbeats 400000 in
theorem Place_any (A : Option Addr) (l : List Key) (c : Nat) (y : Key) (w : World) (hR : Row w w.heap.size A (flat encK l)) (hl : l.length ≤ maxLen) :
    Calls Try.prog 10 #[.slice A l.length c, .agg #[.int .i64 y.1, .int .u64 y.2]] w fun e w' => e = .returned (.int .i64 (placeK l y)) ∧ Below w.heap.size w w' := by
  obtain ⟨n, hn⟩ : ∃ n, n = l.length := ⟨_, rfl⟩
  unfold maxLen at hl
  rw [← hn] at hl ⊢
  have HN := Lib.hid hn
  clear hn
  have HR := Lib.hid hR
  clear hR
  go_enter Try.func10, Try.ntmps10
  go_wp2
  go_loopw [5, 6] (fun p i wr => ∃ k : Nat, k ≤ n ∧ i = .int .i64 k ∧ p = .int .i64 (placeK (l.take k) y) ∧ Below (w.heap.size + 1) (w.alloc (.cells #[.int .i64 y.1, .int .u64 y.2] 25)) wr)
    (fun _ i _ => n - (intOf i).toNat)
  case atStart => exact ⟨0, Nat.zero_le _, rfl, rfl, Below.refl _ _⟩
  case round =>
    obtain ⟨k, hk, rfl, rfl, hb⟩ := hrel
    have hp := placeK_le (l.take k) y
    have hpl : (l.take k).length ≤ k := by simp; omega
    by_cases hlt : k < n
    · have hlt' : k < l.length := by rw [← HN.out]; exact hlt
      obtain ⟨b, o, rfl, hbB, hc⟩ := key_at (HR.out.later (below_past hb)) hlt'
      obtain ⟨c0, c1⟩ := hc k l[k] (List.getElem?_eq_getElem hlt')
      have hkey := box_cell hb 0
      have hkey1 := box_cell hb 1
      simp at hkey hkey1
      have C0 := fun p : After wr => p.cell c0
      have C1 := fun p : After wr => p.cell c1
      have D0 := fun p : After wr => p.cell hkey
      have D1 := fun p : After wr => p.cell hkey1
      clear hc c0 c1 hkey hkey1
      have hst := placeK_take l y k hlt'
      by_cases hlt2 : ltK l[k] y = true
      · have HS := Lib.hid (hst.trans (by rw [if_pos hlt2]))
        have HL := Lib.hid hlt2
        clear hst hlt2
        go_wp2
        refine wp_region_after mixed (by kernel_rfl) ?_
        repeat (first | go_big_quiet_step (exact calls_after (Less_is HL.out _)) | quiet_step (exact calls_after (Less_is HL.out _)))
        refine wpQuiet_nil ?_
        intro _ hw'
        obtain ⟨pq, hw''⟩ := hw'
        subst hw''
        go_wp2
        go_roundw
        case rel => exact ⟨k + 1, by omega, by go_num, by rw [HS.out]; go_num, hb.trans (pq.ok.mono (size_past hb))⟩
        case measure => simp [intOf]; omega
      · have hlt3 : ltK l[k] y = false := by simpa using hlt2
        have HS := Lib.hid (hst.trans (by rw [if_neg hlt2, Nat.add_zero]))
        have HL := Lib.hid hlt3
        clear hst hlt2 hlt3
        go_wp2
        refine wp_region_after mixed (by kernel_rfl) ?_
        repeat (first | go_big_quiet_step (exact calls_after (Less_is HL.out _)) | quiet_step (exact calls_after (Less_is HL.out _)))
        refine wpQuiet_nil ?_
        intro _ hw'
        obtain ⟨pq, hw''⟩ := hw'
        subst hw''
        go_wp2
        go_roundw
        case rel => exact ⟨k + 1, by omega, by go_num, by rw [HS.out], hb.trans (pq.ok.mono (size_past hb))⟩
        case measure => simp [intOf]; omega
    · go_wp2
      go_ret
      exact ⟨ret_i64 (by rw [List.take_of_length_le (by have := HN.out; omega)]), below_past hb⟩

set_option maxHeartbeats 400000 in
theorem Rising_any (A : Option Addr) (l : List Key) (c : Nat) (w : World) (hR : Row w w.heap.size A (flat encK l)) (hl : l.length ≤ maxLen) :
    Calls Try.prog 12 #[.slice A l.length c] w fun e w' => e = .returned (.bool (risingK l)) ∧ Below w.heap.size w w' := by
  obtain ⟨n, hn⟩ : ∃ n, n = l.length := ⟨_, rfl⟩
  unfold maxLen at hl
  rw [← hn] at hl ⊢
  have HN := Lib.hid hn
  clear hn
  have HR := Lib.hid hR
  clear hR
  go_enter Try.func12, Try.ntmps12
  go_wp2
  go_loopw [3] (fun i wr => ∃ k : Nat, (k = 0 ∨ k + 1 ≤ n) ∧ i = .int .i64 ((k : Int) + 1) ∧ risesTo l (k + 1) ∧ Below w.heap.size w wr)
    (fun i _ => n - (intOf i).toNat)
  case atStart => exact ⟨0, .inl rfl, rfl, risesTo_zero l, Below.refl _ _⟩
  case round =>
    obtain ⟨k, hk, rfl, hrise, hb⟩ := hrel
    have HI := Lib.hid hrise
    clear hrise
    by_cases hlt : k + 1 < n
    · have hlt' : k + 1 < l.length := by rw [← HN.out]; exact hlt
      obtain ⟨b, o, rfl, hbB, hc⟩ := key_at (HR.out.later hb) hlt'
      obtain ⟨c0, c1⟩ := hc k l[k] (List.getElem?_eq_getElem (by omega))
      obtain ⟨d0, d1⟩ := hc (k + 1) l[k + 1] (List.getElem?_eq_getElem hlt')
      clear hc
      have C0 := fun p : After wr => p.cell c0
      have C1 := fun p : After wr => p.cell c1
      have D0 := fun p : After wr => p.cell d0
      have D1 := fun p : After wr => p.cell d1
      clear c0 c1 d0 d1
      by_cases h0 : ltK l[k] l[k + 1] = true
      · have HF := Lib.hid (risesTo_step l k hlt' HI.out h0)
        have HL := Lib.hid h0
        clear h0
        go_wp2
        refine wp_region_after mixed (by kernel_rfl) ?_
        repeat (first | go_big_quiet_step (exact calls_after (Less_is HL.out _)) | quiet_step (exact calls_after (Less_is HL.out _)))
        refine wpQuiet_nil ?_
        intro _ hw'
        obtain ⟨pq, hw''⟩ := hw'
        subst hw''
        go_wp2
        go_roundw
        case rel => exact ⟨k + 1, .inr (by omega), by go_num, HF.out, hb.trans (pq.ok.mono hb.size)⟩
        case measure => simp [intOf]; omega
      · have h1 : ltK l[k] l[k + 1] = false := by simpa using h0
        have HF := Lib.hid (risingK_false l k hlt' h1)
        have HL := Lib.hid h1
        clear h0 h1
        go_wp2
        refine wp_region_after mixed (by kernel_rfl) ?_
        repeat (first | go_big_quiet_step (exact calls_after (Less_is HL.out _)) | quiet_step (exact calls_after (Less_is HL.out _)))
        refine wpQuiet_nil ?_
        intro _ hw'
        obtain ⟨pq, hw''⟩ := hw'
        subst hw''
        go_wp2
        go_ret
        exact ⟨ret_bool HF.out.symm, hb.trans (pq.ok.mono hb.size)⟩
    · go_wp2
      go_ret
      have hN := HN.out
      exact ⟨ret_bool (risingK_true l fun j x y hj hx hy => HI.out j x y (by omega) hx hy).symm, hb⟩

theorem neqK (x y : Key) (w : World) : (binOp .neq 25 (.agg #[.int .i64 x.1, .int .u64 x.2]) (.agg #[.int .i64 y.1, .int .u64 y.2])).run Try.prog w = .ok (.bool (!decide (x = y))) w := by
  have u3 := Try.underlying3
  have a3 := Try.isAgg3
  have z3 := Try.sizeOf3
  have u4 := Try.underlying23
  have a4 := Try.isAgg23
  have z4 := Try.sizeOf23
  have hS : Try.prog.underlying 25 = some (.struct (Try.prog.fieldsOf 25)) := by kernel_rfl
  have hp : Try.prog.stoodInHeld 25 = false := by kernel_rfl
  rw [run_neq_struct, show (10000 : Nat) = 9999 + 1 from rfl, run_equalIn_agg w 9999 25 _ _ hS hp]
  simp only [Program.fieldsOf, Try.underlying25]
  go_simp
  obtain ⟨a, b⟩ := x
  obtain ⟨c, d⟩ := y
  by_cases h1 : a = c <;> by_cases h2 : b = d <;> simp [h1, h2]
theorem eqlK (x y : Key) (w : World) : (binOp .eql 25 (.agg #[.int .i64 x.1, .int .u64 x.2]) (.agg #[.int .i64 y.1, .int .u64 y.2])).run Try.prog w = .ok (.bool (decide (x = y))) w := by
  have u3 := Try.underlying3
  have a3 := Try.isAgg3
  have z3 := Try.sizeOf3
  have u4 := Try.underlying23
  have a4 := Try.isAgg23
  have z4 := Try.sizeOf23
  have hS : Try.prog.underlying 25 = some (.struct (Try.prog.fieldsOf 25)) := by kernel_rfl
  have hp : Try.prog.stoodInHeld 25 = false := by kernel_rfl
  rw [run_eql_struct, show (10000 : Nat) = 9999 + 1 from rfl, run_equalIn_agg w 9999 25 _ _ hS hp]
  simp only [Program.fieldsOf, Try.underlying25]
  go_simp
  obtain ⟨a, b⟩ := x
  obtain ⟨c, d⟩ := y
  by_cases h1 : a = c <;> by_cases h2 : b = d <;> simp [h1, h2]
theorem guardK : Try.prog.eqGuardType Try.prog.depth 25 = false := by kernel_rfl
end Go.Proofs.Ythbdhohbdidcnaa.OrderRef
