/- DeedOne: for every list of words and every deed of the four kinds, the deed finds the word that stands at its place, makes of it what After says, and turns no other one (of a list of more than 300 words, or of another kind, just the chapter's example is asked); the arguments read as they did. Conditions: the library's listed tables hold what its own text lays in them (tied by the card). -/
import Derived.Test.YtghinmjebkpjhaaDoorDeedAwake
import Derived.Test.YtghinmjebkpjhaaDoorFive
import Derived.Test.YtghinmjebkpjhaaDoorFrame
import Derived.Test.YtghinmjebkpjhaaDoorCards
namespace Go.Proofs.YtghinmjebkpjhaaDoor.DeedOne
open Go.ChangeShapes Go.WideShapes Go.ChangeAt Go.RowKit CM DM Lay Ints Cells Str Fmt
set_option linter.unusedVariables false

theorem held {W : World} (h : laidMetH Tryd.prog Rows.deedOneRow.laid W) : Tens W :=
  Law07.held_of h (by kernel_rfl) (List.mem_of_getElem? (i := 2) rfl)

theorem five_grown {w w' : World} {b : Nat} {r : Option Nat} {v0 v1 v2 v3 v4 : Value} (h : w.cell? ⟨b, 0, none⟩ = some v0 ∧ w.cell? ⟨b, 1, none⟩ = some v1 ∧ w.cell? ⟨b, 2, none⟩ = some v2 ∧ w.cell? ⟨b, 3, none⟩ = some v3 ∧ w.cell? ⟨b, 4, none⟩ = some v4) (hg : w.grownBy w' r) (hr : some b ≠ r) :
    w'.cell? ⟨b, 0, none⟩ = some v0 ∧ w'.cell? ⟨b, 1, none⟩ = some v1 ∧ w'.cell? ⟨b, 2, none⟩ = some v2 ∧ w'.cell? ⟨b, 3, none⟩ = some v3 ∧ w'.cell? ⟨b, 4, none⟩ = some v4 := DeedDo.keep5 h hg hr
theorem five_later {w w' : World} {b : Nat} {v0 v1 v2 v3 v4 : Value} (h : w.cell? ⟨b, 0, none⟩ = some v0 ∧ w.cell? ⟨b, 1, none⟩ = some v1 ∧ w.cell? ⟨b, 2, none⟩ = some v2 ∧ w.cell? ⟨b, 3, none⟩ = some v3 ∧ w.cell? ⟨b, 4, none⟩ = some v4) (hb : Below w.heap.size w w') :
    w'.cell? ⟨b, 0, none⟩ = some v0 ∧ w'.cell? ⟨b, 1, none⟩ = some v1 ∧ w'.cell? ⟨b, 2, none⟩ = some v2 ∧ w'.cell? ⟨b, 3, none⟩ = some v3 ∧ w'.cell? ⟨b, 4, none⟩ = some v4 :=
  ⟨cell_later hb h.1, cell_later hb h.2.1, cell_later hb h.2.2.1, cell_later hb h.2.2.2.1, cell_later hb h.2.2.2.2⟩
theorem do_is {p h n : Nat} {l l' : List Int} {f : Int} {w : World} (hM : Mem w p h n l) (x : D) (hf : foundD l x = f) (hl : nextD l x = l') : Calls Tryd.prog 9 #[.pointer (some ⟨p, 0, none⟩), .agg #[.int .i64 x.1, .int .i64 x.2.1, .int .u64 x.2.2.1, .int .u64 x.2.2.2.1, .int .u64 x.2.2.2.2]] w (Does w p h n f l') := by
  rw [← hf, ← hl]
  exact DeedDo.Do_any hM x

set_option maxHeartbeats 2000000 in
theorem walk_low (A : Option Addr) (l : List Int) (n c : Nat) (kd i a b y f : Int) (w : World) (hR : Row w w.heap.size A (flat (encZ .u64) l)) (hn : n = l.length) (hs : n ≤ 300) (k1 : 1 ≤ kd) (k4 : kd ≤ 4) (hfd : foundD l (kd, i, a, b, y) = f) (hi : i < 0) (hf : f = 0) (hL : Tens w) :
    Calls Tryd.prog 5 #[.slice A n c, .agg #[.int .i64 kd, .int .i64 i, .int .u64 a, .int .u64 b, .int .u64 y]] w fun e w' => e = .returned (.bool true) ∧ Below w.heap.size w w' := by
  obtain ⟨l2, hl2⟩ : ∃ l2, nextD l (kd, i, a, b, y) = l2 := ⟨_, rfl⟩
  have HN := Lib.hid hn
  have HB0 := Lib.hid (show Below w.heap.size w (w.alloc (.cells #[.int .i64 kd, .int .i64 i, .int .u64 a, .int .u64 b, .int .u64 y] 33)) from (Below.refl _ _).alloc (Nat.le_refl _) _)
  have HR := Lib.hid (hR.later HB0.out)
  have HRR := Lib.hid hR
  have HT := Lib.hid hL
  have HF := Lib.hid hfd
  have HL2 := Lib.hid hl2
  have HK := Lib.hid (show 1 ≤ (kd, i, a, b, y).1 ∧ (kd, i, a, b, y).1 ≤ 4 from ⟨k1, k4⟩)
  have hfit : n ≤ 4096 := by omega
  have k1' : ¬ kd < 1 := by omega
  have k4' : ¬ 4 < kd := by omega
  have s3 : ¬ (300 : Int) < (n : Int) := by omega
  have HFE : (f != 0) = false := by first | exact trivial | (rw [hf]; rfl)
  try have HFZ := Lib.hid hf
  try clear hf
  clear hn hR hL hfd hl2 k1 k4
  go_enter Tryd.func5, Tryd.ntmps5
  go_wp2_with fail
  refine (Of_any HR.out HN.out hfit).mono ?_
  rintro e w1 ⟨p, h, rfl, m1, p1, h1, b1⟩
  simp only [World.size_alloc] at p1 h1 b1
  have M1 := Lib.hid m1
  have B1 := Lib.hid (below_past b1)
  have Q1 := Lib.hid (Law07.box5_later b1)
  have NE := Lib.hid (show some w.heap.size ≠ some h by simp; omega)
  have HH := Lib.hid (show w.heap.size ≤ h by omega)
  have RL := Lib.hid (HR.out.later (by simpa using b1))
  clear m1 b1 p1 h1
  obtain ⟨c0, c1, c2, c3, c4⟩ := Q1.out
  go_wp2_with fail
  refine (do_is M1.out (kd, i, a, b, y) HF.out HL2.out).mono ?_
  rintro e w' ⟨rfl, g2, m2⟩
  have M2 := Lib.hid m2
  have B2 := Lib.hid (below_of_grown B1.out g2 B1.out.size HH.out)
  have Q2 := Lib.hid (five_grown Q1.out g2 NE.out)
  have RL2 := Lib.hid (row_grown RL.out g2 (row_old HRR.out HH.out))
  clear m2 g2 c0 c1 c2 c3 c4
  go_wp2_with fail
  refine (Words_any M2.out).mono ?_
  rintro e w3 ⟨rfl, o3, b3⟩
  have B3 := Lib.hid (B2.out.trans (b3.mono B2.out.size))
  have Q3 := Lib.hid (five_later Q2.out b3)
  have RL3 := Lib.hid (RL2.out.later b3)
  have RW3 := Lib.hid (Row.of_own o3)
  have HN2 := Lib.hid (show n = l2.length from M2.out.len)
  clear o3 b3
  obtain ⟨c0, c1, c2, c3, c4⟩ := Q3.out
  go_wp2
  clear c0 c1 c2 c3 c4
  go_loopw [9] (fun j wr => ∃ k : Nat, k ≤ n ∧ j = .int .i64 k ∧ Below w3.heap.size w3 wr) (fun j _ => n - (intOf j).toNat)
  case atStart => exact ⟨0, Nat.zero_le _, rfl, Below.refl _ _⟩
  case round =>
    obtain ⟨k, hk, rfl, hb⟩ := hrel
    have RB := Lib.hid hb
    by_cases hlt : k < n
    · have hk1 : k < l.length := by rw [← HN.out]; exact hlt
      have hk2 : k < l2.length := by rw [← HN2.out]; exact hlt
      obtain ⟨b1, o1, rfl, _, hc1⟩ := int_at (RL3.out.later hb) hk1
      obtain ⟨v, hv⟩ : ∃ x, l[k]? = some x := ⟨_, List.getElem?_eq_getElem hk1⟩
      obtain ⟨b2, o2, e2, _, hc2⟩ := int_at (RW3.out.later hb) hk2
      simp only [Option.some.injEq, Addr.mk.injEq, and_true] at e2
      obtain ⟨rfl, rfl⟩ := e2
      have hv2 : l2[k]? = some (if (k : Int) = i then afterI v (kd, i, a, b, y) else v) := by rw [← HL2.out]; exact nextD_at HK.out hv
      have p0 := hc1 k v hv
      have q0 := hc2 k _ hv2
      simp at q0
      obtain ⟨d0, d1, d2, d3, d4⟩ := five_later Q3.out hb
      have P0 := fun p : After wr => p.cell p0
      have D0 := fun p : After wr => p.cell d0
      have D1 := fun p : After wr => p.cell d1
      have D2 := fun p : After wr => p.cell d2
      have D3 := fun p : After wr => p.cell d3
      have D4 := fun p : After wr => p.cell d4
      clear hc1 hc2 d0 d1 d2 d3 d4 p0
      by_cases hki : (k : Int) = i
      · obtain ⟨u, hu⟩ : ∃ u, afterI v (kd, i, a, b, y) = u := ⟨_, rfl⟩
        rw [if_pos hki, hu] at q0
        have Q0 := fun p : After wr => p.cell q0
        have HU := Lib.hid (DeedDo.After_is hu)
        have hfv : f = v := by rw [← HF.out, foundD_yes HK.out, ← hki]; exact getI_some hv
        have F1 : (f != v) = false := by simpa using hfv
        have I1 : ((k : Int) != i) = false := by simpa using hki
        have I2 : ((k : Int) == i) = true := by simpa using hki
        clear q0 hu hfv hki hv hv2 hb
        go_wp2
        refine wp_region_after mixed (by kernel_rfl) ?_
        repeat (first | go_big_quiet_step (exact calls_after (HU.out _)) | quiet_step (exact calls_after (HU.out _)))
        refine wpQuiet_nil ?_
        intro _ hw'
        obtain ⟨pq, hw''⟩ := hw'
        subst hw''
        have hq := Lib.hid (RB.out.trans (pq.ok.mono RB.out.size))
        go_wp2
        go_roundw
        case rel => exact ⟨k + 1, by omega, by go_num, hq.out⟩
        case measure => simp [intOf]; omega
      · rw [if_neg hki] at q0
        have Q0 := fun p : After wr => p.cell q0
        have I1 : ((k : Int) != i) = true := by simpa using hki
        have I2 : ((k : Int) == i) = false := by simpa using hki
        clear q0 hki hv hv2 hb
        go_wp2
        refine wp_region_after mixed (by kernel_rfl) ?_
        repeat (first | go_big_quiet_step (fail) | quiet_step (fail))
        refine wpQuiet_nil ?_
        intro _ hw'
        obtain ⟨pq, hw''⟩ := hw'
        subst hw''
        have hq := Lib.hid (RB.out.trans (pq.ok.mono RB.out.size))
        go_wp2
        go_roundw
        case rel => exact ⟨k + 1, by omega, by go_num, hq.out⟩
        case measure => simp [intOf]; omega
    · clear hb
      have HB5 := Lib.hid (B3.out.trans (RB.out.mono B3.out.size))
      go_wp2_with fail
      refine (Law07.awake_any _ (DeedText.tens_later HT.out HB5.out)).mono ?_
      rintro e w' ⟨rfl, h5⟩
      go_wp2
      go_ret
      exact ⟨rfl, HB5.out.trans (h5.mono HB5.out.size)⟩
set_option maxHeartbeats 2000000 in
theorem walk_high (A : Option Addr) (l : List Int) (n c : Nat) (kd i a b y f : Int) (w : World) (hR : Row w w.heap.size A (flat (encZ .u64) l)) (hn : n = l.length) (hs : n ≤ 300) (k1 : 1 ≤ kd) (k4 : kd ≤ 4) (hfd : foundD l (kd, i, a, b, y) = f) (hi : ¬ i < 0) (hj : (n : Int) ≤ i) (hf : f = 0) (hL : Tens w) :
    Calls Tryd.prog 5 #[.slice A n c, .agg #[.int .i64 kd, .int .i64 i, .int .u64 a, .int .u64 b, .int .u64 y]] w fun e w' => e = .returned (.bool true) ∧ Below w.heap.size w w' := by
  obtain ⟨l2, hl2⟩ : ∃ l2, nextD l (kd, i, a, b, y) = l2 := ⟨_, rfl⟩
  have HN := Lib.hid hn
  have HB0 := Lib.hid (show Below w.heap.size w (w.alloc (.cells #[.int .i64 kd, .int .i64 i, .int .u64 a, .int .u64 b, .int .u64 y] 33)) from (Below.refl _ _).alloc (Nat.le_refl _) _)
  have HR := Lib.hid (hR.later HB0.out)
  have HRR := Lib.hid hR
  have HT := Lib.hid hL
  have HF := Lib.hid hfd
  have HL2 := Lib.hid hl2
  have HK := Lib.hid (show 1 ≤ (kd, i, a, b, y).1 ∧ (kd, i, a, b, y).1 ≤ 4 from ⟨k1, k4⟩)
  have hfit : n ≤ 4096 := by omega
  have k1' : ¬ kd < 1 := by omega
  have k4' : ¬ 4 < kd := by omega
  have s3 : ¬ (300 : Int) < (n : Int) := by omega
  have HFE : (f != 0) = false := by first | exact trivial | (rw [hf]; rfl)
  try have HFZ := Lib.hid hf
  try clear hf
  clear hn hR hL hfd hl2 k1 k4
  go_enter Tryd.func5, Tryd.ntmps5
  go_wp2_with fail
  refine (Of_any HR.out HN.out hfit).mono ?_
  rintro e w1 ⟨p, h, rfl, m1, p1, h1, b1⟩
  simp only [World.size_alloc] at p1 h1 b1
  have M1 := Lib.hid m1
  have B1 := Lib.hid (below_past b1)
  have Q1 := Lib.hid (Law07.box5_later b1)
  have NE := Lib.hid (show some w.heap.size ≠ some h by simp; omega)
  have HH := Lib.hid (show w.heap.size ≤ h by omega)
  have RL := Lib.hid (HR.out.later (by simpa using b1))
  clear m1 b1 p1 h1
  obtain ⟨c0, c1, c2, c3, c4⟩ := Q1.out
  go_wp2_with fail
  refine (do_is M1.out (kd, i, a, b, y) HF.out HL2.out).mono ?_
  rintro e w' ⟨rfl, g2, m2⟩
  have M2 := Lib.hid m2
  have B2 := Lib.hid (below_of_grown B1.out g2 B1.out.size HH.out)
  have Q2 := Lib.hid (five_grown Q1.out g2 NE.out)
  have RL2 := Lib.hid (row_grown RL.out g2 (row_old HRR.out HH.out))
  clear m2 g2 c0 c1 c2 c3 c4
  go_wp2_with fail
  refine (Words_any M2.out).mono ?_
  rintro e w3 ⟨rfl, o3, b3⟩
  have B3 := Lib.hid (B2.out.trans (b3.mono B2.out.size))
  have Q3 := Lib.hid (five_later Q2.out b3)
  have RL3 := Lib.hid (RL2.out.later b3)
  have RW3 := Lib.hid (Row.of_own o3)
  have HN2 := Lib.hid (show n = l2.length from M2.out.len)
  clear o3 b3
  obtain ⟨c0, c1, c2, c3, c4⟩ := Q3.out
  go_wp2
  clear c0 c1 c2 c3 c4
  go_loopw [9] (fun j wr => ∃ k : Nat, k ≤ n ∧ j = .int .i64 k ∧ Below w3.heap.size w3 wr) (fun j _ => n - (intOf j).toNat)
  case atStart => exact ⟨0, Nat.zero_le _, rfl, Below.refl _ _⟩
  case round =>
    obtain ⟨k, hk, rfl, hb⟩ := hrel
    have RB := Lib.hid hb
    by_cases hlt : k < n
    · have hk1 : k < l.length := by rw [← HN.out]; exact hlt
      have hk2 : k < l2.length := by rw [← HN2.out]; exact hlt
      obtain ⟨b1, o1, rfl, _, hc1⟩ := int_at (RL3.out.later hb) hk1
      obtain ⟨v, hv⟩ : ∃ x, l[k]? = some x := ⟨_, List.getElem?_eq_getElem hk1⟩
      obtain ⟨b2, o2, e2, _, hc2⟩ := int_at (RW3.out.later hb) hk2
      simp only [Option.some.injEq, Addr.mk.injEq, and_true] at e2
      obtain ⟨rfl, rfl⟩ := e2
      have hv2 : l2[k]? = some (if (k : Int) = i then afterI v (kd, i, a, b, y) else v) := by rw [← HL2.out]; exact nextD_at HK.out hv
      have p0 := hc1 k v hv
      have q0 := hc2 k _ hv2
      simp at q0
      obtain ⟨d0, d1, d2, d3, d4⟩ := five_later Q3.out hb
      have P0 := fun p : After wr => p.cell p0
      have D0 := fun p : After wr => p.cell d0
      have D1 := fun p : After wr => p.cell d1
      have D2 := fun p : After wr => p.cell d2
      have D3 := fun p : After wr => p.cell d3
      have D4 := fun p : After wr => p.cell d4
      clear hc1 hc2 d0 d1 d2 d3 d4 p0
      by_cases hki : (k : Int) = i
      · obtain ⟨u, hu⟩ : ∃ u, afterI v (kd, i, a, b, y) = u := ⟨_, rfl⟩
        rw [if_pos hki, hu] at q0
        have Q0 := fun p : After wr => p.cell q0
        have HU := Lib.hid (DeedDo.After_is hu)
        have hfv : f = v := by rw [← HF.out, foundD_yes HK.out, ← hki]; exact getI_some hv
        have F1 : (f != v) = false := by simpa using hfv
        have I1 : ((k : Int) != i) = false := by simpa using hki
        have I2 : ((k : Int) == i) = true := by simpa using hki
        clear q0 hu hfv hki hv hv2 hb
        go_wp2
        refine wp_region_after mixed (by kernel_rfl) ?_
        repeat (first | go_big_quiet_step (exact calls_after (HU.out _)) | quiet_step (exact calls_after (HU.out _)))
        refine wpQuiet_nil ?_
        intro _ hw'
        obtain ⟨pq, hw''⟩ := hw'
        subst hw''
        have hq := Lib.hid (RB.out.trans (pq.ok.mono RB.out.size))
        go_wp2
        go_roundw
        case rel => exact ⟨k + 1, by omega, by go_num, hq.out⟩
        case measure => simp [intOf]; omega
      · rw [if_neg hki] at q0
        have Q0 := fun p : After wr => p.cell q0
        have I1 : ((k : Int) != i) = true := by simpa using hki
        have I2 : ((k : Int) == i) = false := by simpa using hki
        clear q0 hki hv hv2 hb
        go_wp2
        refine wp_region_after mixed (by kernel_rfl) ?_
        repeat (first | go_big_quiet_step (fail) | quiet_step (fail))
        refine wpQuiet_nil ?_
        intro _ hw'
        obtain ⟨pq, hw''⟩ := hw'
        subst hw''
        have hq := Lib.hid (RB.out.trans (pq.ok.mono RB.out.size))
        go_wp2
        go_roundw
        case rel => exact ⟨k + 1, by omega, by go_num, hq.out⟩
        case measure => simp [intOf]; omega
    · clear hb
      have HB5 := Lib.hid (B3.out.trans (RB.out.mono B3.out.size))
      go_wp2_with fail
      refine (Law07.awake_any _ (DeedText.tens_later HT.out HB5.out)).mono ?_
      rintro e w' ⟨rfl, h5⟩
      go_wp2
      go_ret
      exact ⟨rfl, HB5.out.trans (h5.mono HB5.out.size)⟩
set_option maxHeartbeats 2000000 in
theorem walk_at (A : Option Addr) (l : List Int) (n c : Nat) (kd i a b y f : Int) (w : World) (hR : Row w w.heap.size A (flat (encZ .u64) l)) (hn : n = l.length) (hs : n ≤ 300) (k1 : 1 ≤ kd) (k4 : kd ≤ 4) (hfd : foundD l (kd, i, a, b, y) = f) (hi : ¬ i < 0) (hj : ¬ (n : Int) ≤ i) (hL : Tens w) :
    Calls Tryd.prog 5 #[.slice A n c, .agg #[.int .i64 kd, .int .i64 i, .int .u64 a, .int .u64 b, .int .u64 y]] w fun e w' => e = .returned (.bool true) ∧ Below w.heap.size w w' := by
  obtain ⟨l2, hl2⟩ : ∃ l2, nextD l (kd, i, a, b, y) = l2 := ⟨_, rfl⟩
  have HN := Lib.hid hn
  have HB0 := Lib.hid (show Below w.heap.size w (w.alloc (.cells #[.int .i64 kd, .int .i64 i, .int .u64 a, .int .u64 b, .int .u64 y] 33)) from (Below.refl _ _).alloc (Nat.le_refl _) _)
  have HR := Lib.hid (hR.later HB0.out)
  have HRR := Lib.hid hR
  have HT := Lib.hid hL
  have HF := Lib.hid hfd
  have HL2 := Lib.hid hl2
  have HK := Lib.hid (show 1 ≤ (kd, i, a, b, y).1 ∧ (kd, i, a, b, y).1 ≤ 4 from ⟨k1, k4⟩)
  have hfit : n ≤ 4096 := by omega
  have k1' : ¬ kd < 1 := by omega
  have k4' : ¬ 4 < kd := by omega
  have s3 : ¬ (300 : Int) < (n : Int) := by omega
  have HFE : True := by first | exact trivial | (rw [hf]; rfl)
  try have HFZ := Lib.hid hf
  try clear hf
  clear hn hR hL hfd hl2 k1 k4
  go_enter Tryd.func5, Tryd.ntmps5
  go_wp2_with fail
  refine (Of_any HR.out HN.out hfit).mono ?_
  rintro e w1 ⟨p, h, rfl, m1, p1, h1, b1⟩
  simp only [World.size_alloc] at p1 h1 b1
  have M1 := Lib.hid m1
  have B1 := Lib.hid (below_past b1)
  have Q1 := Lib.hid (Law07.box5_later b1)
  have NE := Lib.hid (show some w.heap.size ≠ some h by simp; omega)
  have HH := Lib.hid (show w.heap.size ≤ h by omega)
  have RL := Lib.hid (HR.out.later (by simpa using b1))
  clear m1 b1 p1 h1
  obtain ⟨c0, c1, c2, c3, c4⟩ := Q1.out
  go_wp2_with fail
  refine (do_is M1.out (kd, i, a, b, y) HF.out HL2.out).mono ?_
  rintro e w' ⟨rfl, g2, m2⟩
  have M2 := Lib.hid m2
  have B2 := Lib.hid (below_of_grown B1.out g2 B1.out.size HH.out)
  have Q2 := Lib.hid (five_grown Q1.out g2 NE.out)
  have RL2 := Lib.hid (row_grown RL.out g2 (row_old HRR.out HH.out))
  clear m2 g2 c0 c1 c2 c3 c4
  go_wp2_with fail
  refine (Words_any M2.out).mono ?_
  rintro e w3 ⟨rfl, o3, b3⟩
  have B3 := Lib.hid (B2.out.trans (b3.mono B2.out.size))
  have Q3 := Lib.hid (five_later Q2.out b3)
  have RL3 := Lib.hid (RL2.out.later b3)
  have RW3 := Lib.hid (Row.of_own o3)
  have HN2 := Lib.hid (show n = l2.length from M2.out.len)
  clear o3 b3
  obtain ⟨c0, c1, c2, c3, c4⟩ := Q3.out
  go_wp2
  clear c0 c1 c2 c3 c4
  go_loopw [9] (fun j wr => ∃ k : Nat, k ≤ n ∧ j = .int .i64 k ∧ Below w3.heap.size w3 wr) (fun j _ => n - (intOf j).toNat)
  case atStart => exact ⟨0, Nat.zero_le _, rfl, Below.refl _ _⟩
  case round =>
    obtain ⟨k, hk, rfl, hb⟩ := hrel
    have RB := Lib.hid hb
    by_cases hlt : k < n
    · have hk1 : k < l.length := by rw [← HN.out]; exact hlt
      have hk2 : k < l2.length := by rw [← HN2.out]; exact hlt
      obtain ⟨b1, o1, rfl, _, hc1⟩ := int_at (RL3.out.later hb) hk1
      obtain ⟨v, hv⟩ : ∃ x, l[k]? = some x := ⟨_, List.getElem?_eq_getElem hk1⟩
      obtain ⟨b2, o2, e2, _, hc2⟩ := int_at (RW3.out.later hb) hk2
      simp only [Option.some.injEq, Addr.mk.injEq, and_true] at e2
      obtain ⟨rfl, rfl⟩ := e2
      have hv2 : l2[k]? = some (if (k : Int) = i then afterI v (kd, i, a, b, y) else v) := by rw [← HL2.out]; exact nextD_at HK.out hv
      have p0 := hc1 k v hv
      have q0 := hc2 k _ hv2
      simp at q0
      obtain ⟨d0, d1, d2, d3, d4⟩ := five_later Q3.out hb
      have P0 := fun p : After wr => p.cell p0
      have D0 := fun p : After wr => p.cell d0
      have D1 := fun p : After wr => p.cell d1
      have D2 := fun p : After wr => p.cell d2
      have D3 := fun p : After wr => p.cell d3
      have D4 := fun p : After wr => p.cell d4
      clear hc1 hc2 d0 d1 d2 d3 d4 p0
      by_cases hki : (k : Int) = i
      · obtain ⟨u, hu⟩ : ∃ u, afterI v (kd, i, a, b, y) = u := ⟨_, rfl⟩
        rw [if_pos hki, hu] at q0
        have Q0 := fun p : After wr => p.cell q0
        have HU := Lib.hid (DeedDo.After_is hu)
        have hfv : f = v := by rw [← HF.out, foundD_yes HK.out, ← hki]; exact getI_some hv
        have F1 : (f != v) = false := by simpa using hfv
        have I1 : ((k : Int) != i) = false := by simpa using hki
        have I2 : ((k : Int) == i) = true := by simpa using hki
        clear q0 hu hfv hki hv hv2 hb
        go_wp2
        refine wp_region_after mixed (by kernel_rfl) ?_
        repeat (first | go_big_quiet_step (exact calls_after (HU.out _)) | quiet_step (exact calls_after (HU.out _)))
        refine wpQuiet_nil ?_
        intro _ hw'
        obtain ⟨pq, hw''⟩ := hw'
        subst hw''
        have hq := Lib.hid (RB.out.trans (pq.ok.mono RB.out.size))
        go_wp2
        go_roundw
        case rel => exact ⟨k + 1, by omega, by go_num, hq.out⟩
        case measure => simp [intOf]; omega
      · rw [if_neg hki] at q0
        have Q0 := fun p : After wr => p.cell q0
        have I1 : ((k : Int) != i) = true := by simpa using hki
        have I2 : ((k : Int) == i) = false := by simpa using hki
        clear q0 hki hv hv2 hb
        go_wp2
        refine wp_region_after mixed (by kernel_rfl) ?_
        repeat (first | go_big_quiet_step (fail) | quiet_step (fail))
        refine wpQuiet_nil ?_
        intro _ hw'
        obtain ⟨pq, hw''⟩ := hw'
        subst hw''
        have hq := Lib.hid (RB.out.trans (pq.ok.mono RB.out.size))
        go_wp2
        go_roundw
        case rel => exact ⟨k + 1, by omega, by go_num, hq.out⟩
        case measure => simp [intOf]; omega
    · clear hb
      have HB5 := Lib.hid (B3.out.trans (RB.out.mono B3.out.size))
      go_wp2_with fail
      refine (Law07.awake_any _ (DeedText.tens_later HT.out HB5.out)).mono ?_
      rintro e w' ⟨rfl, h5⟩
      go_wp2
      go_ret
      exact ⟨rfl, HB5.out.trans (h5.mono HB5.out.size)⟩

theorem walk (A : Option Addr) (l : List Int) (c : Nat) (x : D) (w0 : (Lit.int .i64 x.1).wf = true) (w1 : (Lit.int .i64 x.2.1).wf = true) (w2 : (Lit.int .u64 x.2.2.1).wf = true) (w3 : (Lit.int .u64 x.2.2.2.1).wf = true) (w4 : (Lit.int .u64 x.2.2.2.2).wf = true) (w : World)
    (hR : Row w w.heap.size A (flat (encZ .u64) l)) (hl : l.length ≤ maxLen) (_ : ∀ x ∈ l, (Lit.int .u64 x).wf = true) (hL : Tens w) :
    Calls Tryd.prog 5 #[.slice A l.length c, .agg #[.int .i64 x.1, .int .i64 x.2.1, .int .u64 x.2.2.1, .int .u64 x.2.2.2.1, .int .u64 x.2.2.2.2]] w fun e w' => e = .returned (.bool true) ∧ Below w.heap.size w w' := by
  obtain ⟨n, hn⟩ : ∃ n, n = l.length := ⟨_, rfl⟩
  obtain ⟨kd, i, a, b, y⟩ := x
  simp only
  unfold maxLen at hl
  rw [← hn] at hl ⊢
  have HB0 := Lib.hid (show Below w.heap.size w (w.alloc (.cells #[.int .i64 kd, .int .i64 i, .int .u64 a, .int .u64 b, .int .u64 y] 33)) from (Below.refl _ _).alloc (Nat.le_refl _) _)
  have HT := Lib.hid (DeedText.tens_later hL HB0.out)
  by_cases hbig : 300 < n
  · clear hR hn hL w0 w1 w2 w3 w4
    go_enter Tryd.func5, Tryd.ntmps5
    go_wp2_with fail
    refine (Law07.awake_any _ HT.out).mono ?_
    rintro e w' ⟨rfl, hb⟩
    go_wp2
    go_ret
    exact ⟨rfl, HB0.out.trans (hb.mono HB0.out.size)⟩
  · have s3 : ¬ (300 : Int) < (n : Int) := by omega
    by_cases k1 : kd < 1
    · clear hR hn hL w0 w1 w2 w3 w4 hbig
      go_enter Tryd.func5, Tryd.ntmps5
      go_wp2_with fail
      refine (Law07.awake_any _ HT.out).mono ?_
      rintro e w' ⟨rfl, hb⟩
      go_wp2
      go_ret
      exact ⟨rfl, HB0.out.trans (hb.mono HB0.out.size)⟩
    · by_cases k4 : 4 < kd
      · clear hR hn hL w0 w1 w2 w3 w4 hbig
        go_enter Tryd.func5, Tryd.ntmps5
        go_wp2_with fail
        refine (Law07.awake_any _ HT.out).mono ?_
        rintro e w' ⟨rfl, hb⟩
        go_wp2
        go_ret
        exact ⟨rfl, HB0.out.trans (hb.mono HB0.out.size)⟩
      · have hk : 1 ≤ (kd, i, a, b, y).1 ∧ (kd, i, a, b, y).1 ≤ 4 := ⟨by show 1 ≤ kd; omega, by show kd ≤ 4; omega⟩
        by_cases hi : i < 0
        · exact walk_low A l n c kd i a b y 0 w hR hn (by omega) (by omega) (by omega) (by rw [foundD_yes hk]; exact getI_out (fun h => by have := h.1; simp only at this; omega)) hi rfl hL
        · by_cases hj : (n : Int) ≤ i
          · exact walk_high A l n c kd i a b y 0 w hR hn (by omega) (by omega) (by omega) (by rw [foundD_yes hk]; exact getI_out (fun h => by have := h.2; simp only at this; omega)) hi hj rfl hL
          · exact walk_at A l n c kd i a b y _ w hR hn (by omega) (by omega) (by omega) rfl hi hj hL
theorem laidOut : laidOutB Tryd.prog = true := by kernel_rfl
theorem own : ownKnob Tryd.prog.godebug = none := by kernel_rfl
theorem door_met (os : Os) (args : Array Value) : laidMetH Tryd.prog Rows.deedOneRow.laid ((World.doorLaid Tryd.prog 400 os).forCall (fun _ _ => 0) ⟨#[], args, []⟩).memory :=
  laidMetH_of_parts3 (fuel := 8) (laidMet_of_run' 8 (by kernel_rfl) (by kernel_rfl)) (by kernel_rfl) (by kernel_rfl)
set_option maxRecDepth 100000 in
theorem lifted (os : Os) (started : os.Started) (H : Type) (enc : TypeId × Value → H) :
    ReturnsInHanded {} Tryd.checked os 5 .any (fun w args => (Rows.deedOneSpec.pre enc Tryd.prog Tryd.f5 [] false w args ∧ laidMetH Tryd.prog Rows.deedOneRow.laid w) ∧ sizedMet enc Tryd.prog Tryd.f5 (OpenSpec.ofChange Rows.deedOneSpec) false w args) (Rows.deedOneSpec.post enc Tryd.prog Tryd.f5 false true false false) := by
  refine Frame.liftedLaid (C := Tryd.checked) (fn := Tryd.f5) (tb := 4) own started (by kernel_rfl) Tryd.func5
    (ChangeSpec.witness_shaped (enc := enc) (C := Tryd.checked) (os := os) (X := fun w _ => laidMetH Tryd.prog Rows.deedOneRow.laid w) false (World.doorLaid Tryd.prog 400 os) #[.slice none 0 0, .agg #[.int .i64 0, .int .i64 0, .int .u64 0, .int .u64 0, .int .u64 0]] 8 rfl (World.shaped_of_RefB (by kernel_rfl) (by kernel_rfl)) (by kernel_rfl) (by kernel_rfl) (by kernel_rfl) (door_met os _))
    rfl rfl Tryd.underlying4 laidOut (by kernel_rfl) (fun ds h => by match ds, h with | [_, _], _ => rfl) ?_
  intro W base args ds ps hval0 hA0 hlt hL
  have hval : ∀ (j : Nat) t v, Tryd.f5.params[j]? = some t → args[j]? = some v → Value.okWide Tryd.prog W .any base t v := hval0
  have hA : DataW.TrodAll enc Tryd.prog W 0 (fun _ => true) true Tryd.f5.params.toList args.toList ds ps := hA0
  rw [Tryd.params5] at hA hval
  obtain ⟨v0, vs0, d0, ds0, p0, q0, hargs, rfl, rfl, h0, r0⟩ := trodAll_cons hA
  obtain ⟨v1, vs1, d1, ds1, p1, q1, rfl, rfl, rfl, h1, r1⟩ := trodAll_cons r0
  obtain ⟨rfl, rfl, rfl⟩ := trodAll_nil r1
  obtain rfl : args = #[v0, v1] := by cases args; simp_all
  obtain ⟨A0, x0, c0, rfl, b0, m0, R0, g0⟩ := Open.open_rows (k := 1) (Ints.encZ .u64) (fun x => (Lit.int .u64 x).wf = true) Tryd.underlying22 (by kernel_rfl) (by decide) (Ints.encZ_length _) (fun n cs y h hl => Ints.one_int Tryd.underlying29 n cs y h hl) (hval 0 22 v0 rfl rfl) h0
  obtain ⟨x1, rfl, w1_0, w1_1, w1_2, w1_3, w1_4⟩ := Open.open_five_ints Tryd.underlying33 (by kernel_rfl) (by kernel_rfl) Tryd.underlying3 Tryd.underlying3 Tryd.underlying29 Tryd.underlying29 Tryd.underlying29 (hval 1 33 v1 rfl rfl) h1
  refine (walk A0 x0 c0 x1 w1_0 w1_1 w1_2 w1_3 w1_4 W R0 (Nat.le_trans b0 m0) g0 (held hL)).mono fun e W' h => ?_
  exact h

theorem over : Rows.deedOneRow.holds Tryd.pinned (OpenSpec.ofChange Rows.deedOneSpec) :=
  OpenClaim.holds_of_wide 5 Tryd.f5 rfl rfl rfl rfl rfl rfl rfl ⟨rfl, rfl, rfl, rfl, rfl⟩ rfl rfl rfl rfl rfl (by kernel_rfl) Tryd.func5 (by kernel_rfl)
    (of_decide_eq_true (by kernel_rfl)) (by unfold Func.isWrapper; first | (rw [if_pos (by decide +kernel)]; kernel_rfl) | (rw [if_neg (by decide +kernel)]; exact ⟨rfl, rfl⟩))
    (fun os started H enc _ => lifted os started H enc)

theorem proved : Rows.DeedOneCardSaid :=
  Claim7.holds_tied_plain_at .later [] Rows.deedOneCard.laidKinds true Rows.deedOneCard.stood.harness Rows.deedOneCard.stood.looks
    over (fun _ h => by cases h) (by kernel_rfl) (fun _ h => by cases h) deedOne_row_tie rfl ⟨rfl, rfl⟩ (by kernel_rfl) rfl
    (fun f fn hf hfn => by
      obtain rfl : f = 5 := Option.some.inj ((show Tryd.prog.funcNamed Rows.deedOneRow.func = some 5 by kernel_rfl).symm.trans hf) |>.symm
      obtain rfl : fn = Tryd.f5 := (Option.some.inj (Tryd.func5.symm.trans hfn)).symm
      exact ⟨by kernel_rfl, fun j t ht => by
        rw [Tryd.params5] at ht
        have hm : t ∈ [22, 33] := by simpa using Array.mem_of_getElem? ht
        have hall : ([22, 33].all fun u => !Tryd.prog.wantsStandIn u) = true := by kernel_rfl
        exact (show Tryd.prog.wantsStandIn t = false by simpa using List.all_eq_true.1 hall t hm)⟩)
    (by kernel_rfl)
#print axioms proved
end Go.Proofs.YtghinmjebkpjhaaDoor.DeedOne
