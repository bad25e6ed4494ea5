/- HandleBack: for every plan p, every word h and every text s of at most 10000 bytes, the text of h is read as h; what s is read as has the text s; and the reference of h in p, if it has one, has the handle h, no mark, and an index that p has; and the chapter's examples come out; the arguments read as they did. Conditions: the listed tables and errors of Go's library hold what the library's own text lays in them (tied by the card). -/
import Derived.Test.YtjbfhnkjcfpfpaaDoorHandleAwake
import Derived.Test.YtjbfhnkjcfpfpaaDoorFour
import Derived.Test.YtjbfhnkjcfpfpaaDoorCards
import Derived.ChangeMaps5
import Derived.BigQuiet
import Derived.Deep.QuietTactic
namespace Go.Proofs.YtjbfhnkjcfpfpaaDoor.HandleBack
set_option maxRecDepth 20000
open Go.ChangeShapes Go.WideShapes Go.ChangeAt Go.ChangeMaps Go.RowKit KM WaM Str HaM Lay
open Go.Proofs.YtjbfhnkjcfpfpaaDoor.Law30 (wf_u64 wf_i64 Held)
open SM (decI)
open Ref30 (refI refV refI_yes refI_no plan_cell plan_below)
set_option linter.unusedVariables false

theorem held {W : World} (h : laidMetH Tryd.prog Rows.handleBackRow.laid W) : Held W :=
  Law30.held_of h (by kernel_rfl) (List.mem_of_getElem? (i := 2) rfl) (List.mem_of_getElem? (i := 3) rfl) (List.mem_of_getElem? (i := 4) rfl)
theorem mixed : Tryd.prog.follows .mixedOrders = true := by kernel_rfl
/-- What the law holds of memory: the plan's box, the tables, and that nothing that lay has turned. -/
structure Has (w : World) (T S L G : Int) (W : World) : Prop where
  box : W.heap[w.heap.size]? = some (.cells #[.int .i64 T, .int .i64 S, .int .i64 L, .int .u64 G] 24 (0, 0))
  held : Held W
  below : Below w.heap.size w W
theorem Has.later {w : World} {T S L G : Int} {A B : World} (h : Has w T S L G A) (hb : Below A.heap.size A B) : Has w T S L G B :=
  ⟨(hb.block _ (Array.getElem?_eq_some_iff.1 h.box).1).trans h.box, h.held.later hb, h.below.trans (hb.mono h.below.size)⟩
theorem Has.cells {w : World} {T S L G : Int} {W : World} (h : Has w T S L G W) : W.cell? ⟨w.heap.size, 0, none⟩ = some (.int .i64 T) ∧ W.cell? ⟨w.heap.size, 1, none⟩ = some (.int .i64 S) ∧ W.cell? ⟨w.heap.size, 2, none⟩ = some (.int .i64 L) ∧ W.cell? ⟨w.heap.size, 3, none⟩ = some (.int .u64 G) := by
  have := h.box
  simp [World.cell?, this]
theorem has_new (T S L G : Int) {w : World} (hL : Held w) : Has w T S L G (w.alloc (.cells #[.int .i64 T, .int .i64 S, .int .i64 L, .int .u64 G] 24)) :=
  ⟨heap_alloc_new w _, hL.later (plan_below T S L G w), plan_below T S L G w⟩
theorem ret_ref {S h : Int} (hh : 0 ≤ h ∧ h < 18446744073709551616) {r : Int} (he : refI S h = (r, true)) :
    (0 ≤ r ∧ r < 18446744073709551616) ∧ handI r = h ∧ r % 2 = 0 ∧ r % 4294967296 / 2 ≤ S := by
  by_cases hy : 1 ≤ h % 4294967296 ∧ h % 4294967296 ≤ S ∧ h % 4294967296 ≤ 2147483647
  · rw [refI_yes hy, RM.ofI_yes ⟨by omega, hy.1, hy.2.2⟩] at he
    obtain ⟨he, -⟩ := Prod.mk.inj he
    unfold handI ClM.genI idx
    omega
  · rw [refI_no hy] at he
    cases (Prod.mk.inj he).2
/-- The text of h is read as h. -/
theorem read_back {h : Int} (hh : 0 ≤ h ∧ h < 18446744073709551616) (w : World) (hL : Held w) :
    Calls Tryd.prog 13 #[.string (bs (textH h))] w fun e w' => e = .returned (.tuple #[.int .u64 h, .int .i64 0]) ∧ Below w.heap.size w w' := by
  have h1 := Handle.Parse_is (s := textH h) (by have := text_len hh.1 hh.2; omega) w hL.1 hL.2
  have h2 : parts (textH h) = some ((h / 4294967296).toNat, (h % 4294967296).toNat) := parts_text (by omega) (by omega)
  rw [h2] at h1
  have h3 : Handle.parseT (some ((h / 4294967296).toNat, (h % 4294967296).toNat)) = .tuple #[.int .u64 h, .int .i64 0] := by
    show Value.tuple #[.int .u64 (((h / 4294967296).toNat : Int) * 4294967296 + ((h % 4294967296).toNat : Int)), .int .i64 0] = _
    rw [show ((h / 4294967296).toNat : Int) * 4294967296 + ((h % 4294967296).toNat : Int) = h by omega]
  rw [h3] at h1
  exact h1
set_option maxHeartbeats 1000000 in
theorem walk_no_no (T S L G h : Int) {s : List UInt8} (hl : ¬ 10000 < s.length) (hp : parts s = none) (hh : 0 ≤ h ∧ h < 18446744073709551616) {v : Int} (hr : refI S h = (v, false)) (w : World) (hL : Held w) :
    Calls Tryd.prog 5 #[.agg #[.int .i64 T, .int .i64 S, .int .i64 L, .int .u64 G], .int .u64 h, .string (bs s)] w fun e w' => e = .returned (.bool true) ∧ Below w.heap.size w w' := by
  obtain ⟨n, hn⟩ : ∃ n, s.length = n := ⟨_, rfl⟩
  have hsz : (bs s).size = n := by rw [bs_size, hn]
  have i1 : ¬ (10000 : Int) < (n : Int) := by omega
  have HB := Lib.hid (has_new T S L G hL)
  have H1 := Lib.hid fun w hT => Handle.Text_any hh w hT
  have H2 := Lib.hid fun w hL => read_back hh w hL
  have H3 := Lib.hid fun w hT hE => Handle.Parse_is (s := s) (by omega) w hT hE
  rw [hp] at H3
  unfold Handle.parseT at H3
  clear hp
  have H5 := Lib.hid fun w => Handle.Ref_any (T := T) (S := S) (L := L) (G := G) hh w
  unfold refV at H5
  rw [hr] at H5
  clear hr
  clear hn hl hL hh
  go_enter Tryd.func5, Tryd.ntmps5
  go_wp2_with fail
  refine (H1.out _ HB.out.held.1).mono ?_
  rintro e w1 ⟨rfl, hb⟩
  have HC := Lib.hid (HB.out.later hb)
  clear hb HB
  go_wp2_with fail
  refine (H2.out _ HC.out.held).mono ?_
  rintro e w2 ⟨rfl, hb⟩
  have HB := Lib.hid (HC.out.later hb)
  clear hb HC
  go_wp2_with fail
  refine (H3.out _ HB.out.held.1 HB.out.held.2).mono ?_
  rintro e w3 ⟨rfl, hb⟩
  have HC := Lib.hid (HB.out.later hb)
  clear hb HB
  obtain ⟨c0, c1, c2, c3⟩ := HC.out.cells
  go_wp2_with fail
  refine (H5.out _).mono ?_
  rintro e w5 ⟨rfl, hb⟩
  have HB := Lib.hid (HC.out.later hb)
  clear hb HC c0 c1 c2 c3
  have HC := HB
  clear HB
  obtain ⟨c0, c1, c2, c3⟩ := HC.out.cells
  have K1 := fun p : After w5 => p.cell c1
  clear c0 c2 c3
  go_wp2
  refine wp_region_after mixed (by kernel_rfl) ?_
  repeat (first | go_big_quiet_step ((exact calls_after (Law30.awake_any _ (HC.out.held.later (After.ok _))))) | quiet_step ((exact calls_after (Law30.awake_any _ (HC.out.held.later (After.ok _))))))
  refine wpQuiet_nil ?_
  intro _ hw'
  obtain ⟨pq, hw''⟩ := hw'
  subst hw''
  go_wp2
  go_ret
  exact ⟨rfl, HC.out.below.trans (pq.ok.mono HC.out.below.size)⟩
set_option maxHeartbeats 1000000 in
theorem walk_no_yes (T S L G h : Int) {s : List UInt8} (hl : ¬ 10000 < s.length) (hp : parts s = none) (hh : 0 ≤ h ∧ h < 18446744073709551616) {r : Int} (hr : refI S h = (r, true)) (w : World) (hL : Held w) :
    Calls Tryd.prog 5 #[.agg #[.int .i64 T, .int .i64 S, .int .i64 L, .int .u64 G], .int .u64 h, .string (bs s)] w fun e w' => e = .returned (.bool true) ∧ Below w.heap.size w w' := by
  obtain ⟨n, hn⟩ : ∃ n, s.length = n := ⟨_, rfl⟩
  have hsz : (bs s).size = n := by rw [bs_size, hn]
  have i1 : ¬ (10000 : Int) < (n : Int) := by omega
  have HB := Lib.hid (has_new T S L G hL)
  have H1 := Lib.hid fun w hT => Handle.Text_any hh w hT
  have H2 := Lib.hid fun w hL => read_back hh w hL
  have H3 := Lib.hid fun w hT hE => Handle.Parse_is (s := s) (by omega) w hT hE
  rw [hp] at H3
  unfold Handle.parseT at H3
  clear hp
  have H5 := Lib.hid fun w => Handle.Ref_any (T := T) (S := S) (L := L) (G := G) hh w
  unfold refV at H5
  rw [hr] at H5
  obtain ⟨q1, q2, q3, q4⟩ := ret_ref hh hr
  have Y1 := Lib.hid fun w => Handle.Of_any q1 w
  rw [q2] at Y1
  have Y2 := Lib.hid fun w => Refer.Marked_any r q1.1 q1.2 w
  rw [decide_eq_false (show ¬ r % 2 = 1 by omega)] at Y2
  have Y3 := Lib.hid fun w => Refer.Index_any r q1.1 q1.2 w
  generalize r % 4294967296 / 2 = x at Y3 q4
  have i2 : x ≤ S := q4
  clear hr q1 q2 q3 q4
  clear hn hl hL hh
  go_enter Tryd.func5, Tryd.ntmps5
  go_wp2_with fail
  refine (H1.out _ HB.out.held.1).mono ?_
  rintro e w1 ⟨rfl, hb⟩
  have HC := Lib.hid (HB.out.later hb)
  clear hb HB
  go_wp2_with fail
  refine (H2.out _ HC.out.held).mono ?_
  rintro e w2 ⟨rfl, hb⟩
  have HB := Lib.hid (HC.out.later hb)
  clear hb HC
  go_wp2_with fail
  refine (H3.out _ HB.out.held.1 HB.out.held.2).mono ?_
  rintro e w3 ⟨rfl, hb⟩
  have HC := Lib.hid (HB.out.later hb)
  clear hb HB
  obtain ⟨c0, c1, c2, c3⟩ := HC.out.cells
  go_wp2_with fail
  refine (H5.out _).mono ?_
  rintro e w5 ⟨rfl, hb⟩
  have HB := Lib.hid (HC.out.later hb)
  clear hb HC c0 c1 c2 c3
  have HC := HB
  clear HB
  obtain ⟨c0, c1, c2, c3⟩ := HC.out.cells
  have K1 := fun p : After w5 => p.cell c1
  clear c0 c2 c3
  go_wp2
  refine wp_region_after mixed (by kernel_rfl) ?_
  repeat (first | go_big_quiet_step ((first | (with_reducible exact calls_after_same (Y1.out _)) | (with_reducible exact calls_after_same (Y2.out _)) | (with_reducible exact calls_after_same (Y3.out _)) | exact calls_after (Law30.awake_any _ (HC.out.held.later (After.ok _))))) | quiet_step ((first | (with_reducible exact calls_after_same (Y1.out _)) | (with_reducible exact calls_after_same (Y2.out _)) | (with_reducible exact calls_after_same (Y3.out _)) | exact calls_after (Law30.awake_any _ (HC.out.held.later (After.ok _))))))
  refine wpQuiet_nil ?_
  intro _ hw'
  obtain ⟨pq, hw''⟩ := hw'
  subst hw''
  go_wp2
  go_ret
  exact ⟨rfl, HC.out.below.trans (pq.ok.mono HC.out.below.size)⟩
set_option maxHeartbeats 1000000 in
theorem walk_yes_no (T S L G h : Int) {s : List UInt8} (hl : ¬ 10000 < s.length) {g k : Nat} (hp : parts s = some (g, k)) (hh : 0 ≤ h ∧ h < 18446744073709551616) {v : Int} (hr : refI S h = (v, false)) (w : World) (hL : Held w) :
    Calls Tryd.prog 5 #[.agg #[.int .i64 T, .int .i64 S, .int .i64 L, .int .u64 G], .int .u64 h, .string (bs s)] w fun e w' => e = .returned (.bool true) ∧ Below w.heap.size w w' := by
  obtain ⟨n, hn⟩ : ∃ n, s.length = n := ⟨_, rfl⟩
  have hsz : (bs s).size = n := by rw [bs_size, hn]
  have i1 : ¬ (10000 : Int) < (n : Int) := by omega
  have HB := Lib.hid (has_new T S L G hL)
  have H1 := Lib.hid fun w hT => Handle.Text_any hh w hT
  have H2 := Lib.hid fun w hL => read_back hh w hL
  have H3 := Lib.hid fun w hT hE => Handle.Parse_is (s := s) (by omega) w hT hE
  rw [hp, show Handle.parseT (some (g, k)) = .tuple #[.int .u64 ((g : Int) * 4294967296 + (k : Int)), .int .i64 0] from rfl] at H3
  obtain ⟨pg, pk, pe⟩ := parts_is hp
  have pt : textH ((g : Int) * 4294967296 + (k : Int)) = s := by
    rw [pe]
    unfold textH decI
    rw [show (((g : Int) * 4294967296 + (k : Int)) / 4294967296).toNat = g by omega, show (((g : Int) * 4294967296 + (k : Int)) % 4294967296).toNat = k by omega]
  have H4 := Lib.hid fun w hT => Handle.Text_any (h := (g : Int) * 4294967296 + (k : Int)) (by omega) w hT
  rw [pt] at H4
  generalize (g : Int) * 4294967296 + (k : Int) = m at H3 H4
  have HE := bs_same s
  clear hp pg pk pe pt
  have H5 := Lib.hid fun w => Handle.Ref_any (T := T) (S := S) (L := L) (G := G) hh w
  unfold refV at H5
  rw [hr] at H5
  clear hr
  clear hn hl hL hh
  go_enter Tryd.func5, Tryd.ntmps5
  go_wp2_with fail
  refine (H1.out _ HB.out.held.1).mono ?_
  rintro e w1 ⟨rfl, hb⟩
  have HC := Lib.hid (HB.out.later hb)
  clear hb HB
  go_wp2_with fail
  refine (H2.out _ HC.out.held).mono ?_
  rintro e w2 ⟨rfl, hb⟩
  have HB := Lib.hid (HC.out.later hb)
  clear hb HC
  go_wp2_with fail
  refine (H3.out _ HB.out.held.1 HB.out.held.2).mono ?_
  rintro e w3 ⟨rfl, hb⟩
  have HC := Lib.hid (HB.out.later hb)
  clear hb HB
  go_wp2_with fail
  refine (H4.out _ HC.out.held.1).mono ?_
  rintro e w4 ⟨rfl, hb⟩
  have HB := Lib.hid (HC.out.later hb)
  clear hb HC
  have HC := HB
  clear HB
  obtain ⟨c0, c1, c2, c3⟩ := HC.out.cells
  go_wp2_with fail
  refine (H5.out _).mono ?_
  rintro e w5 ⟨rfl, hb⟩
  have HB := Lib.hid (HC.out.later hb)
  clear hb HC c0 c1 c2 c3
  have HC := HB
  clear HB
  obtain ⟨c0, c1, c2, c3⟩ := HC.out.cells
  have K1 := fun p : After w5 => p.cell c1
  clear c0 c2 c3
  go_wp2
  refine wp_region_after mixed (by kernel_rfl) ?_
  repeat (first | go_big_quiet_step ((exact calls_after (Law30.awake_any _ (HC.out.held.later (After.ok _))))) | quiet_step ((exact calls_after (Law30.awake_any _ (HC.out.held.later (After.ok _))))))
  refine wpQuiet_nil ?_
  intro _ hw'
  obtain ⟨pq, hw''⟩ := hw'
  subst hw''
  go_wp2
  go_ret
  exact ⟨rfl, HC.out.below.trans (pq.ok.mono HC.out.below.size)⟩
set_option maxHeartbeats 1000000 in
theorem walk_yes_yes (T S L G h : Int) {s : List UInt8} (hl : ¬ 10000 < s.length) {g k : Nat} (hp : parts s = some (g, k)) (hh : 0 ≤ h ∧ h < 18446744073709551616) {r : Int} (hr : refI S h = (r, true)) (w : World) (hL : Held w) :
    Calls Tryd.prog 5 #[.agg #[.int .i64 T, .int .i64 S, .int .i64 L, .int .u64 G], .int .u64 h, .string (bs s)] w fun e w' => e = .returned (.bool true) ∧ Below w.heap.size w w' := by
  obtain ⟨n, hn⟩ : ∃ n, s.length = n := ⟨_, rfl⟩
  have hsz : (bs s).size = n := by rw [bs_size, hn]
  have i1 : ¬ (10000 : Int) < (n : Int) := by omega
  have HB := Lib.hid (has_new T S L G hL)
  have H1 := Lib.hid fun w hT => Handle.Text_any hh w hT
  have H2 := Lib.hid fun w hL => read_back hh w hL
  have H3 := Lib.hid fun w hT hE => Handle.Parse_is (s := s) (by omega) w hT hE
  rw [hp, show Handle.parseT (some (g, k)) = .tuple #[.int .u64 ((g : Int) * 4294967296 + (k : Int)), .int .i64 0] from rfl] at H3
  obtain ⟨pg, pk, pe⟩ := parts_is hp
  have pt : textH ((g : Int) * 4294967296 + (k : Int)) = s := by
    rw [pe]
    unfold textH decI
    rw [show (((g : Int) * 4294967296 + (k : Int)) / 4294967296).toNat = g by omega, show (((g : Int) * 4294967296 + (k : Int)) % 4294967296).toNat = k by omega]
  have H4 := Lib.hid fun w hT => Handle.Text_any (h := (g : Int) * 4294967296 + (k : Int)) (by omega) w hT
  rw [pt] at H4
  generalize (g : Int) * 4294967296 + (k : Int) = m at H3 H4
  have HE := bs_same s
  clear hp pg pk pe pt
  have H5 := Lib.hid fun w => Handle.Ref_any (T := T) (S := S) (L := L) (G := G) hh w
  unfold refV at H5
  rw [hr] at H5
  obtain ⟨q1, q2, q3, q4⟩ := ret_ref hh hr
  have Y1 := Lib.hid fun w => Handle.Of_any q1 w
  rw [q2] at Y1
  have Y2 := Lib.hid fun w => Refer.Marked_any r q1.1 q1.2 w
  rw [decide_eq_false (show ¬ r % 2 = 1 by omega)] at Y2
  have Y3 := Lib.hid fun w => Refer.Index_any r q1.1 q1.2 w
  generalize r % 4294967296 / 2 = x at Y3 q4
  have i2 : x ≤ S := q4
  clear hr q1 q2 q3 q4
  clear hn hl hL hh
  go_enter Tryd.func5, Tryd.ntmps5
  go_wp2_with fail
  refine (H1.out _ HB.out.held.1).mono ?_
  rintro e w1 ⟨rfl, hb⟩
  have HC := Lib.hid (HB.out.later hb)
  clear hb HB
  go_wp2_with fail
  refine (H2.out _ HC.out.held).mono ?_
  rintro e w2 ⟨rfl, hb⟩
  have HB := Lib.hid (HC.out.later hb)
  clear hb HC
  go_wp2_with fail
  refine (H3.out _ HB.out.held.1 HB.out.held.2).mono ?_
  rintro e w3 ⟨rfl, hb⟩
  have HC := Lib.hid (HB.out.later hb)
  clear hb HB
  go_wp2_with fail
  refine (H4.out _ HC.out.held.1).mono ?_
  rintro e w4 ⟨rfl, hb⟩
  have HB := Lib.hid (HC.out.later hb)
  clear hb HC
  have HC := HB
  clear HB
  obtain ⟨c0, c1, c2, c3⟩ := HC.out.cells
  go_wp2_with fail
  refine (H5.out _).mono ?_
  rintro e w5 ⟨rfl, hb⟩
  have HB := Lib.hid (HC.out.later hb)
  clear hb HC c0 c1 c2 c3
  have HC := HB
  clear HB
  obtain ⟨c0, c1, c2, c3⟩ := HC.out.cells
  have K1 := fun p : After w5 => p.cell c1
  clear c0 c2 c3
  go_wp2
  refine wp_region_after mixed (by kernel_rfl) ?_
  repeat (first | go_big_quiet_step ((first | (with_reducible exact calls_after_same (Y1.out _)) | (with_reducible exact calls_after_same (Y2.out _)) | (with_reducible exact calls_after_same (Y3.out _)) | exact calls_after (Law30.awake_any _ (HC.out.held.later (After.ok _))))) | quiet_step ((first | (with_reducible exact calls_after_same (Y1.out _)) | (with_reducible exact calls_after_same (Y2.out _)) | (with_reducible exact calls_after_same (Y3.out _)) | exact calls_after (Law30.awake_any _ (HC.out.held.later (After.ok _))))))
  refine wpQuiet_nil ?_
  intro _ hw'
  obtain ⟨pq, hw''⟩ := hw'
  subst hw''
  go_wp2
  go_ret
  exact ⟨rfl, HC.out.below.trans (pq.ok.mono HC.out.below.size)⟩
theorem walk_long (T S L G h : Int) {s : List UInt8} (hl : 10000 < s.length) (w : World) (hL : Held w) :
    Calls Tryd.prog 5 #[.agg #[.int .i64 T, .int .i64 S, .int .i64 L, .int .u64 G], .int .u64 h, .string (bs s)] w fun e w' => e = .returned (.bool true) ∧ Below w.heap.size w w' := by
  obtain ⟨n, hn⟩ : ∃ n, s.length = n := ⟨_, rfl⟩
  have hsz : (bs s).size = n := by rw [bs_size, hn]
  have i1 : (10000 : Int) < (n : Int) := by omega
  have HB := Lib.hid (has_new T S L G hL)
  clear hn hl hL
  go_enter Tryd.func5, Tryd.ntmps5
  go_wp2_with fail
  refine (Law30.awake_any _ HB.out.held).mono ?_
  rintro e w' ⟨rfl, hb⟩
  go_wp2
  go_ret
  exact ⟨rfl, HB.out.below.trans (hb.mono HB.out.below.size)⟩
theorem walk_one (T S L G h : Int) (s : List UInt8) (hh : 0 ≤ h ∧ h < 18446744073709551616) (w : World) (hL : Held w) :
    Calls Tryd.prog 5 #[.agg #[.int .i64 T, .int .i64 S, .int .i64 L, .int .u64 G], .int .u64 h, .string (bs s)] w fun e w' => e = .returned (.bool true) ∧ Below w.heap.size w w' := by
  by_cases hl : 10000 < s.length
  · exact walk_long T S L G h hl w hL
  · cases hp : parts s with
    | none =>
      cases hr : refI S h with
      | mk r b =>
        cases b with
        | false => exact walk_no_no T S L G h hl hp hh hr w hL
        | true => exact walk_no_yes T S L G h hl hp hh hr w hL
    | some x =>
      obtain ⟨g, k⟩ := x
      cases hr : refI S h with
      | mk r b =>
        cases b with
        | false => exact walk_yes_no T S L G h hl hp hh hr w hL
        | true => exact walk_yes_yes T S L G h hl hp hh hr w hL
theorem walk (x0 : Int × Int × Int × Int) (h : Int) (s : ByteArray) (_ : (Lit.int .i64 x0.1).wf = true) (_ : (Lit.int .i64 x0.2.1).wf = true) (_ : (Lit.int .i64 x0.2.2.1).wf = true) (_ : (Lit.int .u64 x0.2.2.2).wf = true) (wh : (Lit.int .u64 h).wf = true) (w : World) (hL : Held w) :
    Calls Tryd.prog 5 #[.agg #[.int .i64 x0.1, .int .i64 x0.2.1, .int .i64 x0.2.2.1, .int .u64 x0.2.2.2], .int .u64 h, .string s] w fun e w' => e = .returned (.bool true) ∧ Below w.heap.size w w' := by
  have := walk_one x0.1 x0.2.1 x0.2.2.1 x0.2.2.2 h s.data.toList (wf_u64 wh) w hL
  rw [bs_of] at this
  exact this

theorem laidOut : laidOutB Tryd.prog = true := by kernel_rfl
theorem own : ownKnob Tryd.prog.godebug = none := by kernel_rfl
theorem door_met (os : Os) (args : Array Value) : laidMetH Tryd.prog Rows.handleBackRow.laid ((World.doorLaid Tryd.prog 400 os).forCall (fun _ _ => 0) ⟨#[], args, []⟩).memory :=
  laidMetH_of_parts3 (fuel := 8) (laidMet_of_run' 8 (by kernel_rfl) (by kernel_rfl)) (by kernel_rfl) (by kernel_rfl)
set_option maxRecDepth 100000 in
theorem lifted (os : Os) (started : os.Started) (H : Type) (enc : TypeId × Value → H) :
    ReturnsInHanded {} Tryd.checked os 5 .any (fun w args => (Rows.handleBackSpec.pre enc Tryd.prog Tryd.f5 [] false w args ∧ laidMetH Tryd.prog Rows.handleBackRow.laid w) ∧ sizedMet enc Tryd.prog Tryd.f5 (OpenSpec.ofChange Rows.handleBackSpec) false w args) (Rows.handleBackSpec.post enc Tryd.prog Tryd.f5 false true false false) := by
  refine Frame.liftedLaid (C := Tryd.checked) (fn := Tryd.f5) (tb := 4) own started (by kernel_rfl) Tryd.func5
    (ChangeSpec.witness_shaped (enc := enc) (C := Tryd.checked) (os := os) (X := fun w _ => laidMetH Tryd.prog Rows.handleBackRow.laid w) false (World.doorLaid Tryd.prog 400 os) #[.agg #[.int .i64 0, .int .i64 0, .int .i64 0, .int .u64 0], .int .u64 0, .string ⟨#[]⟩] 8 rfl (World.shaped_of_RefB (by kernel_rfl) (by kernel_rfl)) (by kernel_rfl) (by kernel_rfl) (by kernel_rfl) (door_met os _))
    rfl rfl Tryd.underlying4 laidOut (by kernel_rfl) (fun ds h => by match ds, h with | [_, _, _], _ => rfl) ?_
  intro W base args ds ps hval0 hA0 hlt hL
  have hval : ∀ (j : Nat) t v, Tryd.f5.params[j]? = some t → args[j]? = some v → Value.okWide Tryd.prog W .any base t v := hval0
  have hA : DataW.TrodAll enc Tryd.prog W 0 (fun _ => true) true Tryd.f5.params.toList args.toList ds ps := hA0
  rw [Tryd.params5] at hA hval
  obtain ⟨v0, vs0, d0, ds0, p0, q0, hargs, rfl, rfl, h0, r0⟩ := trodAll_cons hA
  obtain ⟨v1, vs1, d1, ds1, p1, q1, rfl, rfl, rfl, h1, r1⟩ := trodAll_cons r0
  obtain ⟨v2, vs2, d2, ds2, p2, q2, rfl, rfl, rfl, h2, r2⟩ := trodAll_cons r1
  obtain ⟨rfl, rfl, rfl⟩ := trodAll_nil r2
  obtain rfl : args = #[v0, v1, v2] := by cases args; simp_all
  obtain ⟨x0, rfl, w0_0, w0_1, w0_2, w0_3⟩ := Open.open_four_ints Tryd.underlying24 (by kernel_rfl) (by kernel_rfl) Tryd.underlying3 Tryd.underlying3 Tryd.underlying3 Tryd.underlying22 (hval 0 24 v0 rfl rfl) h0
  obtain ⟨a1, rfl, _, _, w1⟩ := open_int Tryd.underlying22 (hval 1 22 v1 rfl rfl) h1
  obtain ⟨s2, rfl, _, _, _⟩ := open_string Tryd.underlying9 (hval 2 9 v2 rfl rfl) h2
  refine (walk x0 a1 s2 w0_0 w0_1 w0_2 w0_3 w1 W (held hL)).mono fun e W' h => ?_
  exact h

theorem over : Rows.handleBackRow.holds Tryd.pinned (OpenSpec.ofChange Rows.handleBackSpec) :=
  OpenClaim.holds_of_wide 5 Tryd.f5 rfl rfl rfl rfl rfl rfl rfl ⟨rfl, rfl, rfl, rfl, rfl⟩ rfl rfl rfl rfl rfl (by kernel_rfl) Tryd.func5 (by kernel_rfl)
    (of_decide_eq_true (by kernel_rfl)) (by unfold Func.isWrapper; first | (rw [if_pos (by decide +kernel)]; kernel_rfl) | (rw [if_neg (by decide +kernel)]; exact ⟨rfl, rfl⟩))
    (fun os started H enc _ => lifted os started H enc)

theorem proved : Rows.HandleBackCardSaid :=
  Claim7.holds_tied_plain_at .later [] Rows.handleBackCard.laidKinds true Rows.handleBackCard.stood.harness Rows.handleBackCard.stood.looks
    over (fun _ h => by cases h) (by kernel_rfl) (fun _ h => by cases h) handleBack_row_tie rfl ⟨rfl, rfl⟩ (by kernel_rfl) rfl
    (fun f fn hf hfn => by
      obtain rfl : f = 5 := Option.some.inj ((show Tryd.prog.funcNamed Rows.handleBackRow.func = some 5 by kernel_rfl).symm.trans hf) |>.symm
      obtain rfl : fn = Tryd.f5 := (Option.some.inj (Tryd.func5.symm.trans hfn)).symm
      exact ⟨by kernel_rfl, fun j t ht => by
        rw [Tryd.params5] at ht
        have hm : t ∈ [24, 22, 9] := by simpa using Array.mem_of_getElem? ht
        have hall : ([24, 22, 9].all fun u => !Tryd.prog.wantsStandIn u) = true := by kernel_rfl
        exact (show Tryd.prog.wantsStandIn t = false by simpa using List.all_eq_true.1 hall t hm)⟩)
    (by kernel_rfl)
#print axioms proved
end Go.Proofs.YtjbfhnkjcfpfpaaDoor.HandleBack
