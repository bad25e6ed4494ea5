import Derived.Test.YtlegknboccbdpaaDoorScanSeesAllP12
import Derived.Test.YtlegknboccbdpaaDoorScanSeesAllP15
import Derived.Deep.DeepCutAuto
import Derived.Deep.RegionHeld3
/- Law 27's example. -/
namespace Go.Proofs.YtlegknboccbdpaaDoor.Law27
set_option maxRecDepth 20000
open Go.ChangeShapes Go.WideShapes Go.ChangeAt Go.RowKit CM DM PM KM ScM Runs Lay Plan Go.Proofs.YtlegknboccbdpaaDoor.Task
open Go.Proofs.YtlegknboccbdpaaDoor.Scn (Scans Scan_any Scan_next Scan_tell Seen_cell)
set_option linter.unusedVariables false
set_option linter.unusedSimpArgs false

theorem wf_u64 {a : Int} (h : (Lit.int .u64 a).wf = true) : 0 ≤ a ∧ a < 18446744073709551616 := by
  simp [Lit.wf, IntKind.min, IntKind.max, IntKind.signed, IntKind.bits] at h; omega
theorem wf_i64 {a : Int} (h : (Lit.int .i64 a).wf = true) : -9223372036854775808 ≤ a ∧ a ≤ 9223372036854775807 := by
  simp [Lit.wf, IntKind.min, IntKind.max, IntKind.signed, IntKind.bits] at h; omega
theorem plan4 {w w' : World} {N : Nat} {R : Nat → Prop} {T S L G : Int} (h : w.cell? ⟨N, 0, none⟩ = some (.int .i64 T) ∧ w.cell? ⟨N, 1, none⟩ = some (.int .i64 S) ∧ w.cell? ⟨N, 2, none⟩ = some (.int .i64 L) ∧ w.cell? ⟨N, 3, none⟩ = some (.int .u64 G)) (ho : Only R w w') (hr : ¬ R N) :
    w'.cell? ⟨N, 0, none⟩ = some (.int .i64 T) ∧ w'.cell? ⟨N, 1, none⟩ = some (.int .i64 S) ∧ w'.cell? ⟨N, 2, none⟩ = some (.int .i64 L) ∧ w'.cell? ⟨N, 3, none⟩ = some (.int .u64 G) :=
  ⟨ho.cell h.1 hr, ho.cell h.2.1 hr, ho.cell h.2.2.1 hr, ho.cell h.2.2.2 hr⟩
theorem ba (w : World) (o : Obj) : Below w.heap.size w (w.alloc o) := (Below.refl _ _).alloc (Nat.le_refl _) _
theorem chain {w a b : World} (h : Below w.heap.size w a) (k : Below a.heap.size a b) : Below w.heap.size w b := h.trans (k.mono h.size)
theorem made {w W : World} {p : Nat} (hp : (w.alloc (.cells #[.int .i64 1, .int .i64 1, .int .i64 1, .int .u64 0] 24)).drew.heap.size ≤ p) (hb : Below (w.alloc (.cells #[.int .i64 1, .int .i64 1, .int .i64 1, .int .u64 0] 24)).drew.heap.size (w.alloc (.cells #[.int .i64 1, .int .i64 1, .int .i64 1, .int .u64 0] 24)).drew W) : w.heap.size + 1 ≤ p ∧ Below (w.alloc (.cells #[.int .i64 1, .int .i64 1, .int .i64 1, .int .u64 0] 24)).heap.size (w.alloc (.cells #[.int .i64 1, .int .i64 1, .int .i64 1, .int .u64 0] 24)) W :=
  ⟨by simp only [World.drew, World.size_alloc] at hp; exact hp, (Below.refl _ _).drew.trans hb⟩
/-- The example's numbers. -/
theorem ex_a : scanA 1 1 ScM.start = some (1, nextI 1 1 0 0, 0, 0, 0) := rfl
theorem ex_1 {lm : Int} : scanT lm ScM.start 2 = ⟨3, 2, false⟩ := by
  unfold ScM.start
  rw [scanT_1, arrive_more (by decide)]
  rfl
theorem wrap_5 : Go.RowKit.wrap64 5 = 5 := wrap_in (by omega)
theorem ex_2a : scanT 6 ⟨3, 2, false⟩ 5 = ⟨4, 2, false⟩ := scanT_3 (by rw [wrap_5]; omega)
theorem ex_2b : scanT 5 ⟨3, 2, false⟩ 5 = ⟨0, 2, false⟩ := scanT_3s (by rw [wrap_5]; omega)
theorem ex_3a : scanT 6 ⟨4, 2, false⟩ 2 = ⟨0, 2, true⟩ := scanT_4s (by decide)
/-- Amid the loop: both scanners, the words, the plan's box. -/
structure Amid (w : World) (p q g : Nat) (s t : ScM.St) (W : World) : Prop where
  fst : Scans W p 1 1 1 0 6 s
  snd : Scans W q 1 1 1 0 5 t
  wds : W.cell? ⟨g, 0, none⟩ = some (.int .u64 2) ∧ W.cell? ⟨g, 1, none⟩ = some (.int .u64 5) ∧ W.cell? ⟨g, 2, none⟩ = some (.int .u64 2)
  past : Below (w.alloc (.cells #[.int .i64 1, .int .i64 1, .int .i64 1, .int .u64 0] 24)).heap.size (w.alloc (.cells #[.int .i64 1, .int .i64 1, .int .i64 1, .int .u64 0] 24)) W
theorem Amid.later {w W W' : World} {p q g : Nat} {s t : ScM.St} (h : Amid w p q g s t W) (hb : Below W.heap.size W W') : Amid w p q g s t W' :=
  ⟨h.fst.later hb, h.snd.later hb, ⟨cell_later hb h.wds.1, cell_later hb h.wds.2.1, cell_later hb h.wds.2.2⟩, chain h.past hb⟩
theorem Amid.turn {w W W' : World} {p q g : Nat} {s t s' : ScM.St} (h : Amid w p q g s t W) (hs : Scans W' p 1 1 1 0 6 s') (ho : Only (fun k => k = p) W W') (hq : ¬ q = p) (hg : ¬ g = p) (hp : w.heap.size + 1 ≤ p) : Amid w p q g s' t W' :=
  ⟨hs, h.snd.only ho hq, ⟨ho.cell h.wds.1 hg, ho.cell h.wds.2.1 hg, ho.cell h.wds.2.2 hg⟩, h.past.trans (ho.below h.past.size fun k e => by subst e; simp; omega)⟩
theorem Amid.turn2 {w W W' : World} {p q g : Nat} {s t t' : ScM.St} (h : Amid w p q g s t W) (hs : Scans W' q 1 1 1 0 5 t') (ho : Only (fun k => k = q) W W') (hq : ¬ p = q) (hg : ¬ g = q) (hp : w.heap.size + 1 ≤ q) : Amid w p q g s t' W' :=
  ⟨h.fst.only ho hq, hs, ⟨ho.cell h.wds.1 hg, ho.cell h.wds.2.1 hg, ho.cell h.wds.2.2 hg⟩, h.past.trans (ho.below h.past.size fun k e => by subst e; simp; omega)⟩
theorem stay11 {w W W' : World} {k p q : Nat} {pl : Int} (hb : Below W.heap.size W W') (h : (W.cell? ⟨w.heap.size, 0, none⟩ = some (.int .i64 1) ∧ W.cell? ⟨w.heap.size, 1, none⟩ = some (.int .i64 1) ∧ W.cell? ⟨w.heap.size, 2, none⟩ = some (.int .i64 1) ∧ W.cell? ⟨w.heap.size, 3, none⟩ = some (.int .u64 0)) ∧ (W.cell? ⟨k, 0, none⟩ = some (.int .i64 1) ∧ W.cell? ⟨k, 1, none⟩ = some (.int .i64 pl) ∧ W.cell? ⟨k, 2, none⟩ = some (.int .u64 0) ∧ W.cell? ⟨k, 3, none⟩ = some (.int .u64 0) ∧ W.cell? ⟨k, 4, none⟩ = some (.int .u64 0)) ∧ W.cell? ⟨p, 7, none⟩ = some (.bool true) ∧ W.cell? ⟨q, 7, none⟩ = some (.bool false)) : (fun W : World => (W.cell? ⟨w.heap.size, 0, none⟩ = some (.int .i64 1) ∧ W.cell? ⟨w.heap.size, 1, none⟩ = some (.int .i64 1) ∧ W.cell? ⟨w.heap.size, 2, none⟩ = some (.int .i64 1) ∧ W.cell? ⟨w.heap.size, 3, none⟩ = some (.int .u64 0)) ∧ (W.cell? ⟨k, 0, none⟩ = some (.int .i64 1) ∧ W.cell? ⟨k, 1, none⟩ = some (.int .i64 pl) ∧ W.cell? ⟨k, 2, none⟩ = some (.int .u64 0) ∧ W.cell? ⟨k, 3, none⟩ = some (.int .u64 0) ∧ W.cell? ⟨k, 4, none⟩ = some (.int .u64 0)) ∧ W.cell? ⟨p, 7, none⟩ = some (.bool true) ∧ W.cell? ⟨q, 7, none⟩ = some (.bool false)) W' := by
  obtain ⟨⟨a0, a1, a2, a3⟩, ⟨b0, b1, b2, b3, b4⟩, c, d⟩ := h
  exact ⟨⟨cell_later hb a0, cell_later hb a1, cell_later hb a2, cell_later hb a3⟩, ⟨cell_later hb b0, cell_later hb b1, cell_later hb b2, cell_later hb b3, cell_later hb b4⟩, cell_later hb c, cell_later hb d⟩
theorem seen_7 {W : World} {p : Nat} {T N L G lm : Int} {s : ScM.St} (h : Scans W p T N L G lm s) : W.cell? ⟨p, 7, none⟩ = some (.bool s.sn) := by
  obtain ⟨-, cu, h1, -⟩ := h
  exact h1.cells.2.2.2.2.2.2.2
set_option maxHeartbeats 2000000 in
theorem awake_any (w : World) : Calls Tryd.prog 7 #[] w fun e w' => e = .returned (.bool true) ∧ Below w.heap.size w w' := by
  have HB0 := Lib.hid (box_below w (.cells #[.int .i64 1, .int .i64 1, .int .i64 1, .int .u64 0] 24))
  have HC := Lib.hid (box4 w (.int .i64 1) (.int .i64 1) (.int .i64 1) (.int .u64 0) 24)
  have HOF := Lib.hid (show ∀ W : World, Calls Tryd.prog 27 #[.int .u64 0, .int .i64 1] W fun e w' => e = .returned (.int .u64 2) ∧ W = w' from fun W => Refer.Of_any 0 1 (by decide) W)
  have HL := Lib.hid (show ∀ W : World, Calls Tryd.prog 28 #[.int .u64 0, .int .i64 2] W fun e w' => e = .returned (.int .u64 2) ∧ W = w' from fun W => State.Of_any 0 2 (by decide) W)
  obtain ⟨c_0, c_1, c_2, c_3⟩ := HC.out
  go_enter Tryd.func7, Tryd.ntmps7
  go_upto_region 2 with fail
  go_cut [2, 3] (fun s2 s3 wx => ∃ p q, s2 = .pointer (some ⟨p, 0, none⟩) ∧ s3 = .pointer (some ⟨q, 0, none⟩) ∧ Scans wx p 1 1 1 0 6 ScM.start ∧ Scans wx q 1 1 1 0 5 ScM.start ∧ w.heap.size + 1 ≤ p ∧ p < q ∧ Below (w.alloc (.cells #[.int .i64 1, .int .i64 1, .int .i64 1, .int .u64 0] 24)).heap.size (w.alloc (.cells #[.int .i64 1, .int .i64 1, .int .i64 1, .int .u64 0] 24)) wx)
  case first =>
    have HS0 := Lib.hid (show (fun W : World => W.cell? ⟨w.heap.size, 0, none⟩ = some (.int .i64 1) ∧ W.cell? ⟨w.heap.size, 1, none⟩ = some (.int .i64 1) ∧ W.cell? ⟨w.heap.size, 2, none⟩ = some (.int .i64 1) ∧ W.cell? ⟨w.heap.size, 3, none⟩ = some (.int .u64 0)) (w.alloc (.cells #[.int .i64 1, .int .i64 1, .int .i64 1, .int .u64 0] 24)).drew from HC.out)
    go_region_held3 (fun W => W.cell? ⟨w.heap.size, 0, none⟩ = some (.int .i64 1) ∧ W.cell? ⟨w.heap.size, 1, none⟩ = some (.int .i64 1) ∧ W.cell? ⟨w.heap.size, 2, none⟩ = some (.int .i64 1) ∧ W.cell? ⟨w.heap.size, 3, none⟩ = some (.int .u64 0))
      ((first | (with_reducible exact HS0.out) | (with_reducible assumption) | (with_reducible exact HS2.out) | (with_reducible exact HS3.out)))
      (first
        | (go_at_call 9; have HM2' := HM2.out; with_reducible refine (Scan_any 1 1 1 0 5 _).mono ?_; rintro e w3 ⟨q, rfl, m3, q3, b3⟩; have HM3 := Lib.hid m3; have HM23 := Lib.hid (HM2'.later b3); have HPQ := Lib.hid (Nat.lt_of_lt_of_le HM2'.lt q3); have HQ3 := Lib.hid (show w.heap.size + 1 ≤ p ∧ Below (w.alloc (.cells #[.int .i64 1, .int .i64 1, .int .i64 1, .int .u64 0] 24)).heap.size (w.alloc (.cells #[.int .i64 1, .int .i64 1, .int .i64 1, .int .u64 0] 24)) w3 from ⟨HQ2.out.1, HQ2.out.2.trans (b3.mono HQ2.out.2.size)⟩); have HS3 := Lib.hid (box4_later (by have h := HQ3.out.2; rwa [World.size_alloc] at h)); clear m3 q3 b3 HM2')
        | (go_at_call 9; with_reducible refine (Scan_any 1 1 1 0 6 _).mono ?_; rintro e w2 ⟨p, rfl, m2, p2, b2⟩; have HM2 := Lib.hid m2; have HQ2 := Lib.hid (made p2 b2); have HS2 := Lib.hid (box4_later (by have h := HQ2.out.2; rwa [World.size_alloc] at h)); clear m2 p2 b2))
    all_goals go_wp2_with fail
    all_goals go_meet
    all_goals (case rel => exact ⟨_, _, rfl, rfl, HM23.out, HM3.out, HQ3.out.1, HPQ.out, HQ3.out.2⟩)
  obtain ⟨p, q, rfl, rfl, m1, n1, p1, pq, b1⟩ := hcut
  obtain ⟨w1, hw1⟩ : ∃ w1, w1 = wc := ⟨_, rfl⟩
  subst hw1
  have HM1 := Lib.hid m1
  have HN1 := Lib.hid n1
  have HP1 := Lib.hid (show w.heap.size + 1 ≤ p ∧ p < q from ⟨p1, pq⟩)
  have HB1 := Lib.hid b1
  clear m1 n1 p1 pq b1 c_0 c_1 c_2 c_3
  go_wp2_with fail
  refine (HOF.out _).mono ?_
  rintro e w' ⟨rfl, rfl⟩
  go_wp2_with fail
  refine (HL.out _).mono ?_
  rintro e w' ⟨rfl, rfl⟩
  have HA0 := Lib.hid (show Amid w p q w1.heap.size ScM.start ScM.start (w1.alloc (.cells #[.int .u64 2, .int .u64 5, .int .u64 2] 22)) from by
    have hn := new_heap w1 (.cells #[.int .u64 2, .int .u64 5, .int .u64 2] 22)
    exact ⟨HM1.out.later (ba _ _), HN1.out.later (ba _ _), ⟨(cell_heap hn 0).1, (cell_heap hn 1).1, (cell_heap hn 2).1⟩, chain HB1.out (ba _ _)⟩)
  have HG := Lib.hid (show (¬ w1.heap.size = p ∧ ¬ w1.heap.size = q) ∧ ¬ p = q ∧ ¬ q = p ∧ w.heap.size + 1 ≤ p ∧ w.heap.size + 1 ≤ q from by have h1 := HM1.out.lt; have h2 := HN1.out.lt; have h3 := HP1.out; omega)
  clear HM1 HN1 HB1
  go_wp2_with fail
  generalize w1.heap.size = g at HA0 HG ⊢
  generalize w1.alloc (.cells #[.int .u64 2, .int .u64 5, .int .u64 2] 22) = x0 at HA0 ⊢
  refine wp_loop_rounds 4 ?_
  -- round 0
  rw [rounds_succ]
  obtain ⟨k0, k1, k2⟩ := HA0.out.wds
  go_wp2_with fail
  refine (Scan_tell HA0.out.fst (x := 2) ⟨by decide, by decide⟩).mono ?_
  rintro e x1 ⟨rfl, m, o⟩
  rw [ex_1] at m
  have HA1 := Lib.hid (HA0.out.turn m o HG.out.2.2.1 HG.out.1.1 HG.out.2.2.2.1)
  clear m o k0 k1 k2
  obtain ⟨k0, k1, k2⟩ := HA1.out.wds
  go_wp2_with fail
  refine (Scan_tell HA1.out.snd (x := 2) ⟨by decide, by decide⟩).mono ?_
  rintro e x2 ⟨rfl, m, o⟩
  rw [ex_1] at m
  have HA2 := Lib.hid (HA1.out.turn2 m o HG.out.2.1 HG.out.1.2 HG.out.2.2.2.2)
  clear m o k0 k1 k2 HA0 HA1
  go_wp2
  -- round 1
  rw [rounds_succ]
  obtain ⟨k0, k1, k2⟩ := HA2.out.wds
  go_wp2_with fail
  refine (Scan_tell HA2.out.fst (x := 5) ⟨by decide, by decide⟩).mono ?_
  rintro e x3 ⟨rfl, m, o⟩
  rw [ex_2a] at m
  have HA3 := Lib.hid (HA2.out.turn m o HG.out.2.2.1 HG.out.1.1 HG.out.2.2.2.1)
  clear m o k0 k1 k2
  obtain ⟨k0, k1, k2⟩ := HA3.out.wds
  go_wp2_with fail
  refine (Scan_tell HA3.out.snd (x := 5) ⟨by decide, by decide⟩).mono ?_
  rintro e x4 ⟨rfl, m, o⟩
  rw [ex_2b] at m
  have HA4 := Lib.hid (HA3.out.turn2 m o HG.out.2.1 HG.out.1.2 HG.out.2.2.2.2)
  clear m o k0 k1 k2 HA2 HA3
  go_wp2
  -- round 2
  rw [rounds_succ]
  obtain ⟨k0, k1, k2⟩ := HA4.out.wds
  go_wp2_with fail
  refine (Scan_tell HA4.out.fst (x := 2) ⟨by decide, by decide⟩).mono ?_
  rintro e x5 ⟨rfl, m, o⟩
  rw [ex_3a] at m
  have HA5 := Lib.hid (HA4.out.turn m o HG.out.2.2.1 HG.out.1.1 HG.out.2.2.2.1)
  clear m o k0 k1 k2
  obtain ⟨k0, k1, k2⟩ := HA5.out.wds
  go_wp2_with fail
  refine (Scan_tell HA5.out.snd (x := 2) ⟨by decide, by decide⟩).mono ?_
  rintro e x6 ⟨rfl, m, o⟩
  rw [scanT_0] at m
  have HA6 := Lib.hid (HA5.out.turn2 m o HG.out.2.1 HG.out.1.2 HG.out.2.2.2.2)
  clear m o k0 k1 k2 HA4 HA5
  go_wp2
  rw [rounds_succ]
  obtain ⟨c_0, c_1, c_2, c_3⟩ := box4_later (by have h := HA6.out.past; rwa [World.size_alloc] at h)
  have HNX := Lib.hid fun (W : World) (r : Nat) (h : Scans W r 1 1 1 0 6 ScM.start) => Scan_next h
  rw [ex_a] at HNX
  have HPN := Lib.hid fun W => Plan.Next_any 1 1 1 0 0 0 W
  generalize nextI 1 1 0 0 = pl at HNX HPN
  go_wp2_with fail
  refine (Scan_any 1 1 1 0 6 _).mono ?_
  rintro e w2 ⟨r, rfl, m2, r2, b2⟩
  have HM2 := Lib.hid m2
  have HA7 := Lib.hid (HA6.out.later b2)
  clear m2 r2 b2 c_0 c_1 c_2 c_3 HA6
  go_wp2_with fail
  refine (HNX.out _ _ HM2.out).mono ?_
  rintro e w3 ⟨rfl, b3⟩
  simp only [Option.getD_some, Option.isSome_some]
  go_wp2_with fail
  have HA8 := Lib.hid (HA7.out.later (chain b3 (ba w3 (.cells #[.int .i64 1, .int .i64 pl, .int .u64 0, .int .u64 0, .int .u64 0] 38))))
  have HSX := Lib.hid (show (fun W : World => (W.cell? ⟨w.heap.size, 0, none⟩ = some (.int .i64 1) ∧ W.cell? ⟨w.heap.size, 1, none⟩ = some (.int .i64 1) ∧ W.cell? ⟨w.heap.size, 2, none⟩ = some (.int .i64 1) ∧ W.cell? ⟨w.heap.size, 3, none⟩ = some (.int .u64 0)) ∧ (W.cell? ⟨w3.heap.size, 0, none⟩ = some (.int .i64 1) ∧ W.cell? ⟨w3.heap.size, 1, none⟩ = some (.int .i64 pl) ∧ W.cell? ⟨w3.heap.size, 2, none⟩ = some (.int .u64 0) ∧ W.cell? ⟨w3.heap.size, 3, none⟩ = some (.int .u64 0) ∧ W.cell? ⟨w3.heap.size, 4, none⟩ = some (.int .u64 0)) ∧ W.cell? ⟨p, 7, none⟩ = some (.bool true) ∧ W.cell? ⟨q, 7, none⟩ = some (.bool false)) (w3.alloc (.cells #[.int .i64 1, .int .i64 pl, .int .u64 0, .int .u64 0, .int .u64 0] 38)) from by
    have h := HA8.out.past
    rw [World.size_alloc] at h
    have hn := new_heap w3 (.cells #[.int .i64 1, .int .i64 pl, .int .u64 0, .int .u64 0, .int .u64 0] 38)
    exact ⟨box4_later h, ⟨(cell_heap hn 0).1, (cell_heap hn 1).1, (cell_heap hn 2).1, (cell_heap hn 3).1, (cell_heap hn 4).1⟩, seen_7 HA8.out.fst, seen_7 HA8.out.snd⟩)
  have N1 := fun W => eqlD (1, pl, 0, 0, 0) (1, pl, 0, 0, 0) W
  have hg := guardD
  simp only [decide_true] at N1
  have HEND := Lib.hid (show ∀ W, Below (w3.alloc (.cells #[.int .i64 1, .int .i64 pl, .int .u64 0, .int .u64 0, .int .u64 0] 38)).heap.size (w3.alloc (.cells #[.int .i64 1, .int .i64 pl, .int .u64 0, .int .u64 0, .int .u64 0] 38)) W → Below w.heap.size w W from fun W hb => HB0.out.trans ((chain HA8.out.past hb).mono HB0.out.size))
  generalize hk : w3.heap.size = k at HSX ⊢
  have HS0 := Lib.hid (show (fun W : World => (W.cell? ⟨w.heap.size, 0, none⟩ = some (.int .i64 1) ∧ W.cell? ⟨w.heap.size, 1, none⟩ = some (.int .i64 1) ∧ W.cell? ⟨w.heap.size, 2, none⟩ = some (.int .i64 1) ∧ W.cell? ⟨w.heap.size, 3, none⟩ = some (.int .u64 0)) ∧ (W.cell? ⟨k, 0, none⟩ = some (.int .i64 1) ∧ W.cell? ⟨k, 1, none⟩ = some (.int .i64 pl) ∧ W.cell? ⟨k, 2, none⟩ = some (.int .u64 0) ∧ W.cell? ⟨k, 3, none⟩ = some (.int .u64 0) ∧ W.cell? ⟨k, 4, none⟩ = some (.int .u64 0)) ∧ W.cell? ⟨p, 7, none⟩ = some (.bool true) ∧ W.cell? ⟨q, 7, none⟩ = some (.bool false)) (w3.alloc (.cells #[.int .i64 1, .int .i64 pl, .int .u64 0, .int .u64 0, .int .u64 0] 38)).drew from HSX.out)
  have HWA := Lib.hid fun (W : World) (h : W.cell? ⟨p, 7, none⟩ = some (.bool true)) => Seen_cell h
  have HWB := Lib.hid fun (W : World) (h : W.cell? ⟨q, 7, none⟩ = some (.bool false)) => Seen_cell h
  clear b3 HA7 HA8 HM2 HNX hk
  go_region_held3 (fun W => (W.cell? ⟨w.heap.size, 0, none⟩ = some (.int .i64 1) ∧ W.cell? ⟨w.heap.size, 1, none⟩ = some (.int .i64 1) ∧ W.cell? ⟨w.heap.size, 2, none⟩ = some (.int .i64 1) ∧ W.cell? ⟨w.heap.size, 3, none⟩ = some (.int .u64 0)) ∧ (W.cell? ⟨k, 0, none⟩ = some (.int .i64 1) ∧ W.cell? ⟨k, 1, none⟩ = some (.int .i64 pl) ∧ W.cell? ⟨k, 2, none⟩ = some (.int .u64 0) ∧ W.cell? ⟨k, 3, none⟩ = some (.int .u64 0) ∧ W.cell? ⟨k, 4, none⟩ = some (.int .u64 0)) ∧ W.cell? ⟨p, 7, none⟩ = some (.bool true) ∧ W.cell? ⟨q, 7, none⟩ = some (.bool false))
    ((first | (with_reducible exact HS0.out) | (with_reducible assumption) | (with_reducible exact HS6.out)))
    (first
      | (go_at_call 19; with_reducible refine (HWA.out _ HS0.out.2.2.1).mono ?_; rintro e w6 ⟨rfl, rfl⟩)
      | (go_at_call 19; with_reducible refine (HWB.out _ HS0.out.2.2.2).mono ?_; rintro e w6 ⟨rfl, rfl⟩)
      | (go_at_call 29; refine (HPN.out _).mono ?_; rintro e w6 ⟨rfl, b6⟩; have HB6 := Lib.hid ((Below.refl _ _).drew.trans b6); have HS6 := Lib.hid (stay11 b6 HS0.out); clear b6))
  go_wp2
  go_ret
  exact ⟨rfl, HEND.out _ HB6.out⟩
end Go.Proofs.YtlegknboccbdpaaDoor.Law27
