/- ParkWaits: for every plan that is right, every thread that there is, every time till which it waits, every time from 0 on, and every semaphore, a parker, done alone, ends in two steps just if the semaphore is not 0, which is one less then, or the time has come; else it goes on, and no word is turned (of another plan, thread, or time, just the chapter's examples are asked); and those examples come out; the arguments read as they did. Condition: the library's listed tables hold what its own text lays in them (tied by the card). -/
import Derived.Test.YtelnkbikgboblaaDoorParkAwake
import Derived.Test.YtelnkbikgboblaaDoorParkAloneMath
import Derived.Test.YtelnkbikgboblaaDoorDeedDo
import Derived.Test.YtelnkbikgboblaaDoorCellsRef
import Derived.Test.YtelnkbikgboblaaDoorBlankWalks
import Derived.Test.YtelnkbikgboblaaDoorFour
import Derived.Test.YtelnkbikgboblaaDoorFrame
import Derived.Test.YtelnkbikgboblaaDoorEight
import Derived.Test.YtelnkbikgboblaaDoorFrameLaid
import Derived.Test.YtelnkbikgboblaaDoorTie
import Derived.Test.YtelnkbikgboblaaDoorCards
namespace Go.Proofs.YtelnkbikgboblaaDoor.ParkWaits
set_option maxRecDepth 20000
open Go.ChangeShapes Go.WideShapes Go.ChangeAt Go.RowKit CM DM PM PaM BM MM Runs Lay Ints Plan Go.Proofs.YtelnkbikgboblaaDoor.Task
open Go.Proofs.YtelnkbikgboblaaDoor.Cells (Mem Does Store_any Load_any Words_any grown_below grown_trans)
open Go.Proofs.YtelnkbikgboblaaDoor.Law29 (plan4 awake_any wf_u64 wf_i64 ba chain)
open Go.Proofs.YtelnkbikgboblaaDoor.Prk (Parks Park_any Park_next Park_tell)
set_option linter.unusedVariables false
set_option linter.unusedSimpArgs false

theorem held {W : World} (h : laidMetH Tryd.prog Rows.parkWaitsRow.laid W) : True := trivial

/-- Both boxes: the plan's, and behind it that of the thread, the time till which, and the time. -/
structure Boxes (W : World) (B : Nat) (T S L G th un nw : Int) : Prop where
  plan : W.cell? ⟨B, 0, none⟩ = some (.int .i64 T) ∧ W.cell? ⟨B, 1, none⟩ = some (.int .i64 S) ∧ W.cell? ⟨B, 2, none⟩ = some (.int .i64 L) ∧ W.cell? ⟨B, 3, none⟩ = some (.int .u64 G)
  ask : W.cell? ⟨B + 1, 0, none⟩ = some (.int .i64 th) ∧ W.cell? ⟨B + 1, 1, none⟩ = some (.int .i64 un) ∧ W.cell? ⟨B + 1, 2, none⟩ = some (.int .i64 nw)
theorem Boxes.only {W W' : World} {B : Nat} {T S L G th un nw : Int} {R : Nat → Prop} (h : Boxes W B T S L G th un nw) (ho : Only R W W') (h0 : ¬ R B) (h1 : ¬ R (B + 1)) : Boxes W' B T S L G th un nw :=
  ⟨plan4 h.plan ho h0, ho.cell h.ask.1 h1, ho.cell h.ask.2.1 h1, ho.cell h.ask.2.2 h1⟩
theorem Boxes.later {W W' : World} {B : Nat} {T S L G th un nw : Int} (h : Boxes W B T S L G th un nw) (hb : Below W.heap.size W W') : Boxes W' B T S L G th un nw := h.only (only_below (fun _ => False) hb) id id
theorem boxes (w : World) (T S L G th un nw : Int) : Boxes ((w.alloc (.cells #[.int .i64 T, .int .i64 S, .int .i64 L, .int .u64 G] 24)).alloc (.cells #[.int .i64 th, .int .i64 un, .int .i64 nw] 25)) w.heap.size T S L G th un nw := by
  have hb : Below (w.alloc (.cells #[.int .i64 T, .int .i64 S, .int .i64 L, .int .u64 G] 24)).heap.size (w.alloc (.cells #[.int .i64 T, .int .i64 S, .int .i64 L, .int .u64 G] 24)) ((w.alloc (.cells #[.int .i64 T, .int .i64 S, .int .i64 L, .int .u64 G] 24)).alloc (.cells #[.int .i64 th, .int .i64 un, .int .i64 nw] 25)) := box_below _ _
  have h : ∀ j, ((w.alloc (.cells #[.int .i64 T, .int .i64 S, .int .i64 L, .int .u64 G] 24)).alloc (.cells #[.int .i64 th, .int .i64 un, .int .i64 nw] 25)).cell? ⟨w.heap.size + 1, j, none⟩ = (#[.int .i64 th, .int .i64 un, .int .i64 nw] : Array Value)[j]? := fun j => by
    have h := (cell_heap (new_heap (w.alloc (.cells #[.int .i64 T, .int .i64 S, .int .i64 L, .int .u64 G] 24)) (.cells #[.int .i64 th, .int .i64 un, .int .i64 nw] 25)) j).1
    simpa only [World.size_alloc] using h
  exact ⟨plan4 (box4 w (.int .i64 T) (.int .i64 S) (.int .i64 L) (.int .u64 G) 24) (only_below (fun _ => False) hb) id, h 0, h 1, h 2⟩
theorem below2 (w : World) (o1 o2 : Obj) : Below w.heap.size w ((w.alloc o1).alloc o2) := (box_below w o1).trans ((box_below _ o2).mono (by simp))

theorem walk_no (T S L G th un nw sem : Int) (hr : rightB T S L G = false) (w : World) : Calls Tryd.prog 3 #[.agg #[.int .i64 T, .int .i64 S, .int .i64 L, .int .u64 G], .agg #[.int .i64 th, .int .i64 un, .int .i64 nw], .int .u64 sem] w fun e w' => e = .returned (.bool true) ∧ Below w.heap.size w w' := by
  have HR := Lib.hid hr
  have HB0 := Lib.hid (below2 w (.cells #[.int .i64 T, .int .i64 S, .int .i64 L, .int .u64 G] 24) (.cells #[.int .i64 th, .int .i64 un, .int .i64 nw] 25))
  have HC := Lib.hid (boxes w T S L G th un nw)
  clear hr
  go_enter Tryd.func3, Tryd.ntmps3
  go_wp2_with fail
  refine (awake_any _).mono ?_
  rintro e w1 ⟨rfl, b1⟩
  have HB1 := Lib.hid (HB0.out.trans (b1.mono HB0.out.size))
  have HC1 := Lib.hid (HC.out.later b1)
  obtain ⟨c_0, c_1, c_2, c_3⟩ := HC1.out.plan
  clear b1
  go_wp2_with fail
  refine (Blank.Make_no HR.out _).mono ?_
  rintro e w2 ⟨rfl, b2⟩
  have HB2 := Lib.hid (HB1.out.trans (b2.mono HB1.out.size))
  clear c_0 c_1 c_2 c_3
  obtain ⟨c_4, c_5, c_6⟩ := (HC1.out.later b2).ask
  clear b2
  go_wp2
  go_region
  go_wp2_with fail
  refine (awake_any _).mono ?_
  rintro e w4 ⟨rfl, b4⟩
  go_wp2
  go_ret
  exact ⟨rfl, HB2.out.drew.trans (b4.mono HB2.out.size)⟩
/-- A thread, or a time, that there is not. -/
theorem walk_low (T S L : Nat) (G th un nw sem : Int) (hr : rightB (T : Int) (S : Int) (L : Int) G = true) (hG : 0 ≤ G) (h0 : th < 0) (w : World) : Calls Tryd.prog 3 #[.agg #[.int .i64 (T : Int), .int .i64 (S : Int), .int .i64 (L : Int), .int .u64 G], .agg #[.int .i64 th, .int .i64 un, .int .i64 nw], .int .u64 sem] w fun e w' => e = .returned (.bool true) ∧ Below w.heap.size w w' := by
  have HC := Lib.hid (boxes w (T : Int) (S : Int) (L : Int) G th un nw)
  have HB0 := Lib.hid (below2 w (.cells #[.int .i64 (T : Int), .int .i64 (S : Int), .int .i64 (L : Int), .int .u64 G] 24) (.cells #[.int .i64 th, .int .i64 un, .int .i64 nw] 25))
  have HR := Lib.hid hr
  have HG := Lib.hid hG
  clear hr hG
  go_enter Tryd.func3, Tryd.ntmps3
  go_wp2_with fail
  refine (awake_any _).mono ?_
  rintro e0 w0 ⟨rfl, b0⟩
  have HB1 := Lib.hid (HB0.out.trans (b0.mono HB0.out.size))
  have HC1 := Lib.hid (HC.out.later b0)
  obtain ⟨c_0, c_1, c_2, c_3⟩ := HC1.out.plan
  clear b0
  go_wp2_with fail
  refine (Blank.Make_yes HR.out HG.out _).mono ?_
  rintro e1 w1 ⟨pc, h, rfl, m1, p1, h1', b1⟩
  have HB2 := Lib.hid (HB1.out.trans (b1.mono HB1.out.size))
  clear c_0 c_1 c_2 c_3
  obtain ⟨c_4, c_5, c_6⟩ := (HC1.out.later b1).ask
  have d_0 : w1.drew.cell? _ = _ := (HC1.out.later b1).plan.1
  clear m1 p1 h1' b1
  go_wp2
  go_region
  go_wp2_with fail
  refine (awake_any _).mono ?_
  rintro e w4 ⟨rfl, b4⟩
  go_wp2
  go_ret
  exact ⟨rfl, HB2.out.drew.trans (b4.mono HB2.out.size)⟩
theorem walk_high (T S L : Nat) (G th un nw sem : Int) (hr : rightB (T : Int) (S : Int) (L : Int) G = true) (hG : 0 ≤ G) (h0 : ¬ th < 0) (h1 : (T : Int) ≤ th) (w : World) : Calls Tryd.prog 3 #[.agg #[.int .i64 (T : Int), .int .i64 (S : Int), .int .i64 (L : Int), .int .u64 G], .agg #[.int .i64 th, .int .i64 un, .int .i64 nw], .int .u64 sem] w fun e w' => e = .returned (.bool true) ∧ Below w.heap.size w w' := by
  have HC := Lib.hid (boxes w (T : Int) (S : Int) (L : Int) G th un nw)
  have HB0 := Lib.hid (below2 w (.cells #[.int .i64 (T : Int), .int .i64 (S : Int), .int .i64 (L : Int), .int .u64 G] 24) (.cells #[.int .i64 th, .int .i64 un, .int .i64 nw] 25))
  have HR := Lib.hid hr
  have HG := Lib.hid hG
  clear hr hG
  go_enter Tryd.func3, Tryd.ntmps3
  go_wp2_with fail
  refine (awake_any _).mono ?_
  rintro e0 w0 ⟨rfl, b0⟩
  have HB1 := Lib.hid (HB0.out.trans (b0.mono HB0.out.size))
  have HC1 := Lib.hid (HC.out.later b0)
  obtain ⟨c_0, c_1, c_2, c_3⟩ := HC1.out.plan
  clear b0
  go_wp2_with fail
  refine (Blank.Make_yes HR.out HG.out _).mono ?_
  rintro e1 w1 ⟨pc, h, rfl, m1, p1, h1', b1⟩
  have HB2 := Lib.hid (HB1.out.trans (b1.mono HB1.out.size))
  clear c_0 c_1 c_2 c_3
  obtain ⟨c_4, c_5, c_6⟩ := (HC1.out.later b1).ask
  have d_0 : w1.drew.cell? _ = _ := (HC1.out.later b1).plan.1
  clear m1 p1 h1' b1
  go_wp2
  go_region
  go_wp2_with fail
  refine (awake_any _).mono ?_
  rintro e w4 ⟨rfl, b4⟩
  go_wp2
  go_ret
  exact ⟨rfl, HB2.out.drew.trans (b4.mono HB2.out.size)⟩
theorem walk_never (T S L : Nat) (G th un nw sem : Int) (hr : rightB (T : Int) (S : Int) (L : Int) G = true) (hG : 0 ≤ G) (h0 : ¬ th < 0) (h1 : ¬ (T : Int) ≤ th) (h2 : nw < 0) (w : World) : Calls Tryd.prog 3 #[.agg #[.int .i64 (T : Int), .int .i64 (S : Int), .int .i64 (L : Int), .int .u64 G], .agg #[.int .i64 th, .int .i64 un, .int .i64 nw], .int .u64 sem] w fun e w' => e = .returned (.bool true) ∧ Below w.heap.size w w' := by
  have HC := Lib.hid (boxes w (T : Int) (S : Int) (L : Int) G th un nw)
  have HB0 := Lib.hid (below2 w (.cells #[.int .i64 (T : Int), .int .i64 (S : Int), .int .i64 (L : Int), .int .u64 G] 24) (.cells #[.int .i64 th, .int .i64 un, .int .i64 nw] 25))
  have HR := Lib.hid hr
  have HG := Lib.hid hG
  clear hr hG
  go_enter Tryd.func3, Tryd.ntmps3
  go_wp2_with fail
  refine (awake_any _).mono ?_
  rintro e0 w0 ⟨rfl, b0⟩
  have HB1 := Lib.hid (HB0.out.trans (b0.mono HB0.out.size))
  have HC1 := Lib.hid (HC.out.later b0)
  obtain ⟨c_0, c_1, c_2, c_3⟩ := HC1.out.plan
  clear b0
  go_wp2_with fail
  refine (Blank.Make_yes HR.out HG.out _).mono ?_
  rintro e1 w1 ⟨pc, h, rfl, m1, p1, h1', b1⟩
  have HB2 := Lib.hid (HB1.out.trans (b1.mono HB1.out.size))
  clear c_0 c_1 c_2 c_3
  obtain ⟨c_4, c_5, c_6⟩ := (HC1.out.later b1).ask
  have d_0 : w1.drew.cell? _ = _ := (HC1.out.later b1).plan.1
  clear m1 p1 h1' b1
  go_wp2
  go_region
  go_wp2_with fail
  refine (awake_any _).mono ?_
  rintro e w4 ⟨rfl, b4⟩
  go_wp2
  go_ret
  exact ⟨rfl, HB2.out.drew.trans (b4.mono HB2.out.size)⟩
/-- Amid the deeds. -/
def Amid (w5 : World) (pc h n p : Nat) (T S L G th un : Int) (K : Nat) (lf : List Int) (sf : PaM.St) (j : Nat) (wr : World) : Prop :=
  ∃ l s, j ≤ K ∧ Mem wr pc h n l ∧ BM.Fits l ∧ Parks wr p T S L G th un s ∧ steps (parkA (ofI T 2 th)) (parkT un) (K - j) l s = some (lf, sf) ∧ Only (fun k => k = h ∨ k = p) w5 wr

set_option maxHeartbeats 2000000 in
theorem walk_yes (T S L k : Nat) (G un nw sem : Int) (hr : rightB (T : Int) (S : Int) (L : Int) G = true) (hG : 0 ≤ G) (hk : k < T) (hn0 : 0 ≤ nw) (hn1 : nw ≤ 9223372036854775807) (hs : 0 ≤ sem ∧ sem < 18446744073709551616) (w : World) :
    Calls Tryd.prog 3 #[.agg #[.int .i64 (T : Int), .int .i64 (S : Int), .int .i64 (L : Int), .int .u64 G], .agg #[.int .i64 (k : Int), .int .i64 un, .int .i64 nw], .int .u64 sem] w fun e w' => e = .returned (.bool true) ∧ Below w.heap.size w w' := by
  have hwn : IntKind.u64.wrap nw = nw := by rw [IntKind.wrap_u64]; omega
  have hkT : ¬ (T : Int) ≤ (k : Int) := Int.not_le.2 (Int.ofNat_lt.2 hk)
  have hnn : ¬ nw < 0 := Int.not_lt.2 hn0
  have HWN := Lib.hid hwn
  clear hwn
  obtain ⟨t1, t8, s1, s64, l1, l8⟩ := Blank.right_nat hr
  have HC := Lib.hid (boxes w (T : Int) (S : Int) (L : Int) G (k : Int) un nw)
  have HB0 := Lib.hid (below2 w (.cells #[.int .i64 (T : Int), .int .i64 (S : Int), .int .i64 (L : Int), .int .u64 G] 24) (.cells #[.int .i64 (k : Int), .int .i64 un, .int .i64 nw] 25))
  obtain ⟨l0, hl0⟩ : ∃ l0, l0 = layL (wordsN T S L) (T : Int) (S : Int) (L : Int) (SM.stI G 0) S := ⟨_, rfl⟩
  have hlen : l0.length = wordsN T S L := by rw [hl0]; exact lay_length _ _ _ _ _ _
  have hF0 : BM.Fits l0 := by rw [hl0]; exact fits_lay _ _ _ ⟨SM.stI_lo _ _, SM.stI_hi _ _⟩ (by omega) _
  have hof := of_nat (S := S) (L := L) (n := 2) t8 (by omega) hk
  have hlg := laidP_get (S := S) (L := L) sem nw t8 hk hlen
  obtain ⟨q, hq⟩ : ∃ q, q = 4 + 2 * T + k := ⟨_, rfl⟩
  have hofq : ofI (T : Int) 2 (k : Int) = (q : Int) := by rw [hq]; simpa using hof.1
  have hqn : q < wordsN T S L := by rw [hq]; exact hof.2.2.2
  rw [hofq] at hlg
  obtain ⟨la, hla⟩ : ∃ la, la = laidP l0 (q : Int) sem nw := ⟨_, rfl⟩
  rw [← hla] at hlg
  obtain ⟨K, lf, sf, hst, hend⟩ := park_all (un := un) hlg.1 hlg.2 ⟨hn0, hn1⟩
  have hF1 : BM.Fits la := by rw [hla]; exact laidP_fits hF0 _ hs ⟨hn0, hn1⟩
  have hlla : la.length = wordsN T S L := by rw [hla, laidP_length]; exact hlen
  have HVS := Lib.hid (show la[q]? = some sem by
    have h1 : la[q]? = some (la[q]'(by rw [hlla]; exact hqn)) := List.getElem?_eq_getElem _
    rw [h1, ← getI_some h1, hlg.1])
  have HF1 := Lib.hid hF1
  have HLA := Lib.hid (show la = setI (setI l0 (q : Int) sem) 1 nw from hla)
  have HL0 := Lib.hid hl0
  have HLEN := Lib.hid hlla
  have HRUN := Lib.hid hst
  have HEND := Lib.hid hend
  have HR := Lib.hid hr
  have HG := Lib.hid hG
  have HT8 := Lib.hid t8
  have HOF := Lib.hid hofq
  have HQN := Lib.hid hqn
  have HS := Lib.hid hs
  have HK := Lib.hid hk
  clear hr hG hla hlen hF0 hl0 hst hend t1 s1 s64 l1 l8 hof hofq hlg hq hqn hF1 hlla hn0 hn1 hs hk t8
  have hwn := HWN.out
  go_enter Tryd.func3, Tryd.ntmps3
  go_wp2_with fail
  refine (awake_any _).mono ?_
  rintro e0 w0 ⟨rfl, b0⟩
  have HB1 := Lib.hid (HB0.out.trans (b0.mono HB0.out.size))
  have HC1 := Lib.hid (HC.out.later b0)
  have HSZ := Lib.hid (show w.heap.size + 2 ≤ w0.heap.size by have := b0.size; simp at this; omega)
  obtain ⟨c_0, c_1, c_2, c_3⟩ := HC1.out.plan
  clear b0
  go_wp2_with fail
  refine (Blank.Make_yes HR.out HG.out _).mono ?_
  rintro e1 w1 ⟨pc, h, rfl, m1, p1, h1, b1⟩
  obtain ⟨n, hn⟩ : ∃ n, n = wordsN T S L := ⟨_, rfl⟩
  rw [← hn] at m1 HLEN HQN
  rw [hn, ← HL0.out, ← hn] at m1
  have HNE := Lib.hid (show w.heap.size + 2 ≤ pc ∧ w.heap.size + 2 ≤ h by have := HSZ.out; omega)
  have HB2 := Lib.hid (HB1.out.trans (b1.mono HB1.out.size))
  have HC2 := Lib.hid (HC1.out.later b1)
  have HM2 := Lib.hid m1
  clear m1 p1 h1 b1 hn c_0 c_1 c_2 c_3 HL0 HC1 HSZ HB0 HB1 HC
  obtain ⟨c_4, c_5, c_6⟩ := HC2.out.ask
  go_wp2
  go_region
  have HB3 := Lib.hid HB2.out.drew
  have HC3 := Lib.hid (HC2.out.later (Below.refl _ _).drew)
  have HM3 := Lib.hid (HM2.out.later (Below.refl _ _).drew)
  generalize w1.drew = w3 at HB3 HC3 HM3 ⊢
  clear c_4 c_5 c_6 HB2 HC2 HM2
  obtain ⟨c_0, c_1, c_2, c_3⟩ := HC3.out.plan
  have HSM := Lib.hid fun W : World => Plan.Sem_any (T : Int) (S : Int) (L : Int) G (k : Int) W
  rw [HOF.out] at HSM
  go_wp2_with fail
  refine (HSM.out _).mono ?_
  rintro e4 w4 ⟨rfl, b4⟩
  have HB4 := Lib.hid (chain HB3.out b4)
  have HC4 := Lib.hid (HC3.out.later b4)
  have HM4 := Lib.hid (HM3.out.later b4)
  clear b4 c_0 c_1 c_2 c_3 HB3 HC3 HM3
  go_wp2_with fail
  refine (Store_any HM4.out (q : Int) sem).mono ?_
  rintro e5 w5 ⟨rfl, g5, m5⟩
  have HO5 := Lib.hid (only_grown (R := fun b => b = h) g5 fun k e => by cases e; rfl)
  have HM5 := Lib.hid m5
  clear g5 m5
  go_wp2_with fail
  refine (Store_any HM5.out 1 nw).mono ?_
  rintro e6 w6 ⟨rfl, g6, m6⟩
  rw [← HLA.out] at m6
  have HO6 := Lib.hid (HO5.out.trans (only_grown (R := fun b => b = h) g6 fun k e => by cases e; rfl))
  have HM6 := Lib.hid m6
  have HC6 := Lib.hid (HC4.out.only HO6.out (by have := HNE.out; omega) (by have := HNE.out; omega))
  have HB6 := Lib.hid (HB4.out.trans (HO6.out.below HB4.out.size (fun k e => by subst e; have := HNE.out; omega)))
  clear g6 m6 HO5 HM5 HO6 HB4 HC4 HM4 hwn
  have HLT := Lib.hid HM6.out.lt
  have HW := Lib.hid (Words_any HM6.out)
  obtain ⟨bw, hbw⟩ : ∃ bw, bw = w6.heap.size := ⟨_, rfl⟩
  unfold Cells.Told at HW
  go_wp2_with fail
  refine HW.out.mono ?_
  rintro e7 w7 ⟨rfl, ow, b7⟩
  rw [← hbw] at ow ⊢
  have HOW := Lib.hid ow
  have HM7 := Lib.hid (HM6.out.later b7)
  have HBW := Lib.hid (show bw < w7.heap.size ∧ pc < bw ∧ h < bw ∧ w.heap.size + 1 < bw from ⟨(ow.lt bw rfl).2, by rw [hbw]; exact HLT.out.1, by rw [hbw]; exact HLT.out.2, by have := HNE.out; have := HLT.out; omega⟩)
  have HC7 := Lib.hid (HC6.out.later b7)
  have HB7 := Lib.hid (chain HB6.out b7)
  clear ow b7 hbw HM6 HLT HW HC6 HB6
  obtain ⟨c_0, c_1, c_2, c_3⟩ := HC7.out.plan
  have hnq : ¬ (n : Int) ≤ (q : Int) := Int.not_le.2 (Int.ofNat_lt.2 HQN.out)
  go_wp2_with fail
  refine (Park_any (T : Int) (S : Int) (L : Int) G (k : Int) un _).mono ?_
  rintro e8 w8 ⟨p, rfl, p8, hp8, b8⟩
  have HP := Lib.hid (show bw < p ∧ p < w8.heap.size by have := HBW.out; have := p8.lt; omega)
  have HM8 := Lib.hid (HM7.out.later b8)
  have HB8 := Lib.hid (chain HB7.out b8)
  have HOW8 := Lib.hid (own_later HOW.out b8)
  have HBW := Lib.hid (show pc < bw ∧ h < bw ∧ w.heap.size + 1 < bw from HBW.out.2)
  have H8 := Lib.hid (show Amid w8 pc h n p (T : Int) (S : Int) (L : Int) G (k : Int) un K lf sf 0 w8 from ⟨_, _, Nat.zero_le _, HM8.out, HF1.out, p8, by rw [HOF.out]; exact HRUN.out, Only.refl _ _⟩)
  have HK20 := Lib.hid (show K ≤ 20 by rcases HEND.out with ⟨h1, -⟩ | ⟨h1, -⟩ <;> omega)
  clear p8 hp8 b8 c_0 c_1 c_2 c_3 HM7 HC7 HB7 HOW HM8 HRUN
  go_wp2
  go_loopw [15, 16] (fun nv iv wr => ∃ j : Nat, nv = .int .i64 j ∧ iv = .int .i64 j ∧ Amid w8 pc h n p (T : Int) (S : Int) (L : Int) G (k : Int) un K lf sf j wr) (fun _ iv _ => 20 - (intOf iv).toNat)
  case atStart => exact ⟨0, rfl, rfl, H8.out⟩
  case round =>
    obtain ⟨j, rfl, rfl, mj, s, hj, hm, hf, hp, ha, ho⟩ := hrel
    rw [HOF.out] at ha
    have HMJ := Lib.hid hm
    have HFJ := Lib.hid hf
    have HPJ := Lib.hid hp
    have HAJ := Lib.hid ha
    have HOJ := Lib.hid ho
    have HJ := Lib.hid hj
    clear hm hf hp ha ho hj
    by_cases hlt : j < 20
    · have HNX := Lib.hid (Park_next HPJ.out)
      rw [HOF.out] at HNX
      unfold Prk.Told Prk.ToldD at HNX
      cases hx : parkA (q : Int) s with
      | none =>
        have HE := Lib.hid (show mj = lf ∧ s = sf ∧ j = K by
          have h1 := HAJ.out
          cases hkj : K - j with
          | zero => rw [hkj] at h1; simp only [steps, Option.some.injEq, Prod.mk.injEq] at h1; exact ⟨h1.1, h1.2, by have := HJ.out; omega⟩
          | succ k => rw [hkj] at h1; obtain ⟨d, h2, -⟩ := steps_amid h1; rw [hx] at h2; cases h2)
        obtain ⟨rfl, rfl, rfl⟩ := HE.out
        rw [hx] at HNX
        have HEN := Lib.hid (show j = 2 ∧ ((¬ sem = 0 ∧ mj = addI la (q : Int) 18446744073709551615) ∨ (sem = 0 ∧ un ≤ nw ∧ mj = la)) by
          rcases HEND.out with ⟨h1, -, h2⟩ | ⟨-, h1, -⟩
          · exact ⟨h1, h2⟩
          · exact absurd hx h1)
        have hj2 : ((j : Int) == 2) = true := by have := HEN.out.1; subst this; rfl
        clear hx HE HEND HAJ HFJ
        go_wp2_with fail
        refine HNX.out.mono ?_
        rintro e9 w9 ⟨rfl, b9⟩
        simp only [Option.getD_none, Option.isSome_none]
        have HB9 := Lib.hid (chain b9 (ba w9 (.cells #[.int .i64 0, .int .i64 0, .int .u64 0, .int .u64 0, .int .u64 0] 38)))
        have HM9 := Lib.hid (HMJ.out.later HB9.out)
        have HO9 := Lib.hid (HOJ.out.then_below HB9.out)
        have HOW9 := Lib.hid (HO9.out.own HOW8.out (fun k e => by cases e; show ¬ (bw = h ∨ bw = p); have := HBW.out; have := HP.out; omega))
        have HBE := Lib.hid (HB8.out.trans (HO9.out.below HB8.out.size (fun k e => by have := HBW.out; have := HP.out; have := HNE.out; omega)))
        have HLF := Lib.hid (show n = mj.length ∧ mj.length ≤ maxLen from ⟨HM9.out.len, by rw [← HM9.out.len]; exact Nat.le_trans HM9.out.most (by decide)⟩)
        clear b9 HNX HB9 HMJ HOJ HPJ HOW8 HB8 H8 HO9
        rcases HEN.out.2 with ⟨h0, hlf⟩ | ⟨h0, hun, hlf⟩
        · have hsn : (sem != 0) = true := by simpa using h0
          have hws : IntKind.u64.wrap (sem - 1) = sem - 1 := by have := HS.out; rw [IntKind.wrap_u64]; omega
          have hql : (q : Int) < (n : Int) := Int.ofNat_lt.2 HQN.out
          have HSET := Lib.hid (show mj = la.set q (sem - 1) by
            have hs := HS.out
            rw [hlf]
            unfold addI
            rw [getI_some HVS.out, setI_in (by rw [HLEN.out]; exact HQN.out), less_one hs.1 hs.2 h0])
          clear HEN hlf h0
          obtain ⟨d_0, d_1⟩ := own_int_at HOW9.out HLEN.out.symm HVS.out
          have HOX := Lib.hid (only_setCell (R := fun b => b = bw) (w9.alloc (.cells #[.int .i64 0, .int .i64 0, .int .u64 0, .int .u64 0, .int .u64 0] 38)) (p := ⟨bw, q, none⟩) rfl (.int .u64 (sem - 1)))
          have HMF := Lib.hid (show Mem ((w9.alloc (.cells #[.int .i64 0, .int .i64 0, .int .u64 0, .int .u64 0, .int .u64 0] 38)).setCell ⟨bw, q, none⟩ (.int .u64 (sem - 1))) pc h n mj from ⟨HM9.out.1, HM9.out.2.1, HM9.out.2.2.1, HOX.out.cell HM9.out.box (show ¬ pc = bw by have := HBW.out; omega), HOX.out.own HM9.out.own (fun k e => by cases e; show ¬ h = bw; have := HBW.out; omega)⟩)
          have HRF := Lib.hid (own_int_set HOW9.out q (sem - 1))
          rw [← HSET.out] at HRF
          have HBF := Lib.hid (HBE.out.trans (HOX.out.below HBE.out.size (fun k e => by subst e; have := HBW.out; omega)))
          clear HM9 HOW9 HBE HOX
          go_wp2_with fail
          generalize (w9.alloc (.cells #[.int .i64 0, .int .i64 0, .int .u64 0, .int .u64 0, .int .u64 0] 38)).setCell ⟨bw, q, none⟩ (.int .u64 (sem - 1)) = wt at HMF HRF HBF ⊢
          have HW := Lib.hid (Words_any HMF.out)
          obtain ⟨bn, hbn⟩ : ∃ bn, bn = wt.heap.size := ⟨_, rfl⟩
          unfold Cells.Told at HW
          rw [← hbn] at HW
          refine HW.out.mono ?_
          rintro e12 w12 ⟨rfl, on, b12⟩
          rw [hbn] at b12
          have HR1 := Lib.hid (Row.of_own on)
          have HR2 := Lib.hid (Row.of_own (own_later HRF.out b12))
          have HB12 := Lib.hid (chain HBF.out b12)
          clear on b12 hbn HMF HRF HBF HW
          go_wp2_with fail
          refine (CellsRef.Same_yes (l := mj) HLF.out.1 HLF.out.1 HR1.out HR2.out HLF.out.2).mono ?_
          rintro e13 w13 ⟨rfl, b13⟩
          have HB13 := Lib.hid (chain HB12.out b13)
          clear b13
          go_wp2_with fail
          refine (awake_any _).mono ?_
          rintro e14 w14 ⟨rfl, b14⟩
          go_wp2
          go_ret
          exact ⟨rfl, chain HB13.out b14⟩
        · subst h0
          have hun2 : decide (un ≤ nw) = true := decide_eq_true hun
          rw [← hlf] at HOW9
          have HMF := HM9
          have HRF := HOW9
          have HBF := HBE
          clear HEN hlf HM9 HOW9 HBE
          go_wp2_with fail
          generalize w9.alloc (.cells #[.int .i64 0, .int .i64 0, .int .u64 0, .int .u64 0, .int .u64 0] 38) = wt at HMF HRF HBF ⊢
          have HW := Lib.hid (Words_any HMF.out)
          obtain ⟨bn, hbn⟩ : ∃ bn, bn = wt.heap.size := ⟨_, rfl⟩
          unfold Cells.Told at HW
          rw [← hbn] at HW
          refine HW.out.mono ?_
          rintro e12 w12 ⟨rfl, on, b12⟩
          rw [hbn] at b12
          have HR1 := Lib.hid (Row.of_own on)
          have HR2 := Lib.hid (Row.of_own (own_later HRF.out b12))
          have HB12 := Lib.hid (chain HBF.out b12)
          clear on b12 hbn HMF HRF HBF HW
          go_wp2_with fail
          refine (CellsRef.Same_yes (l := mj) HLF.out.1 HLF.out.1 HR1.out HR2.out HLF.out.2).mono ?_
          rintro e13 w13 ⟨rfl, b13⟩
          have HB13 := Lib.hid (chain HB12.out b13)
          clear b13
          go_wp2_with fail
          refine (awake_any _).mono ?_
          rintro e14 w14 ⟨rfl, b14⟩
          go_wp2
          go_ret
          exact ⟨rfl, chain HB13.out b14⟩
      | some d =>
        have HE := Lib.hid (show j < K ∧ steps (parkA (q : Int)) (parkT un) (K - (j + 1)) (nextD mj d) (parkT un s (foundD mj d)) = some (lf, sf) by
          have h1 := HAJ.out
          cases hkj : K - j with
          | zero =>
            exfalso
            rw [hkj] at h1
            simp only [steps, Option.some.injEq, Prod.mk.injEq] at h1
            rcases HEND.out with ⟨-, h2, -⟩ | ⟨h2, -⟩
            · rw [← h1.2, hx] at h2
              cases h2
            · omega
          | succ k =>
            rw [hkj] at h1
            obtain ⟨d2, h2, h3⟩ := steps_amid h1
            rw [hx] at h2
            cases h2
            exact ⟨by omega, by rw [show K - (j + 1) = k by omega]; exact h3⟩)
        have HDF := Lib.hid (show DM.Fits d by rw [← HOF.out] at hx; exact parkA_fits hx)
        rw [hx] at HNX
        clear hx
        go_wp2_with fail
        refine HNX.out.mono ?_
        rintro e9 w9 ⟨rfl, b9⟩
        simp only [Option.getD_some, Option.isSome_some]
        have HB9 := Lib.hid (chain b9 (ba w9 (.cells #[.int .i64 d.1, .int .i64 d.2.1, .int .u64 d.2.2.1, .int .u64 d.2.2.2.1, .int .u64 d.2.2.2.2] 38)))
        have HM9 := Lib.hid (HMJ.out.later HB9.out)
        have HP9 := Lib.hid (HPJ.out.later HB9.out)
        have HO9 := Lib.hid (HOJ.out.then_below HB9.out)
        clear b9
        go_wp2_with fail
        refine (DeedDo.Do_any HM9.out d).mono ?_
        rintro e10 w10 ⟨rfl, g10, m10⟩
        have HM10 := Lib.hid m10
        have HO10 := Lib.hid (only_grown (R := fun k => k = h) g10 fun k e => by cases e; rfl)
        have HP10 := Lib.hid (HP9.out.only HO10.out (fun e => by have := HBW.out; have := HP.out; omega))
        have HO11 := Lib.hid (HO9.out.trans (HO10.out.wide (R' := fun k => k = h ∨ k = p) fun k e => .inl (.inl e)))
        clear g10 m10
        go_wp2_with fail
        refine (Park_tell HP10.out (fits_found HFJ.out d)).mono ?_
        rintro e11 w11 ⟨rfl, p11, o11⟩
        have H11 := Lib.hid (show Amid w8 pc h n p (T : Int) (S : Int) (L : Int) G (k : Int) un K lf sf (j + 1) w11 from ⟨_, _, by have := HE.out.1; omega, ⟨HM10.out.1, HM10.out.2.1, HM10.out.2.2.1, o11.cell HM10.out.box (show ¬ pc = p by have := HP.out; have := HBW.out; omega), o11.own HM10.out.own (fun k e => by cases e; show ¬ h = p; have := HP.out; have := HBW.out; omega)⟩, fits_next HFJ.out HDF.out, p11, by rw [HOF.out]; exact HE.out.2,
          HO11.out.trans (o11.wide (R' := fun k => k = h ∨ k = p) fun k e => .inl (.inr e))⟩)
        clear p11 o11
        go_wp2
        go_roundw
        case rel => exact ⟨j + 1, by go_num, by go_num, H11.out⟩
        case measure => simp [intOf]; omega
    · have HE := Lib.hid (show j = 20 ∧ sem = 0 ∧ nw < un ∧ mj = la by
        have h1 := HAJ.out
        have h2 := HJ.out
        have h3 := HK20.out
        have hk : K = 20 := by omega
        rw [show K - j = 0 by omega] at h1
        simp only [steps, Option.some.injEq, Prod.mk.injEq] at h1
        rcases HEND.out with ⟨h4, -⟩ | ⟨h4, -, h5, h6, h7⟩
        · omega
        · exact ⟨by omega, h5, h6, by rw [h1.1, h7]⟩)
      have hj2 : ((j : Int) == 2) = false := by have := HE.out.1; subst this; rfl
      have hj20 : ((j : Int) == 20) = true := by have := HE.out.1; subst this; rfl
      have hjn : ¬ ((j : Int) < 20) := by have := HE.out.1; subst this; decide
      obtain ⟨-, rfl, hun, rfl⟩ := HE.out
      have hun2 : decide (un ≤ nw) = false := decide_eq_false (Int.not_le.2 hun)
      have HRF := Lib.hid (HOJ.out.own HOW8.out (fun k e => by cases e; show ¬ (bw = h ∨ bw = p); have := HBW.out; have := HP.out; omega))
      have HBF := Lib.hid (HB8.out.trans (HOJ.out.below HB8.out.size (fun k e => by have := HBW.out; have := HP.out; have := HNE.out; omega)))
      have HLF := Lib.hid (show n = mj.length ∧ mj.length ≤ maxLen from ⟨HMJ.out.len, by rw [← HMJ.out.len]; exact Nat.le_trans HMJ.out.most (by decide)⟩)
      have HMF := HMJ
      clear HE HEND HAJ HFJ HJ HPJ HMJ HOJ HOW8 HB8 H8 hlt
      go_wp2_with fail
      generalize wr = wt at HMF HRF HBF ⊢
      have HW := Lib.hid (Words_any HMF.out)
      obtain ⟨bn, hbn⟩ : ∃ bn, bn = wt.heap.size := ⟨_, rfl⟩
      unfold Cells.Told at HW
      rw [← hbn] at HW
      refine HW.out.mono ?_
      rintro e12 w12 ⟨rfl, on, b12⟩
      rw [hbn] at b12
      have HR1 := Lib.hid (Row.of_own on)
      have HR2 := Lib.hid (Row.of_own (own_later HRF.out b12))
      have HB12 := Lib.hid (chain HBF.out b12)
      clear on b12 hbn HMF HRF HBF HW
      go_wp2_with fail
      refine (CellsRef.Same_yes (l := mj) HLF.out.1 HLF.out.1 HR1.out HR2.out HLF.out.2).mono ?_
      rintro e13 w13 ⟨rfl, b13⟩
      have HB13 := Lib.hid (chain HB12.out b13)
      clear b13
      go_wp2_with fail
      refine (awake_any _).mono ?_
      rintro e14 w14 ⟨rfl, b14⟩
      go_wp2
      go_ret
      exact ⟨rfl, chain HB13.out b14⟩

theorem walk (x : Int × Int × Int × Int) (th un nw sem : Int) (_ : (Lit.int .i64 x.1).wf = true) (_ : (Lit.int .i64 x.2.1).wf = true) (_ : (Lit.int .i64 x.2.2.1).wf = true) (hg : (Lit.int .u64 x.2.2.2).wf = true)
    (_ : (Lit.int .i64 th).wf = true) (_ : (Lit.int .i64 un).wf = true) (hn : (Lit.int .i64 nw).wf = true) (hs : (Lit.int .u64 sem).wf = true) (w : World) (_ : True) :
    Calls Tryd.prog 3 #[.agg #[.int .i64 x.1, .int .i64 x.2.1, .int .i64 x.2.2.1, .int .u64 x.2.2.2], .agg #[.int .i64 th, .int .i64 un, .int .i64 nw], .int .u64 sem] w fun e w' => e = .returned (.bool true) ∧ Below w.heap.size w w' := by
  obtain ⟨T, S, L, G⟩ := x
  show Calls Tryd.prog 3 #[.agg #[.int .i64 T, .int .i64 S, .int .i64 L, .int .u64 G], .agg #[.int .i64 th, .int .i64 un, .int .i64 nw], .int .u64 sem] w _
  cases h : rightB T S L G
  · exact walk_no T S L G th un nw sem h w
  · have hr := right_is h
    have hG := (wf_u64 hg).1
    obtain ⟨a, rfl⟩ := Int.eq_ofNat_of_zero_le (show 0 ≤ T by have := hr.1; omega)
    obtain ⟨b, rfl⟩ := Int.eq_ofNat_of_zero_le (show 0 ≤ S by have := hr.2.2.1; omega)
    obtain ⟨d, rfl⟩ := Int.eq_ofNat_of_zero_le (show 0 ≤ L by have := hr.2.2.2.2.1; omega)
    by_cases h0 : th < 0
    · exact walk_low a b d G th un nw sem h hG h0 w
    · by_cases h1 : (a : Int) ≤ th
      · exact walk_high a b d G th un nw sem h hG h0 h1 w
      · by_cases h2 : nw < 0
        · exact walk_never a b d G th un nw sem h hG h0 h1 h2 w
        · obtain ⟨k, rfl⟩ := Int.eq_ofNat_of_zero_le (show 0 ≤ th by omega)
          exact walk_yes a b d k G un nw sem h hG (by omega) (by omega) (wf_i64 hn).2 (wf_u64 hs) w
theorem laidOut : laidOutB Tryd.prog = true := by kernel_rfl
theorem own : ownKnob Tryd.prog.godebug = none := by kernel_rfl
theorem door_met (os : Os) (args : Array Value) : laidMetH Tryd.prog Rows.parkWaitsRow.laid ((World.doorLaid Tryd.prog 400 os).forCall (fun _ _ => 0) ⟨#[], args, []⟩).memory :=
  laidMetH_of_parts3 (fuel := 8) (laidMet_of_run' 8 (by kernel_rfl) (by kernel_rfl)) (by kernel_rfl) (by kernel_rfl)
set_option maxRecDepth 100000 in
theorem lifted (os : Os) (started : os.Started) (H : Type) (enc : TypeId × Value → H) :
    ReturnsInHanded {} Tryd.checked os 3 .any (fun w args => (Rows.parkWaitsSpec.pre enc Tryd.prog Tryd.f3 [] false w args ∧ laidMetH Tryd.prog Rows.parkWaitsRow.laid w) ∧ sizedMet enc Tryd.prog Tryd.f3 (OpenSpec.ofChange Rows.parkWaitsSpec) false w args) (Rows.parkWaitsSpec.post enc Tryd.prog Tryd.f3 false true false false) := by
  refine Frame.liftedLaid (C := Tryd.checked) (fn := Tryd.f3) (tb := 4) own started (by kernel_rfl) Tryd.func3
    (ChangeSpec.witness_shaped (enc := enc) (C := Tryd.checked) (os := os) (X := fun w _ => laidMetH Tryd.prog Rows.parkWaitsRow.laid w) false (World.doorLaid Tryd.prog 400 os) #[.agg #[.int .i64 0, .int .i64 0, .int .i64 0, .int .u64 0], .agg #[.int .i64 0, .int .i64 0, .int .i64 0], .int .u64 0] 8 rfl (World.shaped_of_RefB (by kernel_rfl) (by kernel_rfl)) (by kernel_rfl) (by kernel_rfl) (by kernel_rfl) (door_met os _))
    rfl rfl Tryd.underlying4 laidOut (by kernel_rfl) (fun ds h => by match ds, h with | [_, _, _], _ => rfl) ?_
  intro W base args ds ps hval0 hA0 hlt hL
  have hval : ∀ (j : Nat) t v, Tryd.f3.params[j]? = some t → args[j]? = some v → Value.okWide Tryd.prog W .any base t v := hval0
  have hA : DataW.TrodAll enc Tryd.prog W 0 (fun _ => true) true Tryd.f3.params.toList args.toList ds ps := hA0
  rw [Tryd.params3] at hA hval
  obtain ⟨v0, vs0, d0, ds0, p0, q0, hargs, rfl, rfl, h0, r0⟩ := trodAll_cons hA
  obtain ⟨v1, vs1, d1, ds1, p1, q1, rfl, rfl, rfl, h1, r1⟩ := trodAll_cons r0
  obtain ⟨v2, vs2, d2, ds2, p2, q2, rfl, rfl, rfl, h2, r2⟩ := trodAll_cons r1
  obtain ⟨rfl, rfl, rfl⟩ := trodAll_nil r2
  obtain rfl : args = #[v0, v1, v2] := by cases args; simp_all
  obtain ⟨x0, rfl, w0_0, w0_1, w0_2, w0_3⟩ := Open.open_four_ints Tryd.underlying24 (by kernel_rfl) (by kernel_rfl) Tryd.underlying3 Tryd.underlying3 Tryd.underlying3 Tryd.underlying22 (hval 0 24 v0 rfl rfl) h0
  obtain ⟨z1, l1, rfl, g1⟩ := Frame.open_int_array Tryd.underlying25 Tryd.underlying3 (by kernel_rfl) (by kernel_rfl) (hval 1 25 v1 rfl rfl) h1
  obtain ⟨a1_0, a1_1, a1_2, rfl, w1_0, w1_1, w1_2⟩ := Frame.three_of l1 g1
  obtain ⟨a2, rfl, _, _, w2⟩ := open_int Tryd.underlying22 (hval 2 22 v2 rfl rfl) h2
  refine (walk x0 a1_0 a1_1 a1_2 a2 w0_0 w0_1 w0_2 w0_3 w1_0 w1_1 w1_2 w2 W (held hL)).mono fun e W' h => ?_
  exact h

theorem over : Rows.parkWaitsRow.holds Tryd.pinned (OpenSpec.ofChange Rows.parkWaitsSpec) :=
  OpenClaim.holds_of_wide 3 Tryd.f3 rfl rfl rfl rfl rfl rfl rfl ⟨rfl, rfl, rfl, rfl, rfl⟩ rfl rfl rfl rfl rfl (by kernel_rfl) Tryd.func3 (by kernel_rfl)
    (of_decide_eq_true (by kernel_rfl)) (by unfold Func.isWrapper; first | (rw [if_pos (by decide +kernel)]; kernel_rfl) | (rw [if_neg (by decide +kernel)]; exact ⟨rfl, rfl⟩))
    (fun os started H enc _ => lifted os started H enc)

theorem proved : Rows.ParkWaitsCardSaid :=
  Claim7.holds_tied_plain_at .later [] Rows.parkWaitsCard.laidKinds true Rows.parkWaitsCard.stood.harness Rows.parkWaitsCard.stood.looks
    over (fun _ h => by cases h) (by kernel_rfl) (fun _ h => by cases h) parkWaits_row_tie rfl ⟨rfl, rfl⟩ (by kernel_rfl) rfl
    (fun f fn hf hfn => by
      obtain rfl : f = 3 := Option.some.inj ((show Tryd.prog.funcNamed Rows.parkWaitsRow.func = some 3 by kernel_rfl).symm.trans hf) |>.symm
      obtain rfl : fn = Tryd.f3 := (Option.some.inj (Tryd.func3.symm.trans hfn)).symm
      exact ⟨by kernel_rfl, fun j t ht => by
        rw [Tryd.params3] at ht
        have hm : t ∈ [24, 25, 22] := by simpa using Array.mem_of_getElem? ht
        have hall : ([24, 25, 22].all fun u => !Tryd.prog.wantsStandIn u) = true := by kernel_rfl
        exact (show Tryd.prog.wantsStandIn t = false by simpa using List.all_eq_true.1 hall t hm)⟩)
    (by kernel_rfl)
#print axioms proved
end Go.Proofs.YtelnkbikgboblaaDoor.ParkWaits
