import Derived.Test.YtafjokjmogadnaaGreatDoorCollectFreesAllP30
import Derived.Test.YtafjokjmogadnaaGreatDoorCollectFreesAllP5
import Derived.Test.YtafjokjmogadnaaGreatDoorCollectFreesAllP31
import Derived.Test.YtafjokjmogadnaaGreatDoorCollectFreesAllP32
import Derived.Test.YtafjokjmogadnaaGreatDoorTie
import Derived.Test.YtafjokjmogadnaaGreatDoorCards
/- CollectFrees: for every plan that is right (but of the last generation), every epoch from 1 to 2^40 and whatever epochs the slots were retired in, of all slots, which wait, just those are free behind a collector that is done alone that were retired two epochs ago or more; as many are counted, and those alone wait no more (of other plans and epochs just the chapter's example is asked); and that example comes out; the arguments read as they did. Condition: the library's listed tables hold what its own text lays in them (tied by the card). -/
namespace Go.Proofs.YtafjokjmogadnaaGreatDoor.CollectFrees
set_option maxRecDepth 20000
open Go.ChangeShapes Go.WideShapes Go.ChangeAt Go.RowKit CM DM PM GiM CoM LM BM Runs Lay Plan Ints Limbo CoFill Go.Proofs.YtafjokjmogadnaaGreatDoor.Collect
open Go.Proofs.YtafjokjmogadnaaGreatDoor.Cells (Mem Does Store_any)
open Go.Proofs.YtafjokjmogadnaaGreatDoor.Task (res5 set5)
open Go.Proofs.YtafjokjmogadnaaGreatDoor.Law17 (plan4 awake_any wf_u64 loop_told Colls.ok)
set_option linter.unusedVariables false
set_option linter.unusedSimpArgs false

theorem held {W : World} (h : laidMetH Tryz.prog Rows.collectFreesRow.laid W) : True := trivial
/-- An epoch that is cut off. -/
def cutI (z : Int) : Int := bits BinOp.and IntKind.u64 z 2199023255551
theorem cut_lo (z : Int) : 0 ≤ cutI z ∧ cutI z ≤ 2199023255551 := by
  have h1 : (BitVec.ofInt (IntKind.bits .u64) 2199023255551).toNat = 2199023255551 := by decide
  have h : cutI z = IntKind.u64.wrap (((BitVec.ofInt (IntKind.bits .u64) z).toNat &&& 2199023255551 : Nat) : Int) := by
    unfold cutI
    simp only [bits, BitVec.toNat_and, h1]
  have h2 : (BitVec.ofInt (IntKind.bits .u64) z).toNat &&& 2199023255551 ≤ 2199023255551 := Nat.and_le_right
  rw [h, IntKind.wrap_u64]
  omega
def epX (zs : List Int) (j : Nat) : Int := cutI (zs[j]?.getD 0)
/-- The plan's cells behind its box and the epochs' one. -/
theorem plan_in (w : World) (T S L G : Int) (zs : List Int) : ((w.alloc (.cells #[.int .i64 T, .int .i64 S, .int .i64 L, .int .u64 G] 24)).alloc (.cells (zs.map (Value.int .u64)).toArray 49)).cell? ⟨w.heap.size, 0, none⟩ = some (.int .i64 T) ∧ ((w.alloc (.cells #[.int .i64 T, .int .i64 S, .int .i64 L, .int .u64 G] 24)).alloc (.cells (zs.map (Value.int .u64)).toArray 49)).cell? ⟨w.heap.size, 1, none⟩ = some (.int .i64 S) ∧ ((w.alloc (.cells #[.int .i64 T, .int .i64 S, .int .i64 L, .int .u64 G] 24)).alloc (.cells (zs.map (Value.int .u64)).toArray 49)).cell? ⟨w.heap.size, 2, none⟩ = some (.int .i64 L) ∧ ((w.alloc (.cells #[.int .i64 T, .int .i64 S, .int .i64 L, .int .u64 G] 24)).alloc (.cells (zs.map (Value.int .u64)).toArray 49)).cell? ⟨w.heap.size, 3, none⟩ = some (.int .u64 G) :=
  box4_later (by have := box_below (w.alloc (.cells #[.int .i64 T, .int .i64 S, .int .i64 L, .int .u64 G] 24)) (.cells (zs.map (Value.int .u64)).toArray 49); rwa [World.size_alloc] at this)
theorem two_boxes (w : World) (T S L G : Int) (zs : List Int) : Below w.heap.size w ((w.alloc (.cells #[.int .i64 T, .int .i64 S, .int .i64 L, .int .u64 G] 24)).alloc (.cells (zs.map (Value.int .u64)).toArray 49)) := (box_below w (.cells #[.int .i64 T, .int .i64 S, .int .i64 L, .int .u64 G] 24)).trans ((box_below (w.alloc (.cells #[.int .i64 T, .int .i64 S, .int .i64 L, .int .u64 G] 24)) (.cells (zs.map (Value.int .u64)).toArray 49)).mono (by simp))
theorem walk_no (T S L G now : Int) (zs : List Int) (hr : rightB T S L G = false) (w : World) : Calls Tryz.prog 4 #[.agg #[.int .i64 T, .int .i64 S, .int .i64 L, .int .u64 G], .agg (zs.map (Value.int .u64)).toArray, .int .u64 now] w fun e w' => e = .returned (.bool true) ∧ Below w.heap.size w w' := by
  have HR := Lib.hid hr
  have HB0 := Lib.hid (two_boxes w T S L G zs)
  obtain ⟨c_0, c_1, c_2, c_3⟩ := plan_in w T S L G zs
  clear hr
  go_enter Tryz.func4, Tryz.ntmps4
  go_wp2_with fail
  refine (Blank.Make_no HR.out _).mono ?_
  rintro e w1 ⟨rfl, b1⟩
  have HB1 := Lib.hid (HB0.out.trans (b1.mono HB0.out.size))
  clear b1 c_0 c_1 c_2 c_3
  go_wp2_with fail
  refine (awake_any _).mono ?_
  rintro e w4 ⟨rfl, b4⟩
  go_wp2
  go_ret
  exact ⟨rfl, HB1.out.trans (b4.mono HB1.out.size)⟩
theorem walk_last (T S L : Nat) (G now : Int) (zs : List Int) (hr : rightB (T : Int) (S : Int) (L : Int) G = true) (hG : 0 ≤ G) (hG2 : (G == 4294967295) = true) (w : World) : Calls Tryz.prog 4 #[.agg #[.int .i64 (T : Int), .int .i64 (S : Int), .int .i64 (L : Int), .int .u64 G], .agg (zs.map (Value.int .u64)).toArray, .int .u64 now] w fun e w' => e = .returned (.bool true) ∧ Below w.heap.size w w' := by
  have HR := Lib.hid hr
  have HG := Lib.hid hG
  have HC := Lib.hid (plan_in w (T : Int) (S : Int) (L : Int) G zs)
  have HB0 := Lib.hid (two_boxes w (T : Int) (S : Int) (L : Int) G zs)
  obtain ⟨c_0, c_1, c_2, c_3⟩ := HC.out
  clear hr hG
  go_enter Tryz.func4, Tryz.ntmps4
  go_wp2_with fail
  refine (Blank.Make_yes HR.out HG.out _).mono ?_
  rintro e w1 ⟨p, h, rfl, m1, p1, h1, b1⟩
  have HB1 := Lib.hid (HB0.out.trans (b1.mono HB0.out.size))
  clear c_0 c_1 c_2 c_3
  obtain ⟨c_0, c_1, c_2, c_3⟩ := plan4 HC.out (only_below (fun _ => False) b1) id
  clear b1 m1 p1 h1
  go_wp2_with fail
  refine (awake_any _).mono ?_
  rintro e w4 ⟨rfl, b4⟩
  go_wp2
  go_ret
  exact ⟨rfl, HB1.out.trans (b4.mono HB1.out.size)⟩
theorem walk_low (T S L : Nat) (G now : Int) (zs : List Int) (hr : rightB (T : Int) (S : Int) (L : Int) G = true) (hG : 0 ≤ G) (hG2 : (G == 4294967295) = false) (hi : now < 1) (w : World) : Calls Tryz.prog 4 #[.agg #[.int .i64 (T : Int), .int .i64 (S : Int), .int .i64 (L : Int), .int .u64 G], .agg (zs.map (Value.int .u64)).toArray, .int .u64 now] w fun e w' => e = .returned (.bool true) ∧ Below w.heap.size w w' := by
  have HR := Lib.hid hr
  have HG := Lib.hid hG
  have HC := Lib.hid (plan_in w (T : Int) (S : Int) (L : Int) G zs)
  have HB0 := Lib.hid (two_boxes w (T : Int) (S : Int) (L : Int) G zs)
  obtain ⟨c_0, c_1, c_2, c_3⟩ := HC.out
  clear hr hG
  go_enter Tryz.func4, Tryz.ntmps4
  go_wp2_with fail
  refine (Blank.Make_yes HR.out HG.out _).mono ?_
  rintro e w1 ⟨p, h, rfl, m1, p1, h1, b1⟩
  have HB1 := Lib.hid (HB0.out.trans (b1.mono HB0.out.size))
  clear c_0 c_1 c_2 c_3
  obtain ⟨c_0, c_1, c_2, c_3⟩ := plan4 HC.out (only_below (fun _ => False) b1) id
  clear b1 m1 p1 h1
  go_wp2_with fail
  refine (awake_any _).mono ?_
  rintro e w4 ⟨rfl, b4⟩
  go_wp2
  go_ret
  exact ⟨rfl, HB1.out.trans (b4.mono HB1.out.size)⟩
theorem walk_high (T S L : Nat) (G now : Int) (zs : List Int) (hr : rightB (T : Int) (S : Int) (L : Int) G = true) (hG : 0 ≤ G) (hG2 : (G == 4294967295) = false) (h0 : 1 ≤ now) (hi : 1099511627776 < now) (w : World) : Calls Tryz.prog 4 #[.agg #[.int .i64 (T : Int), .int .i64 (S : Int), .int .i64 (L : Int), .int .u64 G], .agg (zs.map (Value.int .u64)).toArray, .int .u64 now] w fun e w' => e = .returned (.bool true) ∧ Below w.heap.size w w' := by
  have HR := Lib.hid hr
  have HG := Lib.hid hG
  have HC := Lib.hid (plan_in w (T : Int) (S : Int) (L : Int) G zs)
  have HB0 := Lib.hid (two_boxes w (T : Int) (S : Int) (L : Int) G zs)
  obtain ⟨c_0, c_1, c_2, c_3⟩ := HC.out
  clear hr hG
  go_enter Tryz.func4, Tryz.ntmps4
  go_wp2_with fail
  refine (Blank.Make_yes HR.out HG.out _).mono ?_
  rintro e w1 ⟨p, h, rfl, m1, p1, h1, b1⟩
  have HB1 := Lib.hid (HB0.out.trans (b1.mono HB0.out.size))
  clear c_0 c_1 c_2 c_3
  obtain ⟨c_0, c_1, c_2, c_3⟩ := plan4 HC.out (only_below (fun _ => False) b1) id
  clear b1 m1 p1 h1
  go_wp2_with fail
  refine (awake_any _).mono ?_
  rintro e w4 ⟨rfl, b4⟩
  go_wp2
  go_ret
  exact ⟨rfl, HB1.out.trans (b4.mono HB1.out.size)⟩
/-- The free slots are told. -/
theorem Free_told {T S L : Nat} {G : Int} (hr : rightB (T : Int) (S : Int) (L : Int) G = true) {p h n : Nat} {l : List Int} {w : World} (hM : Mem w p h n l) (hF : BM.Fits l) {F : List Int} {m : Nat} (he : freeL T S L l = F) (hm : F.length = m) :
    Calls Tryz.prog 22 #[.pointer (some ⟨p, 0, none⟩), .agg #[.int .i64 (T : Int), .int .i64 (S : Int), .int .i64 (L : Int), .int .u64 G]] w fun e w' => ∃ A c, e = .returned (.slice A m c) ∧ Row w' w'.heap.size A (flat (encZ .i64) F) ∧ Below w.heap.size w w' := by
  refine (Blank.Free_yes hr hM hF).mono ?_
  rintro e w' ⟨A, c, rfl, hR, hb⟩
  subst hm
  rw [he] at hR ⊢
  exact ⟨A, c, rfl, hR, hb⟩
/-- The epochs' box. -/
theorem ep_at {w : World} {T S L G : Int} {zs : List Int} {j : Nat} (hj : j < zs.length) : ((w.alloc (.cells #[.int .i64 T, .int .i64 S, .int .i64 L, .int .u64 G] 24)).alloc (.cells (zs.map (Value.int .u64)).toArray 49)).cell? ⟨w.heap.size + 1, j, none⟩ = some (.int .u64 (zs[j]?.getD 0)) := by
  have h := new_heap (w.alloc (.cells #[.int .i64 T, .int .i64 S, .int .i64 L, .int .u64 G] 24)) (.cells (zs.map (Value.int .u64)).toArray 49)
  rw [World.size_alloc] at h
  have h2 := (cell_heap h j).1
  rw [h2]
  simp [List.getElem?_eq_getElem hj]
set_option maxHeartbeats 4000000 in
theorem walk_yes (T S L : Nat) (G now : Int) (zs : List Int) (hz : zs.length = 64) (hr : rightB (T : Int) (S : Int) (L : Int) G = true) (hG : 0 ≤ G) (hG2 : G < 4294967295) (hn1 : 1 ≤ now) (hn2 : now ≤ 1099511627776) (w : World) : Calls Tryz.prog 4 #[.agg #[.int .i64 (T : Int), .int .i64 (S : Int), .int .i64 (L : Int), .int .u64 G], .agg (zs.map (Value.int .u64)).toArray, .int .u64 now] w fun e w' => e = .returned (.bool true) ∧ Below w.heap.size w w' := by
  obtain ⟨t1, t8, s1, s64, l1, l8⟩ := Blank.right_nat hr
  obtain ⟨X, hX⟩ : ∃ X, X = epX zs := ⟨_, rfl⟩
  have HX := Lib.hid (show ∀ j, 0 ≤ X j ∧ X j ≤ 2199023255551 from fun j => by rw [hX]; exact cut_lo _)
  have HXI := Lib.hid (show ∀ j, bits BinOp.and IntKind.u64 (zs[j]?.getD 0) 2199023255551 = X j from fun j => by rw [hX]; rfl)
  have HEP := Lib.hid (fun j (hj : j < S) => ep_at (w := w) (T := (T : Int)) (S := (S : Int)) (L := (L : Int)) (G := G) (zs := zs) (show j < zs.length by omega))
  have HGG := Lib.hid (And.intro hG hG2)
  obtain ⟨f1, f2, f3, f4⟩ := free_all (G := G) (now := now) (X := X) (S := S) ⟨hG, hG2⟩ s64 (fun j => (HX.out j).1)
  have HFR := Lib.hid (And.intro f1 (And.intro f2 (And.intro f3 f4)))
  have HRANGE := Lib.hid (fun j (hj : j < S) => ofI_parts (G := G) (S := S) ⟨hG, hG2⟩ s64 hj)
  have HOF := Lib.hid (fun (i : Int) (W : World) => Refer.Of_any G i hG W)
  have HR := Lib.hid hr
  have HG := Lib.hid hG
  have HN := Lib.hid (show (0:Int) ≤ now ∧ now < 18446744073709551616 by omega)
  have hg1 : (G == 4294967295) = false := by simp; omega
  have hg2 : ¬ now < 1 := by omega
  have hg3 : ¬ 1099511627776 < now := by omega
  have HC := Lib.hid (plan_in w (T : Int) (S : Int) (L : Int) G zs)
  have HB0 := Lib.hid (two_boxes w (T : Int) (S : Int) (L : Int) G zs)
  have HTS := Lib.hid (And.intro t8 (And.intro s64 l8))
  have hEPN : (zs.map (Value.int .u64)).length = 64 := by rw [List.length_map]; exact hz
  obtain ⟨c_0, c_1, c_2, c_3⟩ := HC.out
  clear hr hG hG2 hn1 hn2 f1 f2 f3 f4 hX t1 t8 s1 s64 l1 l8
  go_enter Tryz.func4, Tryz.ntmps4
  go_wp2_with fail
  refine (Blank.Make_yes HR.out HG.out _).mono ?_
  rintro e1 w1 ⟨p, h, rfl, m1, p1, h1, b1⟩
  obtain ⟨n, hn⟩ : ∃ n, n = wordsN T S L := ⟨_, rfl⟩
  rw [← hn] at m1
  have HNE := Lib.hid (show w.heap.size + 1 < p ∧ w.heap.size + 1 < h by simp at p1 h1; omega)
  have HB1 := Lib.hid (HB0.out.trans (b1.mono HB0.out.size))
  have HC1 := Lib.hid (plan4 HC.out (only_below (fun _ => False) b1) id)
  have HE1 := Lib.hid (show ∀ j, j < S → w1.cell? ⟨w.heap.size + 1, j, none⟩ = some (.int .u64 (zs[j]?.getD 0)) from fun j hj => (only_below (fun _ => False) b1).cell (HEP.out j hj) id)
  have HM1 := Lib.hid m1
  have HPH := Lib.hid m1.lt
  clear m1 p1 h1 b1 c_0 c_1 c_2 c_3
  obtain ⟨c_0, c_1, c_2, c_3⟩ := HC1.out
  go_wp2_with fail
  refine (Store_any HM1.out 0 now).mono ?_
  rintro e2 w2 ⟨rfl, g2, m2⟩
  have HO2 := Lib.hid (only_grown (R := fun k => k = h) g2 fun k e => by cases e; rfl)
  have HM2 := Lib.hid m2
  clear m2 g2
  go_wp2_with fail
  refine (Store_any HM2.out 3 0).mono ?_
  rintro e3 w3 ⟨rfl, g3, m3⟩
  have HO3 := Lib.hid (HO2.out.trans (only_grown (R := fun k => k = h) g3 fun k e => by cases e; rfl))
  obtain ⟨ls, hls⟩ : ∃ ls, ls = setI (setI (layL n T S L (SM.stI G 0) S) 0 now) 3 0 := ⟨_, rfl⟩
  rw [← hls] at m3
  have hl0 : (layL n T S L (SM.stI G 0) S).length = wordsN T S L := by rw [BM.lay_length, hn]
  have hw4 : 4 ≤ wordsN T S L := by unfold wordsN; omega
  have HFT := Lib.hid (show BM.Fits ls from hls ▸ BM.fits_set (BM.fits_set (BM.fits_lay _ _ _ ⟨SM.stI_lo _ _, SM.stI_hi _ _⟩ (by have := HTS.out; omega) _) 0 HN.out) 3 (show (0:Int) ≤ 0 ∧ (0:Int) < 18446744073709551616 by decide))
  obtain ⟨lf, hs1, hs2⟩ := all_steps (T := T) (S := S) (L := L) HTS.out.1 HTS.out.2.1 HTS.out.2.2 (fillL (lst G X S)) now ls [] (by rw [hls, get_other (by decide)]; exact get_set (by unfold there; rw [hl0]; omega) now) HFR.out.2.2.2 (by show getI ls 3 % 4294967296 = 0; rw [hls, get_set (by unfold there; rw [setI_length, hl0]; omega)]; rfl) (by rw [List.append_nil]; exact HFR.out.2.2.1) (by rw [hls, setI_length, setI_length]; exact hl0)
  rw [ripes_length (fun j => (HX.out j).1)] at hs1
  rw [List.append_nil] at hs2
  have HST := Lib.hid (show steps (colA (T : Int) (L : Int)) (colT (T : Int) (L : Int) (fillL (lst G X S))) (4 * want now X S + 1) ls .look = some (lf, .at now none) ∧ freeL T S L lf = freeR G now X S from ⟨hs1, hs2⟩)
  have HM3 := Lib.hid m3
  have HWL := Lib.hid (want_le now X S)
  clear m3 g3 c_0 c_1 c_2 c_3 hls hl0 hw4 hs1 hs2
  go_wp2_with fail
  refine (New_any _).mono ?_
  rintro e4 w4 ⟨l, SL, rfl, hL, hSL, b4⟩
  have HO4 := Lib.hid (HO3.out.then_below b4)
  have H4 := Lib.hid (And.intro hL (show ∀ k, SL k → w1.heap.size ≤ k from fun k e => Nat.le_trans HO3.out.size (hSL k e)))
  have HM4 := Lib.hid (HM3.out.later b4)
  clear hL hSL b4
  go_wp2
  go_loopw [10, 11] (fun s10 s11 wr => ∃ k : Nat, k ≤ S ∧ s11 = .int .i64 ((k : Int) + 1) ∧ s10 = .int .i64 (want now X k) ∧ (∃ SL, Lim wr l SL (fillL (lst G X k)) ∧ ∀ j, SL j → w1.heap.size ≤ j) ∧ Mem wr p h n ls ∧ Only (fun k => k = h) w1 wr) (fun _ s11 _ => S + 1 - (intOf s11).toNat)
  case atStart => exact ⟨0, Nat.zero_le _, rfl, rfl, ⟨SL, H4.out.1, H4.out.2⟩, HM4.out, HO4.out⟩
  case round =>
    obtain ⟨k, hk, rfl, rfl, ⟨SL2, hL2, hS2⟩, hm2, ho2⟩ := hrel
    have HL2 := Lib.hid (And.intro hL2 (And.intro hS2 (And.intro hm2 ho2)))
    obtain ⟨c_0, c_1, c_2, c_3⟩ := plan4 HC1.out ho2 (by have := HNE.out; omega)
    have HE2 := Lib.hid (fun j (hj : j < S) => ho2.cell (HE1.out j hj) (show ¬ w.heap.size + 1 = h by have := HNE.out; omega))
    clear hL2 hS2 hm2 ho2
    by_cases hlt : k < S
    · have hk1 : (k : Int) + 1 ≤ (S : Int) := by omega
      have hk64 : (k : Int) < 64 := by have := HTS.out; omega
      have d0 := HE2.out k hlt
      have hxk := HXI.out k
      obtain ⟨q1, q2, q3, q4⟩ := HRANGE.out k hlt
      have HOFK := Lib.hid (fun W : World => HOF.out ((k : Int) + 1) W)
      have HLS := Lib.hid (lst_succ G X k)
      generalize RM.ofI G ((k : Int) + 1) = r at HOFK HLS q1 q2 q3 q4
      have HRK := Lib.hid (And.intro q3 q4)
      obtain ⟨hx0, hx1⟩ := HX.out k
      have hxw : IntKind.u64.wrap (X k + 2) = X k + 2 := by rw [IntKind.wrap_u64]; omega
      have hww : Go.RowKit.wrap64 ((want now X k : Int) + 1) = ((want now X k + 1 : Nat) : Int) := by
        have := want_le now X k
        have := HTS.out
        rw [wrap_in (by omega)]
        simp
      have HAD := Lib.hid (Limbo.Add_any (r := r) (e := X k) HL2.out.1 (by rw [fill_length, lst_length]; have := HTS.out; omega) hx0)
      clear q1 q2 q3 q4
      have HXD := Lib.hid (And.intro hx0 hx1)
      go_wp2_with fail
      refine (HOFK.out _).mono ?_
      rintro e5 w5 ⟨rfl, rfl⟩
      go_wp2_with fail
      refine HAD.out.mono ?_
      rintro e6 w6 ⟨SL3, rfl, hL3, hS3, ho3⟩
      rw [← HLS.out] at hL3
      have HO6 := Lib.hid (ho3.wide (R' := fun k => w1.heap.size ≤ k) fun j e => .inl (HL2.out.2.1 j e))
      have H6 := Lib.hid (show (∃ SL, Lim w6 l SL (fillL (lst G X (k + 1))) ∧ ∀ j, SL j → w1.heap.size ≤ j) ∧ Mem w6 p h n ls ∧ Only (fun k => k = h) w1 w6 from
        ⟨⟨SL3, hL3, fun j e => (hS3 j e).elim (HL2.out.2.1 j) (fun e => Nat.le_trans HL2.out.2.2.2.size e)⟩, Law17.mem_only HL2.out.2.2.1 HO6.out (by have := HPH.out; omega) (by have := HPH.out; omega), HL2.out.2.2.2.more HO6.out fun k e => .inr e⟩)
      clear hL3 hS3 ho3 c_0 c_1 c_2 c_3
      by_cases hp : X k + 2 ≤ now
      · have HW := Lib.hid (want_yes now X hp)
        have hpd : decide (X k + 2 ≤ now) = true := by simpa using hp
        have hb1 := hx0
        go_wp2
        go_roundw
        case rel => exact ⟨k + 1, hlt, by go_num, by rw [HW.out, hww], H6.out.1, H6.out.2.1, H6.out.2.2⟩
        case measure => simp [intOf]; omega
      · have HW := Lib.hid (want_no now X hp)
        have hpd : decide (X k + 2 ≤ now) = false := by simpa using hp
        go_wp2
        go_roundw
        case rel => exact ⟨k + 1, hlt, by go_num, by rw [HW.out], H6.out.1, H6.out.2.1, H6.out.2.2⟩
        case measure => simp [intOf]; omega
    · obtain rfl : k = S := by omega
      obtain ⟨K, hK⟩ : ∃ K, K = 4 * want now X k + 1 := ⟨_, rfl⟩
      rw [← hK] at HST
      have hK257 : K ≤ 257 := by have := HWL.out; have := HTS.out; omega
      have HSANE := Lib.hid (show Sane (fillL (lst G X k)) from ⟨by rw [fill_length, lst_length]; have := HTS.out; omega, fun y hy => by
        obtain ⟨j, hj, rfl⟩ := List.mem_map.1 (mem_fill hy)
        exact (HRANGE.out j (List.mem_range.1 hj)).2.2⟩)
      clear hK
      go_wp2_with fail
      refine (Collect_any (T : Int) (k : Int) (L : Int) G HL2.out.1 HSANE.out).mono ?_
      rintro e5 w5 ⟨q, Q, rfl, hq, hQ, b5⟩
      have H5 := Lib.hid (show Law17.Loop w1 p h n q l (T : Int) (k : Int) (L : Int) G (fillL (lst G X k)) lf (.at now none) K 0 w5 from ⟨_, _, Q, SL2, Nat.zero_le _, HL2.out.2.2.1.later b5, HFT.out, hq, fun j e => Nat.le_trans HL2.out.2.2.2.size (hQ j e).1, HL2.out.2.1, HST.out.1, HL2.out.2.2.2.then_below b5⟩)
      clear hq hQ b5 c_0 c_1 c_2 c_3
      go_wp2
      go_loopw [14] (fun s14 wr => ∃ j : Nat, s14 = .int .i64 j ∧ j ≤ K ∧ Law17.Loop w1 p h n q l (T : Int) (k : Int) (L : Int) G (fillL (lst G X k)) lf (.at now none) K j wr) (fun s14 _ => 301 - (intOf s14).toNat)
      case atStart => exact ⟨0, rfl, Nat.zero_le _, H5.out⟩
      case round =>
        obtain ⟨j, rfl, hj, lw, s, Q, QL, -, hm, hf, hc, hQ, hQL, hst, ho⟩ := hrel
        have HNX := Lib.hid (Next_any hc)
        have HMJ := Lib.hid (And.intro hm hf)
        have HCJ := Lib.hid (And.intro hc (And.intro hQ hQL))
        have HOJ := Lib.hid ho
        clear hm hf hc hQ hQL ho
        have hjlt : (j : Int) < 300 := by omega
        by_cases hjK : j = K
        · have HEQ := Lib.hid (show lw = lf ∧ s = .at now none by rw [hjK, Nat.sub_self] at hst; simpa [steps] using hst)
          have HNX2 := Lib.hid (show Calls Tryz.prog 8 #[.pointer (some ⟨q, 0, none⟩)] wr fun e w' => e = .returned (.tuple #[.agg #[.int .i64 0, .int .i64 0, .int .u64 0, .int .u64 0, .int .u64 0], .bool false]) ∧ Below wr.heap.size wr w' from by
            have h := HNX.out
            rw [HEQ.out.2] at h
            exact h)
          clear hst HNX hjK
          go_wp2_with fail
          refine HNX2.out.mono ?_
          rintro e6 w6 ⟨rfl, b6⟩
          have HB6 := Lib.hid (b6.trans ((box_below w6 (.cells #[.int .i64 0, .int .i64 0, .int .u64 0, .int .u64 0, .int .u64 0] 34)).mono b6.size))
          have HM6 := Lib.hid (show Mem (w6.alloc (.cells #[.int .i64 0, .int .i64 0, .int .u64 0, .int .u64 0, .int .u64 0] 34)) p h n lf from HEQ.out.1 ▸ HMJ.out.1.later HB6.out)
          have HF6 := Lib.hid (show BM.Fits lf from HEQ.out.1 ▸ HMJ.out.2)
          have HO6 := Lib.hid (HOJ.out.then_below HB6.out)
          have HCL6 := Lib.hid (HCJ.out.1.later HB6.out)
          clear b6
          obtain ⟨c_0, c_1, c_2, c_3⟩ := plan4 HC1.out HO6.out (by have := HNE.out; omega)
          go_wp2_with fail
          refine (Free_told HR.out HM6.out HF6.out HST.out.2 HFR.out.1).mono ?_
          rintro e7 w7 ⟨A7, c7, rfl, hR7, b7⟩
          have HR7 := Lib.hid hR7
          have HO7 := Lib.hid (HO6.out.then_below b7)
          have HC7 := Lib.hid (HCL6.out.later b7)
          have HE7 := Lib.hid (fun i (hi : i < k) => HO7.out.cell (HE1.out i hi) (show ¬ w.heap.size + 1 = h by have := HNE.out; omega))
          have HP7 := Lib.hid (plan4 HC1.out HO7.out (by have := HNE.out; omega))
          clear hR7 b7 c_0 c_1 c_2 c_3
          have hms : want now X k ≤ k := HWL.out
          have hm64 : want now X k ≤ 64 := by have := HTS.out; omega
          go_wp2
          go_loopw [18] (fun s18 wr => ∃ i : Nat, i ≤ want now X k ∧ s18 = .int .i64 i ∧ wr = w7) (fun s18 _ => want now X k - (intOf s18).toNat)
          case atStart => exact ⟨0, Nat.zero_le _, rfl, rfl⟩
          case round =>
            obtain ⟨i, hi, rfl, rfl⟩ := hrel
            by_cases hlt : i < want now X k
            · obtain ⟨y, hy⟩ : ∃ y, (freeR G now X k)[i]? = some y := ⟨_, List.getElem?_eq_getElem (by rw [HFR.out.1]; exact hlt)⟩
              obtain ⟨b, o, rfl, _, hcell⟩ := int_at HR7.out (i := i) (by rw [HFR.out.1]; exact hlt)
              have d0 := hcell i y hy
              obtain ⟨t, ht, rfl, hX2⟩ := HFR.out.2.1 y (List.mem_of_getElem? hy)
              have d1 := HE7.out t ht
              have hxk := HXI.out t
              obtain ⟨hx0, hx1⟩ := HX.out t
              have hxw : IntKind.u64.wrap (X t + 2) = X t + 2 := by rw [IntKind.wrap_u64]; omega
              have hng : ¬ now < X t + 2 := by omega
              have ht64 : (t : Int) < 64 := by have := HTS.out; omega
              have hil : (i : Int) < (want now X k : Int) := by omega
              clear hcell hy
              go_wp2
              go_roundw
              case rel => exact ⟨i + 1, hlt, by go_num, by first | rfl | trivial⟩
              case measure => simp [intOf]; omega
            · obtain rfl : i = want now X k := by omega
              obtain ⟨dd, hdd⟩ : ∃ dd, dd = k - want now X k := ⟨_, rfl⟩
              have hsub : IntKind.i64.wrap ((k : Int) - (want now X k : Int)) = (dd : Int) := by rw [IntKind.wrap_i64]; have := HTS.out; omega
              have HCT := Lib.hid (show ∀ W, Below wr.heap.size wr W → Calls Tryz.prog 13 #[.pointer (some ⟨q, 0, none⟩)] W fun e w' => e = .returned (.int .i64 (want now X k : Int)) ∧ W = w' from fun W hb => by
                have h := Count_any (HC7.out.later hb)
                rw [HEQ.out.2, cnt_is (fun j => (HX.out j).1)] at h
                exact h)
              have HLN := Lib.hid (show ∀ W, Below wr.heap.size wr W → Calls Tryz.prog 23 #[.pointer (some ⟨l, 0, none⟩)] W fun e w' => e = .returned (.int .i64 (dd : Int)) ∧ W = w' from fun W hb => by
                obtain ⟨S0, h1, -⟩ := (HC7.out.later hb).lim
                rw [HEQ.out.2] at h1
                exact Len_any h1 (by rw [left_is (fun j => (HX.out j).1), hdd]) (by have := HTS.out; omega))
              have hq1 : ((want now X k : Int) == (want now X k : Int)) = true := by simp
              have hq2 : ((dd : Int) == (dd : Int)) = true := by simp
              generalize want now X k = m at hsub HCT hq1 ⊢
              clear hlt hi hdd
              go_wp2
              go_region_held3 (fun W => W.cell? ⟨w.heap.size, 0, none⟩ = some (.int .i64 (T : Int)) ∧ W.cell? ⟨w.heap.size, 1, none⟩ = some (.int .i64 (k : Int)) ∧ W.cell? ⟨w.heap.size, 2, none⟩ = some (.int .i64 (L : Int)) ∧ W.cell? ⟨w.heap.size, 3, none⟩ = some (.int .u64 G))
                ((first | (with_reducible exact HP7.out) | (with_reducible exact HP9.out) | assumption))
                (first
                  | (go_at_call 13; refine (HCT.out _ (Below.refl _ _).drew).mono ?_; rintro e8 w8 ⟨rfl, rfl⟩)
                  | (go_at_call 23; refine (HLN.out _ (Below.refl _ _).drew).mono ?_; rintro e8 w8 ⟨rfl, rfl⟩)
                  | (go_at_call 5; refine (awake_any _).mono ?_; rintro e9 w9 ⟨rfl, b9⟩; have HB9 := Lib.hid (show Below wr.heap.size wr w9 from (Below.refl _ _).drew.trans b9); have HP9 := Lib.hid (plan4 HP7.out (only_below (fun _ => False) HB9.out) id); clear b9))
              go_wp2
              go_ret
              exact ⟨rfl, HB1.out.trans ((HO7.out.then_below HB9.out).below HB1.out.size (fun j e => by have := HNE.out; omega))⟩
        · obtain ⟨d, hd, hst2⟩ := steps_amid (show steps (colA (T : Int) (L : Int)) (colT (T : Int) (L : Int) (fillL (lst G X k))) ((K - (j + 1)) + 1) lw s = some (lf, .at now none) by rw [show K - (j + 1) + 1 = K - j by omega]; exact hst)
          have HD := Lib.hid (And.intro hd hst2)
          have hjK2 : j < K := by omega
          rw [hd] at HNX
          clear hst hd hst2 hjK
          go_wp2_with fail
          refine HNX.out.mono ?_
          rintro e6 w6 ⟨rfl, b6⟩
          simp only [Option.getD_some, Option.isSome_some]
          have HB6 := Lib.hid (b6.trans ((box_below w6 (.cells #[.int .i64 d.1, .int .i64 d.2.1, .int .u64 d.2.2.1, .int .u64 d.2.2.2.1, .int .u64 d.2.2.2.2] 34)).mono b6.size))
          have HM6 := Lib.hid (HMJ.out.1.later HB6.out)
          clear b6
          go_wp2_with fail
          refine (DeedDo.Do_any HM6.out d).mono ?_
          rintro e7 w7 ⟨rfl, g7, m7⟩
          have HO7 := Lib.hid (only_grown (R := fun k => k = h) g7 fun k e => by cases e; rfl)
          have HM7 := Lib.hid m7
          have HC7 := Lib.hid ((HCJ.out.1.later HB6.out).only HO7.out (fun k e z => by have h1 := HCJ.out.2.1 k e; have h2 := HPH.out; omega) (fun k e z => by have h1 := HCJ.out.2.2 k e; have h2 := HPH.out; omega))
          clear g7 m7
          go_wp2_with fail
          refine (Tell_any HC7.out (PoM.fits_found HMJ.out.2 d)).mono ?_
          rintro e8 w8 ⟨rfl, hB⟩
          have H8 := Lib.hid (loop_told HPH.out hjK2 HMJ.out.2 HCJ.out.2.1 HCJ.out.2.2 (Colls.ok HCJ.out.1) HD.out.1 HD.out.2 HOJ.out HB6.out HO7.out HM7.out hB)
          clear hB
          go_wp2
          go_roundw
          case rel => exact ⟨j + 1, by go_num, by omega, H8.out⟩
          case measure => simp [intOf]; omega
theorem walk (x : Int × Int × Int × Int) (zs : List Int) (now : Int) (_ : (Lit.int .i64 x.1).wf = true) (_ : (Lit.int .i64 x.2.1).wf = true) (_ : (Lit.int .i64 x.2.2.1).wf = true) (hg : (Lit.int .u64 x.2.2.2).wf = true) (hz : zs.length = 64) (_ : ∀ z ∈ zs, (Lit.int .u64 z).wf = true) (hnow : (Lit.int .u64 now).wf = true) (w : World) (_ : True) :
    Calls Tryz.prog 4 #[.agg #[.int .i64 x.1, .int .i64 x.2.1, .int .i64 x.2.2.1, .int .u64 x.2.2.2], .agg (zs.map (Value.int .u64)).toArray, .int .u64 now] w fun e w' => e = .returned (.bool true) ∧ Below w.heap.size w w' := by
  obtain ⟨T, S, L, G⟩ := x
  simp only
  cases h : rightB T S L G
  · exact walk_no T S L G now zs h w
  · have hr := right_is h
    have hG := wf_u64 hg
    have hn := wf_u64 hnow
    obtain ⟨a, rfl⟩ := Int.eq_ofNat_of_zero_le (show 0 ≤ T by have := hr.1; omega)
    obtain ⟨b, rfl⟩ := Int.eq_ofNat_of_zero_le (show 0 ≤ S by have := hr.2.2.1; omega)
    obtain ⟨d, rfl⟩ := Int.eq_ofNat_of_zero_le (show 0 ≤ L by have := hr.2.2.2.2.1; omega)
    by_cases hg1 : G = 4294967295
    · exact walk_last a b d G now zs h hG.1 (by simpa using hg1) w
    · have hgb : (G == 4294967295) = false := by simpa using hg1
      by_cases h1 : now < 1
      · exact walk_low a b d G now zs h hG.1 hgb h1 w
      · by_cases h2 : 1099511627776 < now
        · exact walk_high a b d G now zs h hG.1 hgb (by omega) h2 w
        · exact walk_yes a b d G now zs hz h hG.1 (by have := hr.2.2.2.2.2.2; omega) (by omega) (by omega) w
theorem laidOut : laidOutB Tryz.prog = true := by kernel_rfl
theorem own : ownKnob Tryz.prog.godebug = none := by kernel_rfl
theorem door_met (os : Os) (args : Array Value) : laidMetH Tryz.prog Rows.collectFreesRow.laid ((World.doorLaid Tryz.prog 400 os).forCall (fun _ _ => 0) ⟨#[], args, []⟩).memory :=
  laidMetH_of_parts3 (fuel := 8) (laidMet_of_run' 8 (by kernel_rfl) (by kernel_rfl)) (by kernel_rfl) (by kernel_rfl)
set_option maxRecDepth 100000 in
theorem lifted (os : Os) (started : os.Started) (H : Type) (enc : TypeId × Value → H) :
    ReturnsInHanded {} Tryz.checked os 4 .any (fun w args => (Rows.collectFreesSpec.pre enc Tryz.prog Tryz.f4 [] false w args ∧ laidMetH Tryz.prog Rows.collectFreesRow.laid w) ∧ sizedMet enc Tryz.prog Tryz.f4 (OpenSpec.ofChange Rows.collectFreesSpec) false w args) (Rows.collectFreesSpec.post enc Tryz.prog Tryz.f4 false true false false) := by
  refine Frame.liftedLaid (C := Tryz.checked) (fn := Tryz.f4) (tb := 4) own started (by kernel_rfl) Tryz.func4
    (ChangeSpec.witness_shaped (enc := enc) (C := Tryz.checked) (os := os) (X := fun w _ => laidMetH Tryz.prog Rows.collectFreesRow.laid w) false (World.doorLaid Tryz.prog 400 os) #[.agg #[.int .i64 0, .int .i64 0, .int .i64 0, .int .u64 0], .agg #[.int .u64 0, .int .u64 0, .int .u64 0, .int .u64 0, .int .u64 0, .int .u64 0, .int .u64 0, .int .u64 0, .int .u64 0, .int .u64 0, .int .u64 0, .int .u64 0, .int .u64 0, .int .u64 0, .int .u64 0, .int .u64 0, .int .u64 0, .int .u64 0, .int .u64 0, .int .u64 0, .int .u64 0, .int .u64 0, .int .u64 0, .int .u64 0, .int .u64 0, .int .u64 0, .int .u64 0, .int .u64 0, .int .u64 0, .int .u64 0, .int .u64 0, .int .u64 0, .int .u64 0, .int .u64 0, .int .u64 0, .int .u64 0, .int .u64 0, .int .u64 0, .int .u64 0, .int .u64 0, .int .u64 0, .int .u64 0, .int .u64 0, .int .u64 0, .int .u64 0, .int .u64 0, .int .u64 0, .int .u64 0, .int .u64 0, .int .u64 0, .int .u64 0, .int .u64 0, .int .u64 0, .int .u64 0, .int .u64 0, .int .u64 0, .int .u64 0, .int .u64 0, .int .u64 0, .int .u64 0, .int .u64 0, .int .u64 0, .int .u64 0, .int .u64 0], .int .u64 0] 8 rfl (World.shaped_of_RefB (by kernel_rfl) (by kernel_rfl)) (by kernel_rfl) (by kernel_rfl) (by kernel_rfl) (door_met os _))
    rfl rfl Tryz.underlying4 laidOut (by kernel_rfl) (fun ds h => by match ds, h with | [_, _, _], _ => rfl) ?_
  intro W base args ds ps hval0 hA0 hlt hL
  have hval : ∀ (j : Nat) t v, Tryz.f4.params[j]? = some t → args[j]? = some v → Value.okWide Tryz.prog W .any base t v := hval0
  have hA : DataW.TrodAll enc Tryz.prog W 0 (fun _ => true) true Tryz.f4.params.toList args.toList ds ps := hA0
  rw [Tryz.params4] at hA hval
  obtain ⟨v0, vs0, d0, ds0, p0, q0, hargs, rfl, rfl, h0, r0⟩ := trodAll_cons hA
  obtain ⟨v1, vs1, d1, ds1, p1, q1, rfl, rfl, rfl, h1, r1⟩ := trodAll_cons r0
  obtain ⟨v2, vs2, d2, ds2, p2, q2, rfl, rfl, rfl, h2, r2⟩ := trodAll_cons r1
  obtain ⟨rfl, rfl, rfl⟩ := trodAll_nil r2
  obtain rfl : args = #[v0, v1, v2] := by cases args; simp_all
  obtain ⟨x0, rfl, w0_0, w0_1, w0_2, w0_3⟩ := Open.open_four_ints Tryz.underlying24 (by kernel_rfl) (by kernel_rfl) Tryz.underlying3 Tryz.underlying3 Tryz.underlying3 Tryz.underlying22 (hval 0 24 v0 rfl rfl) h0
  obtain ⟨z1, l1, rfl, g1⟩ := Frame.open_int_array Tryz.underlying49 Tryz.underlying22 (by kernel_rfl) (by kernel_rfl) (hval 1 49 v1 rfl rfl) h1
  obtain ⟨a2, rfl, _, _, w2⟩ := open_int Tryz.underlying22 (hval 2 22 v2 rfl rfl) h2
  refine (walk x0 z1 a2 w0_0 w0_1 w0_2 w0_3 l1 g1 w2 W (held hL)).mono fun e W' h => ?_
  exact h

theorem over : Rows.collectFreesRow.holds Tryz.pinned (OpenSpec.ofChange Rows.collectFreesSpec) :=
  OpenClaim.holds_of_wide 4 Tryz.f4 rfl rfl rfl rfl rfl rfl rfl ⟨rfl, rfl, rfl, rfl, rfl⟩ rfl rfl rfl rfl rfl (by kernel_rfl) Tryz.func4 (by kernel_rfl)
    (of_decide_eq_true (by kernel_rfl)) (by unfold Func.isWrapper; first | (rw [if_pos (by decide +kernel)]; kernel_rfl) | (rw [if_neg (by decide +kernel)]; exact ⟨rfl, rfl⟩))
    (fun os started H enc _ => lifted os started H enc)

theorem proved : Rows.CollectFreesCardSaid :=
  Claim7.holds_tied_plain_at .later [] Rows.collectFreesCard.laidKinds true Rows.collectFreesCard.stood.harness Rows.collectFreesCard.stood.looks
    over (fun _ h => by cases h) (by kernel_rfl) (fun _ h => by cases h) collectFrees_row_tie rfl ⟨rfl, rfl⟩ (by kernel_rfl) rfl
    (fun f fn hf hfn => by
      obtain rfl : f = 4 := Option.some.inj ((show Tryz.prog.funcNamed Rows.collectFreesRow.func = some 4 by kernel_rfl).symm.trans hf) |>.symm
      obtain rfl : fn = Tryz.f4 := (Option.some.inj (Tryz.func4.symm.trans hfn)).symm
      exact ⟨by kernel_rfl, fun j t ht => by
        rw [Tryz.params4] at ht
        have hm : t ∈ [24, 49, 22] := by simpa using Array.mem_of_getElem? ht
        have hall : ([24, 49, 22].all fun u => !Tryz.prog.wantsStandIn u) = true := by kernel_rfl
        exact (show Tryz.prog.wantsStandIn t = false by simpa using List.all_eq_true.1 hall t hm)⟩)
    (by kernel_rfl)
#print axioms proved
end Go.Proofs.YtafjokjmogadnaaGreatDoor.CollectFrees
