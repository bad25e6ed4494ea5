/- WakeJust: for every plan that is right, every deadline from 0 to the greatest time, and all threads' words of sleeping, a waker, done alone, makes just the semaphores of those go up, by one, who sleep till a later deadline, and turns no other word (of another plan, or deadline, just the chapter's example is asked); and that example comes out; the arguments read as they did. Condition: the library's listed tables hold what its own text lays in them (tied by the card). -/
import Derived.Test.YtilmobnnccjmgaaDoorWakeAwake
import Derived.Test.YtilmobnnccjmgaaDoorWakeAloneMath
import Derived.Test.YtilmobnnccjmgaaDoorDeedDo
import Derived.Test.YtilmobnnccjmgaaDoorBlankWalks
import Derived.Test.YtilmobnnccjmgaaDoorFour
import Derived.Test.YtilmobnnccjmgaaDoorFrame
import Derived.Test.YtilmobnnccjmgaaDoorEight
import Derived.Test.YtilmobnnccjmgaaDoorFrameLaid
import Derived.Test.YtilmobnnccjmgaaDoorTie
import Derived.Test.YtilmobnnccjmgaaDoorCards
namespace Go.Proofs.YtilmobnnccjmgaaDoor.WakeJust
set_option maxRecDepth 20000
open Go.ChangeShapes Go.WideShapes Go.ChangeAt Go.RowKit CM DM PM WkM BM MM Runs Lay Ints Plan Go.Proofs.YtilmobnnccjmgaaDoor.Task
open Go.Proofs.YtilmobnnccjmgaaDoor.Cells (Mem Does Store_any Load_any Words_any grown_below grown_trans)
open Go.Proofs.YtilmobnnccjmgaaDoor.Law28 (plan4 awake_any wf_u64 wf_i64 ba chain)
open Go.Proofs.YtilmobnnccjmgaaDoor.Wkr (Wakes Wake_any Wake_next Wake_tell)
set_option linter.unusedVariables false
set_option linter.unusedSimpArgs false

theorem held {W : World} (h : laidMetH Tryd.prog Rows.wakeJustRow.laid W) : True := trivial

/-- Both boxes: the plan's, and behind it that of the threads' deadlines. -/
structure Boxes (W : World) (B : Nat) (T S L G : Int) (zs : List Int) : Prop where
  plan : W.cell? ⟨B, 0, none⟩ = some (.int .i64 T) ∧ W.cell? ⟨B, 1, none⟩ = some (.int .i64 S) ∧ W.cell? ⟨B, 2, none⟩ = some (.int .i64 L) ∧ W.cell? ⟨B, 3, none⟩ = some (.int .u64 G)
  pins : ∀ i, i < 8 → W.cell? ⟨B + 1, i, none⟩ = some (.int .i64 (zs.getD i 0))
theorem Boxes.only {W W' : World} {B : Nat} {T S L G : Int} {zs : List Int} {R : Nat → Prop} (h : Boxes W B T S L G zs) (ho : Only R W W') (h0 : ¬ R B) (h1 : ¬ R (B + 1)) : Boxes W' B T S L G zs :=
  ⟨plan4 h.plan ho h0, fun i hi => ho.cell (h.pins i hi) h1⟩
theorem boxes (w : World) (T S L G z0 z1 z2 z3 z4 z5 z6 z7 : Int) : Boxes ((w.alloc (.cells #[.int .i64 T, .int .i64 S, .int .i64 L, .int .u64 G] 24)).alloc (.cells #[.int .i64 z0, .int .i64 z1, .int .i64 z2, .int .i64 z3, .int .i64 z4, .int .i64 z5, .int .i64 z6, .int .i64 z7] 25)) w.heap.size T S L G [z0, z1, z2, z3, z4, z5, z6, z7] := by
  have hb : Below (w.alloc (.cells #[.int .i64 T, .int .i64 S, .int .i64 L, .int .u64 G] 24)).heap.size (w.alloc (.cells #[.int .i64 T, .int .i64 S, .int .i64 L, .int .u64 G] 24)) ((w.alloc (.cells #[.int .i64 T, .int .i64 S, .int .i64 L, .int .u64 G] 24)).alloc (.cells #[.int .i64 z0, .int .i64 z1, .int .i64 z2, .int .i64 z3, .int .i64 z4, .int .i64 z5, .int .i64 z6, .int .i64 z7] 25)) := box_below _ _
  refine ⟨plan4 (box4 w (.int .i64 T) (.int .i64 S) (.int .i64 L) (.int .u64 G) 24) (only_below (fun _ => False) hb) id, fun i hi => ?_⟩
  have h := (cell_heap (new_heap (w.alloc (.cells #[.int .i64 T, .int .i64 S, .int .i64 L, .int .u64 G] 24)) (.cells #[.int .i64 z0, .int .i64 z1, .int .i64 z2, .int .i64 z3, .int .i64 z4, .int .i64 z5, .int .i64 z6, .int .i64 z7] 25)) i).1
  simp only [World.size_alloc] at h
  rw [h]
  match i, hi with
  | 0, _ => rfl
  | 1, _ => rfl
  | 2, _ => rfl
  | 3, _ => rfl
  | 4, _ => rfl
  | 5, _ => rfl
  | 6, _ => rfl
  | 7, _ => rfl
  | i + 8, hi => omega
theorem below2 (w : World) (o1 o2 : Obj) : Below w.heap.size w ((w.alloc o1).alloc o2) := (box_below w o1).trans ((box_below _ o2).mono (by simp))
theorem row_at {w : World} {B b j : Nat} {k : IntKind} {l : List Int} {v : Int} (h : Row w B (some ⟨b, 0, none⟩) (flat (encZ k) l)) (hv : l[j]? = some v) : w.cell? ⟨b, j, none⟩ = some (.int k v) := by
  obtain ⟨b', o', e, _, hc⟩ := int_at h (List.getElem?_eq_some_iff.1 hv).1
  cases e
  simpa using hc j v hv

theorem walk_no (T S L G dl z0 z1 z2 z3 z4 z5 z6 z7 : Int) (hr : rightB T S L G = false) (w : World) : Calls Tryd.prog 3 #[.agg #[.int .i64 T, .int .i64 S, .int .i64 L, .int .u64 G], .int .i64 dl, .agg #[.int .i64 z0, .int .i64 z1, .int .i64 z2, .int .i64 z3, .int .i64 z4, .int .i64 z5, .int .i64 z6, .int .i64 z7]] w fun e w' => e = .returned (.bool true) ∧ Below w.heap.size w w' := by
  have HR := Lib.hid hr
  have HB0 := Lib.hid (below2 w (.cells #[.int .i64 T, .int .i64 S, .int .i64 L, .int .u64 G] 24) (.cells #[.int .i64 z0, .int .i64 z1, .int .i64 z2, .int .i64 z3, .int .i64 z4, .int .i64 z5, .int .i64 z6, .int .i64 z7] 25))
  have HC := Lib.hid (boxes w T S L G z0 z1 z2 z3 z4 z5 z6 z7)
  clear hr
  go_enter Tryd.func3, Tryd.ntmps3
  go_wp2_with fail
  refine (awake_any _).mono ?_
  rintro e w1 ⟨rfl, b1⟩
  have HB1 := Lib.hid (HB0.out.trans (b1.mono HB0.out.size))
  obtain ⟨c_0, c_1, c_2, c_3⟩ := (HC.out.only (only_below (fun _ => False) b1) id id).plan
  clear b1
  go_wp2_with fail
  refine (Blank.Make_no HR.out _).mono ?_
  rintro e w2 ⟨rfl, b2⟩
  have HB2 := Lib.hid (HB1.out.trans (b2.mono HB1.out.size))
  clear b2 c_0 c_1 c_2 c_3
  go_wp2_with fail
  refine (awake_any _).mono ?_
  rintro e w4 ⟨rfl, b4⟩
  go_wp2
  go_ret
  exact ⟨rfl, HB2.out.trans (b4.mono HB2.out.size)⟩
/-- A deadline that there is not. -/
theorem walk_low (T S L : Nat) (G dl z0 z1 z2 z3 z4 z5 z6 z7 : Int) (hr : rightB (T : Int) (S : Int) (L : Int) G = true) (hG : 0 ≤ G) (hd : dl < 0) (w : World) : Calls Tryd.prog 3 #[.agg #[.int .i64 (T : Int), .int .i64 (S : Int), .int .i64 (L : Int), .int .u64 G], .int .i64 dl, .agg #[.int .i64 z0, .int .i64 z1, .int .i64 z2, .int .i64 z3, .int .i64 z4, .int .i64 z5, .int .i64 z6, .int .i64 z7]] w fun e w' => e = .returned (.bool true) ∧ Below w.heap.size w w' := by
  have HC := Lib.hid (boxes w (T : Int) (S : Int) (L : Int) G z0 z1 z2 z3 z4 z5 z6 z7)
  have HB0 := Lib.hid (below2 w (.cells #[.int .i64 (T : Int), .int .i64 (S : Int), .int .i64 (L : Int), .int .u64 G] 24) (.cells #[.int .i64 z0, .int .i64 z1, .int .i64 z2, .int .i64 z3, .int .i64 z4, .int .i64 z5, .int .i64 z6, .int .i64 z7] 25))
  have HR := Lib.hid hr
  have HG := Lib.hid hG
  clear hr hG
  go_enter Tryd.func3, Tryd.ntmps3
  go_wp2_with fail
  refine (awake_any _).mono ?_
  rintro e0 w0 ⟨rfl, b0⟩
  have HB1 := Lib.hid (HB0.out.trans (b0.mono HB0.out.size))
  obtain ⟨c_0, c_1, c_2, c_3⟩ := (HC.out.only (only_below (fun _ => False) b0) id id).plan
  clear b0
  go_wp2_with fail
  refine (Blank.Make_yes HR.out HG.out _).mono ?_
  rintro e1 w1 ⟨pc, h, rfl, m1, p1, h1, b1⟩
  have HB2 := Lib.hid (HB1.out.trans (b1.mono HB1.out.size))
  clear m1 p1 h1 b1 c_0 c_1 c_2 c_3
  by_cases h0 : dl < 0
  · go_wp2_with fail
    refine (awake_any _).mono ?_
    rintro e w4 ⟨rfl, b4⟩
    go_wp2
    go_ret
    exact ⟨rfl, HB2.out.trans (b4.mono HB2.out.size)⟩
  · have h1 : 1152921504606846976 < dl := by omega
    go_wp2_with fail
    refine (awake_any _).mono ?_
    rintro e w4 ⟨rfl, b4⟩
    go_wp2
    go_ret
    exact ⟨rfl, HB2.out.trans (b4.mono HB2.out.size)⟩
theorem walk_high (T S L : Nat) (G dl z0 z1 z2 z3 z4 z5 z6 z7 : Int) (hr : rightB (T : Int) (S : Int) (L : Int) G = true) (hG : 0 ≤ G) (hd : 1152921504606846976 < dl) (w : World) : Calls Tryd.prog 3 #[.agg #[.int .i64 (T : Int), .int .i64 (S : Int), .int .i64 (L : Int), .int .u64 G], .int .i64 dl, .agg #[.int .i64 z0, .int .i64 z1, .int .i64 z2, .int .i64 z3, .int .i64 z4, .int .i64 z5, .int .i64 z6, .int .i64 z7]] w fun e w' => e = .returned (.bool true) ∧ Below w.heap.size w w' := by
  have HC := Lib.hid (boxes w (T : Int) (S : Int) (L : Int) G z0 z1 z2 z3 z4 z5 z6 z7)
  have HB0 := Lib.hid (below2 w (.cells #[.int .i64 (T : Int), .int .i64 (S : Int), .int .i64 (L : Int), .int .u64 G] 24) (.cells #[.int .i64 z0, .int .i64 z1, .int .i64 z2, .int .i64 z3, .int .i64 z4, .int .i64 z5, .int .i64 z6, .int .i64 z7] 25))
  have HR := Lib.hid hr
  have HG := Lib.hid hG
  clear hr hG
  go_enter Tryd.func3, Tryd.ntmps3
  go_wp2_with fail
  refine (awake_any _).mono ?_
  rintro e0 w0 ⟨rfl, b0⟩
  have HB1 := Lib.hid (HB0.out.trans (b0.mono HB0.out.size))
  obtain ⟨c_0, c_1, c_2, c_3⟩ := (HC.out.only (only_below (fun _ => False) b0) id id).plan
  clear b0
  go_wp2_with fail
  refine (Blank.Make_yes HR.out HG.out _).mono ?_
  rintro e1 w1 ⟨pc, h, rfl, m1, p1, h1, b1⟩
  have HB2 := Lib.hid (HB1.out.trans (b1.mono HB1.out.size))
  clear m1 p1 h1 b1 c_0 c_1 c_2 c_3
  by_cases h0 : dl < 0
  · go_wp2_with fail
    refine (awake_any _).mono ?_
    rintro e w4 ⟨rfl, b4⟩
    go_wp2
    go_ret
    exact ⟨rfl, HB2.out.trans (b4.mono HB2.out.size)⟩
  · have h1 : 1152921504606846976 < dl := by omega
    go_wp2_with fail
    refine (awake_any _).mono ?_
    rintro e w4 ⟨rfl, b4⟩
    go_wp2
    go_ret
    exact ⟨rfl, HB2.out.trans (b4.mono HB2.out.size)⟩

/-- Amid the threads' words. -/
def Laid (w3 : World) (pc h n : Nat) (T : Int) (l0 zs : List Int) (k : Nat) (wr : World) : Prop := Mem wr pc h n (layS T l0 zs k) ∧ Only (fun b => b = h) w3 wr
/-- Amid the deeds. -/
def Amid (w5 : World) (pc h n p : Nat) (T S L G dl : Int) (K : Nat) (lf : List Int) (sf : WkM.St) (j : Nat) (wr : World) : Prop :=
  ∃ l s, j ≤ K ∧ Mem wr pc h n l ∧ BM.Fits l ∧ Wakes wr p T S L G dl s ∧ steps (wakeA T) (wakeT T dl) (K - j) l s = some (lf, sf) ∧ Only (fun k => k = h ∨ k = p) w5 wr
/-- Amid the row that is turned as the document says. -/
def Upto (w7 : World) (bw n : Nat) (T dl : Int) (l1 zs : List Int) (k : Nat) (wr : World) : Prop := wr.ownsRow bw 22 1 (.slice (some ⟨bw, 0, none⟩) n n) n (flat (encZ .u64) (semL T dl l1 zs k)) ∧ Only (fun b => b = bw) w7 wr
theorem start5 {w1 : World} {B b k : Nat} {T S L G z : Int} (h : (w1.cell? ⟨B, 0, none⟩ = some (.int .i64 T) ∧ w1.cell? ⟨B, 1, none⟩ = some (.int .i64 S) ∧ w1.cell? ⟨B, 2, none⟩ = some (.int .i64 L) ∧ w1.cell? ⟨B, 3, none⟩ = some (.int .u64 G) ∧ w1.cell? ⟨b, k, none⟩ = some (.int .i64 z))) : (fun w1 : World => w1.cell? ⟨B, 0, none⟩ = some (.int .i64 T) ∧ w1.cell? ⟨B, 1, none⟩ = some (.int .i64 S) ∧ w1.cell? ⟨B, 2, none⟩ = some (.int .i64 L) ∧ w1.cell? ⟨B, 3, none⟩ = some (.int .u64 G) ∧ w1.cell? ⟨b, k, none⟩ = some (.int .i64 z)) w1.drew := h
theorem keep5 {w1 w2 : World} {B b k : Nat} {r : Option Nat} {T S L G z : Int} (hS : w1.cell? ⟨B, 0, none⟩ = some (.int .i64 T) ∧ w1.cell? ⟨B, 1, none⟩ = some (.int .i64 S) ∧ w1.cell? ⟨B, 2, none⟩ = some (.int .i64 L) ∧ w1.cell? ⟨B, 3, none⟩ = some (.int .u64 G) ∧ w1.cell? ⟨b, k, none⟩ = some (.int .i64 z)) (hg : w1.grownBy w2 r) (hr : some B ≠ r ∧ some b ≠ r) : w2.cell? ⟨B, 0, none⟩ = some (.int .i64 T) ∧ w2.cell? ⟨B, 1, none⟩ = some (.int .i64 S) ∧ w2.cell? ⟨B, 2, none⟩ = some (.int .i64 L) ∧ w2.cell? ⟨B, 3, none⟩ = some (.int .u64 G) ∧ w2.cell? ⟨b, k, none⟩ = some (.int .i64 z) :=
  ⟨hg.cell hS.1 hr.1, hg.cell hS.2.1 hr.1, hg.cell hS.2.2.1 hr.1, hg.cell hS.2.2.2.1 hr.1, hg.cell hS.2.2.2.2 hr.2⟩
theorem top_of {T : Nat} (hT : T ≤ 8) : ofI (T : Int) 2 (T : Int) = ((4 + 3 * T : Nat) : Int) := by unfold ofI wrap64; omega

set_option maxHeartbeats 2000000 in
theorem walk_yes (T S L : Nat) (G dl z0 z1 z2 z3 z4 z5 z6 z7 : Int) (hr : rightB (T : Int) (S : Int) (L : Int) G = true) (hG : 0 ≤ G) (hd0 : 0 ≤ dl) (hd1 : dl ≤ 1152921504606846976) (w : World) :
    Calls Tryd.prog 3 #[.agg #[.int .i64 (T : Int), .int .i64 (S : Int), .int .i64 (L : Int), .int .u64 G], .int .i64 dl, .agg #[.int .i64 z0, .int .i64 z1, .int .i64 z2, .int .i64 z3, .int .i64 z4, .int .i64 z5, .int .i64 z6, .int .i64 z7]] w fun e w' => e = .returned (.bool true) ∧ Below w.heap.size w w' := by
  obtain ⟨t1, t8, s1, s64, l1, l8⟩ := Blank.right_nat hr
  have HC := Lib.hid (boxes w (T : Int) (S : Int) (L : Int) G z0 z1 z2 z3 z4 z5 z6 z7)
  have HB0 := Lib.hid (below2 w (.cells #[.int .i64 (T : Int), .int .i64 (S : Int), .int .i64 (L : Int), .int .u64 G] 24) (.cells #[.int .i64 z0, .int .i64 z1, .int .i64 z2, .int .i64 z3, .int .i64 z4, .int .i64 z5, .int .i64 z6, .int .i64 z7] 25))
  obtain ⟨zs, hzs⟩ : ∃ zs, zs = [z0, z1, z2, z3, z4, z5, z6, z7] := ⟨_, rfl⟩
  rw [← hzs] at HC
  clear hzs
  obtain ⟨l0, hl0⟩ : ∃ l0, l0 = layL (wordsN T S L) (T : Int) (S : Int) (L : Int) (SM.stI G 0) S := ⟨_, rfl⟩
  have hlen : l0.length = wordsN T S L := by rw [hl0]; exact lay_length _ _ _ _ _ _
  have hF0 : BM.Fits l0 := by rw [hl0]; exact fits_lay _ _ _ ⟨SM.stI_lo _ _, SM.stI_hi _ _⟩ (by omega) _
  have hz0 : ∀ j, j < T → getI l0 (ofI (T : Int) 1 (j : Int)) = 0 := fun j hj => by
    have h1 := of_nat (S := S) (L := L) (n := 1) t8 (by omega) hj
    have h2 : ofI (T : Int) 1 (j : Int) = ((4 + 1 * T + j : Nat) : Int) := by simpa using h1.1
    rw [h2, hl0]
    exact lay_low (SM.stI G 0) t8 s64 l8 (by omega) (by omega) h1.2.2.1 S (Nat.le_refl _)
  obtain ⟨K, hK, hst, hend⟩ := wake_alone (T := T) (S := S) (L := L) (l := l0) (zs := zs) (dl := dl) t8 hlen hz0 hd0 hd1
  obtain ⟨la, hla⟩ : ∃ la, la = layS (T : Int) l0 zs T := ⟨_, rfl⟩
  rw [← hla] at hst
  have HF1 := Lib.hid (show BM.Fits la by rw [hla]; exact layS_fits _ hF0 _)
  have HLA := Lib.hid hla
  have HL0 := Lib.hid hl0
  have HLEN := Lib.hid (show la.length = wordsN T S L by rw [hla, layS_length]; exact hlen)
  have HKK := Lib.hid hK
  have HRUN := Lib.hid hst
  have HEND := Lib.hid hend
  have HR := Lib.hid hr
  have HG := Lib.hid hG
  have HT8 := Lib.hid t8
  have HWN := Lib.hid (show 4 + 3 * T < wordsN T S L by unfold wordsN; omega)
  have HSEM := Lib.hid (show ∀ k, k < T → ofI (T : Int) 2 (k : Int) = ((4 + 2 * T + k : Nat) : Int) ∧ 4 + 2 * T + k < wordsN T S L from fun k hk => by
    have h1 := of_nat (S := S) (L := L) (n := 2) t8 (by omega) hk
    exact ⟨by simpa using h1.1, h1.2.2.2⟩)
  clear hr hG hla hlen hF0 hl0 hz0 hK hst hend t1 s1 s64 l1 l8
  go_enter Tryd.func3, Tryd.ntmps3
  go_wp2_with fail
  refine (awake_any _).mono ?_
  rintro e0 w0 ⟨rfl, b0⟩
  have HB1 := Lib.hid (HB0.out.trans (b0.mono HB0.out.size))
  have HC1 := Lib.hid (HC.out.only (only_below (fun _ => False) b0) id id)
  have HSZ := Lib.hid (show w.heap.size + 2 ≤ w0.heap.size by have := b0.size; simp at this; omega)
  obtain ⟨c_0, c_1, c_2, c_3⟩ := HC1.out.plan
  clear b0
  go_wp2_with fail
  refine (Blank.Make_yes HR.out HG.out _).mono ?_
  rintro e1 w1 ⟨pc, h, rfl, m1, p1, h1, b1⟩
  obtain ⟨n, hn⟩ : ∃ n, n = wordsN T S L := ⟨_, rfl⟩
  rw [← hn] at m1 HLEN HWN HSEM
  rw [hn, ← HL0.out, ← hn] at m1
  have HNE := Lib.hid (show w.heap.size + 2 ≤ pc ∧ w.heap.size + 2 ≤ h by have := HSZ.out; omega)
  have HB2 := Lib.hid (HB1.out.trans (b1.mono HB1.out.size))
  have HC2 := Lib.hid (HC1.out.only (only_below (fun _ => False) b1) id id)
  have H3 := Lib.hid (show Laid w1 pc h n (T : Int) l0 zs 0 w1 from ⟨m1, Only.refl _ _⟩)
  have HD := Lib.hid (show 0 ≤ dl ∧ dl ≤ 1152921504606846976 from ⟨hd0, hd1⟩)
  have hdn : ¬ dl < 0 := by omega
  have hdm : ¬ 1152921504606846976 < dl := by omega
  clear m1 p1 h1 b1 hn c_0 c_1 c_2 c_3 hd0 hd1 HL0 HC1 HSZ
  go_wp2
  go_loopw [9] (fun iv wr => ∃ k : Nat, k ≤ T ∧ iv = .int .i64 k ∧ Laid w1 pc h n (T : Int) l0 zs k wr) (fun iv _ => T - (intOf iv).toNat)
  case atStart => exact ⟨0, Nat.zero_le _, rfl, H3.out⟩
  case round =>
    obtain ⟨k, hk, rfl, hm, ho⟩ := hrel
    have HMK := Lib.hid hm
    have HOK := Lib.hid ho
    have HCK := Lib.hid (HC2.out.only ho (by have := HNE.out; omega) (by have := HNE.out; omega))
    clear hm ho
    obtain ⟨c_0, c_1, c_2, c_3⟩ := HCK.out.plan
    by_cases hlt : k < T
    · have hk8 : (k : Int) < 8 := by have := HT8.out; omega
      obtain ⟨z, hz⟩ : ∃ z, z = zs.getD k 0 := ⟨_, rfl⟩
      have c_4 := HCK.out.pins k (by omega)
      rw [← hz] at c_4
      by_cases hzz : 0 ≤ z ∧ z ≤ 1152921504606846977
      · have hz1 := hzz.1
        have hz2 := hzz.2
        have hwv : IntKind.u64.wrap (IntKind.u64.wrap z + 1) = z + 1 := by simp only [IntKind.wrap_u64]; omega
        have hls := layS_yes (T := (T : Int)) (l := l0) (zs := zs) (k := k) (by rw [← hz]; exact hzz)
        rw [← hz] at hls
        have HST := Lib.hid fun (w2 : World) (hM : Mem w2 pc h n (layS (T : Int) l0 zs k)) => Store_any hM (ofI (T : Int) 1 (k : Int)) (z + 1)
        rw [← hls, ← hwv] at HST
        generalize getI (layS (T : Int) l0 zs k) (ofI (T : Int) 1 (k : Int)) = old at HST
        have HPN := Lib.hid fun W : World => Plan.Sleep_any (T : Int) (S : Int) (L : Int) G (k : Int) W
        generalize ofI (T : Int) 1 (k : Int) = pl at HST HPN
        have HS0 := Lib.hid (start5 ⟨c_0, c_1, c_2, c_3, c_4⟩)
        have NE := Lib.hid (show some w.heap.size ≠ some h ∧ some (w.heap.size + 1) ≠ some h by have := HNE.out; simp; omega)
        clear hz hzz hls hwv
        go_wp2
        go_region_held3 (fun W => W.cell? ⟨w.heap.size, 0, none⟩ = some (.int .i64 (T : Int)) ∧ W.cell? ⟨w.heap.size, 1, none⟩ = some (.int .i64 (S : Int)) ∧ W.cell? ⟨w.heap.size, 2, none⟩ = some (.int .i64 (L : Int)) ∧ W.cell? ⟨w.heap.size, 3, none⟩ = some (.int .u64 G) ∧ W.cell? ⟨w.heap.size + 1, k, none⟩ = some (.int .i64 z))
          ((first | exact HS0.out | exact keep5 (by assumption) (by assumption) NE.out))
          (first
            | (go_at_call 7; refine (HPN.out _).mono ?_; rintro e4 w4 ⟨rfl, hb⟩; have hg := grown_below (some h) hb)
            | (refine (HST.out _ ((HMK.out.later (Below.refl _ _).drew).later hb)).mono ?_; rintro e5 w5 ⟨rfl, hg, hm⟩))
        have HLS := Lib.hid (show Laid w1 pc h n (T : Int) l0 zs (k + 1) w5 from ⟨hm, HOK.out.trans (((only_drew wr (fun b => b = h)).then_below hb).trans (only_grown (R := fun b => b = h) hg fun k e => by cases e; rfl))⟩)
        clear hg hm hb c_0 c_1 c_2 c_3 c_4
        go_wp2
        go_roundw
        case rel => exact ⟨k + 1, by omega, by go_num, HLS.out⟩
        case measure => simp [intOf]; omega
      · have HLS := Lib.hid (show Laid w1 pc h n (T : Int) l0 zs (k + 1) wr from ⟨by rw [layS_no (by rw [← hz]; exact hzz)]; exact HMK.out, HOK.out⟩)
        by_cases hz1 : 0 ≤ z
        · have hz2 : ¬ z ≤ 1152921504606846977 := fun q => hzz ⟨hz1, q⟩
          clear hzz hz
          go_wp2
          go_roundw
          case rel => exact ⟨k + 1, by omega, by go_num, HLS.out⟩
          case measure => simp [intOf]; omega
        · clear hzz hz
          go_wp2
          go_roundw
          case rel => exact ⟨k + 1, by omega, by go_num, HLS.out⟩
          case measure => simp [intOf]; omega
    · have hkT : T = k := by omega
      subst hkT
      rw [← HLA.out] at HMK
      have HLT := Lib.hid HMK.out.lt
      have HW := Lib.hid (Words_any HMK.out)
      obtain ⟨bw, hbw⟩ : ∃ bw, bw = wr.heap.size := ⟨_, rfl⟩
      unfold Cells.Told at HW
      go_wp2_with fail
      refine HW.out.mono ?_
      rintro e4 w4 ⟨rfl, ow, b4⟩
      rw [← hbw] at ow ⊢
      have HOW := Lib.hid ow
      have HM4 := Lib.hid (HMK.out.later b4)
      have HO4 := Lib.hid (HOK.out.then_below b4)
      have HBW := Lib.hid (show bw < w4.heap.size ∧ pc < bw ∧ h < bw ∧ w.heap.size + 1 < bw from ⟨(ow.lt bw rfl).2, by rw [hbw]; exact HLT.out.1, by rw [hbw]; exact HLT.out.2, by have := HNE.out; have := HLT.out; omega⟩)
      have HC4 := Lib.hid (HC2.out.only HO4.out (by have := HNE.out; omega) (by have := HNE.out; omega))
      have HB4 := Lib.hid (HB2.out.trans (HO4.out.below HB2.out.size (fun k e => by subst e; have := HNE.out; omega)))
      clear ow b4 hbw c_0 c_1 c_2 c_3 HMK HOK HCK HLT HW H3 HC2 HB2 HO4
      obtain ⟨c_0, c_1, c_2, c_3⟩ := HC4.out.plan
      have HTP := Lib.hid fun W => Plan.Sem_any (T : Int) (S : Int) (L : Int) G (T : Int) W
      rw [top_of HT8.out] at HTP
      obtain ⟨tp, htp⟩ : ∃ tp, tp = 4 + 3 * T := ⟨_, rfl⟩
      rw [← htp] at HTP HWN
      have hnt : ¬ (n : Int) ≤ (tp : Int) := by have := HWN.out; omega
      clear htp
      go_wp2_with fail
      refine (HTP.out _).mono ?_
      rintro e5 w5 ⟨rfl, b5⟩
      have HM5 := Lib.hid (HM4.out.later b5)
      have HC5 := Lib.hid (HC4.out.only (only_below (fun _ => False) b5) id id)
      have HB5 := Lib.hid (chain HB4.out b5)
      have HOW5 := Lib.hid (own_later HOW.out b5)
      have HBW5 := Lib.hid (show bw < w5.heap.size ∧ pc < bw ∧ h < bw ∧ w.heap.size + 1 < bw from by have h1 := HBW.out; have h2 := b5.size; omega)
      clear b5 c_0 c_1 c_2 c_3 HM4 HC4 HB4 HOW HBW HTP
      obtain ⟨c_0, c_1, c_2, c_3⟩ := HC5.out.plan
      go_wp2_with fail
      refine (Wake_any (T := (T : Int)) (by have := HT8.out; omega) (S : Int) (L : Int) G dl _).mono ?_
      rintro e6 w6 ⟨p, rfl, p6, hp6, b6⟩
      have HP := Lib.hid (show bw < p ∧ p < w6.heap.size by have := HBW5.out; have := p6.lt; omega)
      have HM6 := Lib.hid (HM5.out.later b6)
      have HC6 := Lib.hid (HC5.out.only (only_below (fun _ => False) b6) id id)
      have HB6 := Lib.hid (chain HB5.out b6)
      have HOW6 := Lib.hid (own_later HOW5.out b6)
      have HBW := Lib.hid (show pc < bw ∧ h < bw ∧ w.heap.size + 1 < bw from HBW5.out.2)
      obtain ⟨lf, hlf⟩ : ∃ lf, lf = semL (T : Int) dl la zs T := ⟨_, rfl⟩
      rw [← hlf] at HRUN
      have HLF := Lib.hid hlf
      obtain ⟨sf, hsf⟩ : ∃ sf : WkM.St, sf = ⟨(T : Int), false⟩ := ⟨_, rfl⟩
      rw [← hsf] at HRUN HEND
      have H6 := Lib.hid (show Amid w6 pc h n p (T : Int) (S : Int) (L : Int) G dl K lf sf 0 w6 from ⟨_, _, Nat.zero_le _, HM6.out, HF1.out, p6, HRUN.out, Only.refl _ _⟩)
      clear p6 hp6 b6 hlf hsf c_0 c_1 c_2 c_3 HM5 HC5 HB5 HOW5 HBW5 HM6 HRUN
      go_wp2
      go_loopw [12] (fun iv wr => ∃ j : Nat, iv = .int .i64 j ∧ Amid w6 pc h n p (T : Int) (S : Int) (L : Int) G dl K lf sf j wr) (fun iv _ => 30 - (intOf iv).toNat)
      case atStart => exact ⟨0, rfl, H6.out⟩
      case round =>
        obtain ⟨j, rfl, mj, s, hj, hm, hf, hp, ha, ho⟩ := hrel
        have HMJ := Lib.hid hm
        have HFJ := Lib.hid hf
        have HPJ := Lib.hid hp
        have HAJ := Lib.hid ha
        have HOJ := Lib.hid ho
        have hj30 : (j : Int) < 30 := by have := HKK.out; omega
        have HNX := Lib.hid (Wake_next hp)
        unfold Wkr.Told Wkr.ToldD at HNX
        clear hm hf hp ha ho
        cases hx : wakeA (T : Int) s with
        | none =>
          have HE := Lib.hid (show mj = lf ∧ s = sf by
            have h1 := HAJ.out
            cases hkj : K - j with
            | zero => rw [hkj] at h1; simp only [steps, Option.some.injEq, Prod.mk.injEq] at h1; exact h1
            | succ k => rw [hkj] at h1; obtain ⟨d, h2, -⟩ := steps_amid h1; rw [hx] at h2; cases h2)
          obtain ⟨rfl, rfl⟩ := HE.out
          rw [hx] at HNX
          clear hx HE
          go_wp2_with fail
          refine HNX.out.mono ?_
          rintro e7 w7 ⟨rfl, b7⟩
          simp only [Option.getD_none, Option.isSome_none]
          have hb7 := chain b7 (ba w7 (.cells #[.int .i64 0, .int .i64 0, .int .u64 0, .int .u64 0, .int .u64 0] 38))
          have HM7 := Lib.hid (HMJ.out.later hb7)
          have HP7 := Lib.hid (HPJ.out.later hb7)
          have HO7 := Lib.hid (HOJ.out.then_below hb7)
          have HC7 := Lib.hid (HC6.out.only HO7.out (by have := HBW.out; have := HP.out; have := HNE.out; omega) (by have := HBW.out; have := HP.out; have := HNE.out; omega))
          have HB7 := Lib.hid (HB6.out.trans (HO7.out.below HB6.out.size (fun k e => by have := HBW.out; have := HP.out; have := HNE.out; omega)))
          have HOW7 := Lib.hid (HO7.out.own HOW6.out (fun k e => by cases e; show ¬ (bw = h ∨ bw = p); have := HBW.out; have := HP.out; omega))
          clear b7 hb7 HMJ HFJ HPJ HAJ HOJ HNX HC6 HB6 HOW6 H6 HKK HF1 HR HG HC HB0 HLA HWN
          go_wp2_with fail
          generalize w7.alloc (.cells #[.int .i64 0, .int .i64 0, .int .u64 0, .int .u64 0, .int .u64 0] 38) = w8 at HM7 HP7 HC7 HB7 HOW7 ⊢
          have H8 := Lib.hid (show Upto w8 bw n (T : Int) dl la zs 0 w8 from ⟨HOW7.out, Only.refl _ _⟩)
          have HSL := Lib.hid (show ∀ k, (semL (T : Int) dl la zs k).length = n from fun k => by rw [semL_length]; exact HLEN.out)
          clear HO7 HOW7
          go_loopw [15] (fun iv wr => ∃ k : Nat, k ≤ T ∧ iv = .int .i64 k ∧ Upto w8 bw n (T : Int) dl la zs k wr) (fun iv _ => T - (intOf iv).toNat)
          case atStart => exact ⟨0, Nat.zero_le _, rfl, H8.out⟩
          case round =>
            obtain ⟨k, hk, rfl, ho, hon⟩ := hrel
            have HOK := Lib.hid ho
            have HNK := Lib.hid hon
            have HCK := Lib.hid (HC7.out.only hon (by have := HBW.out; omega) (by have := HBW.out; omega))
            clear ho hon
            obtain ⟨c_0, c_1, c_2, c_3⟩ := HCK.out.plan
            by_cases hlt : k < T
            · have hk8 : (k : Int) < 8 := by have := HT8.out; omega
              obtain ⟨z, hz⟩ : ∃ z, z = zs.getD k 0 := ⟨_, rfl⟩
              have c_4 := HCK.out.pins k (by omega)
              rw [← hz] at c_4
              by_cases hzz : dl < z ∧ z ≤ 1152921504606846977
              · have hz1 := hzz.1
                have hz2 := hzz.2
                obtain ⟨hq1, hq2⟩ := HSEM.out k hlt
                obtain ⟨q, hq⟩ : ∃ q, q = 4 + 2 * T + k := ⟨_, rfl⟩
                rw [← hq] at hq1 hq2
                have HPN := Lib.hid fun W : World => Plan.Sem_any (T : Int) (S : Int) (L : Int) G (k : Int) W
                obtain ⟨v, hv⟩ : ∃ v, (semL (T : Int) dl la zs k)[q]? = some v := ⟨_, List.getElem?_eq_getElem (by rw [HSL.out]; exact hq2)⟩
                have hls := semL_yes (T := (T : Int)) (dl := dl) (l := la) (zs := zs) (k := k) (by rw [← hz]; exact decide_eq_true hzz)
                obtain ⟨v2, hv2⟩ : ∃ v2, v2 = (v + 1) % 18446744073709551616 := ⟨_, rfl⟩
                have HSET := Lib.hid (show semL (T : Int) dl la zs (k + 1) = (semL (T : Int) dl la zs k).set q v2 by
                  rw [hls, hq1]
                  unfold addI
                  rw [getI_some hv, setI_in (by rw [HSL.out]; exact hq2), hv2])
                rw [hq1] at HPN
                have hwv : IntKind.u64.wrap (v + 1) = v2 := by rw [hv2, IntKind.wrap_u64]
                have hqn : (q : Int) < (n : Int) := Int.ofNat_lt.2 hq2
                have HV := Lib.hid hv
                clear hz hzz hq hq1 hq2 hls hv2 hv
                go_wp2_with fail
                refine (HPN.out _).mono ?_
                rintro e9 w9 ⟨rfl, b9⟩
                have HO9 := Lib.hid (own_later HOK.out b9)
                obtain ⟨d_0, d_1⟩ := own_int_at HO9.out (HSL.out k).symm HV.out
                have HLS := Lib.hid (show Upto w8 bw n (T : Int) dl la zs (k + 1) (w9.setCell ⟨bw, q, none⟩ (.int .u64 v2)) from ⟨by rw [HSET.out]; exact own_int_set HO9.out q v2, (HNK.out.then_below b9).trans (only_setCell (R := fun b => b = bw) w9 (p := ⟨bw, q, none⟩) rfl (.int .u64 v2))⟩)
                clear b9 c_0 c_1 c_2 c_3 c_4
                go_wp2
                go_roundw
                case rel => exact ⟨k + 1, by omega, by go_num, HLS.out⟩
                case measure => simp [intOf]; omega
              · have HLS := Lib.hid (show Upto w8 bw n (T : Int) dl la zs (k + 1) wr from ⟨by rw [semL_no (by rw [← hz]; exact decide_eq_false hzz)]; exact HOK.out, HNK.out⟩)
                by_cases hz1 : dl < z
                · have hz2 : ¬ z ≤ 1152921504606846977 := fun q => hzz ⟨hz1, q⟩
                  clear hzz hz
                  go_wp2
                  go_roundw
                  case rel => exact ⟨k + 1, by omega, by go_num, HLS.out⟩
                  case measure => simp [intOf]; omega
                · clear hzz hz
                  go_wp2
                  go_roundw
                  case rel => exact ⟨k + 1, by omega, by go_num, HLS.out⟩
                  case measure => simp [intOf]; omega
            · have hkT : T = k := by omega
              subst hkT
              rw [← HLF.out] at HOK
              have HMF := Lib.hid (show Mem wr pc h n _ from ⟨HM7.out.1, HM7.out.2.1, HM7.out.2.2.1, HNK.out.cell HM7.out.box (show ¬ pc = bw by have := HBW.out; omega), HNK.out.own HM7.out.own (fun k e => by cases e; show ¬ h = bw; have := HBW.out; omega)⟩)
              have HPF := Lib.hid (HP7.out.only HNK.out (show ¬ p = bw by have := HP.out; omega))
              have HBF := Lib.hid (HB7.out.trans (HNK.out.below HB7.out.size (fun k e => by subst e; have := HBW.out; omega)))
              have HW := Lib.hid (Words_any HMF.out)
              have hln := HMF.out.len
              have hn3 : n ≤ 4096 := HMF.out.most
              have HLN := Lib.hid hln
              obtain ⟨bn, hbn⟩ : ∃ bn, bn = wr.heap.size := ⟨_, rfl⟩
              unfold Cells.Told at HW
              rw [← hbn] at HW
              have hnn : ((n : Int) != (n : Int)) = false := by simp
              clear hln HM7 HP7 HB7 HC7 HNK H8 HMF HSEM
              go_wp2_with fail
              refine HW.out.mono ?_
              rintro e9 w9 ⟨rfl, on, b9⟩
              rw [hbn] at b9
              have HRN := Lib.hid (Row.of_own on)
              have HRO := Lib.hid (Row.of_own (own_later HOK.out b9))
              have HPN := Lib.hid (HPF.out.later b9)
              have HBN := Lib.hid (chain HBF.out b9)
              clear on b9 hbn HOK HPF HBF HW HCK c_0 c_1 c_2 c_3
              go_wp2
              go_loopw [17] (fun iv wr => ∃ i : Nat, i ≤ n ∧ iv = .int .i64 i ∧ Below w9.heap.size w9 wr) (fun iv _ => n - (intOf iv).toNat)
              case atStart => exact ⟨0, Nat.zero_le _, rfl, Below.refl _ _⟩
              case round =>
                obtain ⟨i, hin, rfl, hb⟩ := hrel
                have HBI := Lib.hid hb
                clear hb
                by_cases hlt : i < n
                · obtain ⟨x, hx⟩ : ∃ x, mj[i]? = some x := ⟨_, List.getElem?_eq_getElem (by rw [← HLN.out]; exact hlt)⟩
                  have d_0 := row_at (HRN.out.later HBI.out) hx
                  have d_1 := row_at (HRO.out.later HBI.out) hx
                  have hxx : (x != x) = false := by simp
                  clear hx
                  go_wp2
                  go_region
                  go_wp2
                  go_roundw
                  case rel => exact ⟨i + 1, by omega, by go_num, HBI.out.drew⟩
                  case measure => simp [intOf]; omega
                · have HNX := Lib.hid (Wake_next (HPN.out.later HBI.out))
                  unfold Wkr.Told Wkr.ToldD at HNX
                  rw [HEND.out] at HNX
                  have HBE := Lib.hid (chain HBN.out HBI.out)
                  go_wp2_with fail
                  refine HNX.out.mono ?_
                  rintro e10 w10 ⟨rfl, b10⟩
                  simp only [Option.getD_none, Option.isSome_none]
                  have HB10 := Lib.hid (chain HBE.out (chain b10 (ba w10 (.cells #[.int .i64 0, .int .i64 0, .int .u64 0, .int .u64 0, .int .u64 0] 38))))
                  clear b10 HNX
                  go_wp2_with fail
                  refine (awake_any _).mono ?_
                  rintro e11 w11 ⟨rfl, b11⟩
                  go_wp2
                  go_ret
                  exact ⟨rfl, chain HB10.out b11⟩
        | some d =>
          have HE := Lib.hid (show j < K ∧ steps (wakeA (T : Int)) (wakeT (T : Int) dl) (K - (j + 1)) (nextD mj d) (wakeT (T : Int) dl s (foundD mj d)) = some (lf, sf) by
            have h1 := HAJ.out
            cases hkj : K - j with
            | zero =>
              exfalso
              rw [hkj] at h1
              simp only [steps, Option.some.injEq, Prod.mk.injEq] at h1
              have h2 := HEND.out
              rw [← h1.2, hx] at h2
              cases h2
            | succ k =>
              rw [hkj] at h1
              obtain ⟨d2, h2, h3⟩ := steps_amid h1
              rw [hx] at h2
              cases h2
              exact ⟨by omega, by rw [show K - (j + 1) = k by omega]; exact h3⟩)
          have HDF := Lib.hid (wakeA_fits hx)
          rw [hx] at HNX
          clear hx
          go_wp2_with fail
          refine HNX.out.mono ?_
          rintro e7 w7 ⟨rfl, b7⟩
          simp only [Option.getD_some, Option.isSome_some]
          have HB7 := Lib.hid (chain b7 (ba w7 (.cells #[.int .i64 d.1, .int .i64 d.2.1, .int .u64 d.2.2.1, .int .u64 d.2.2.2.1, .int .u64 d.2.2.2.2] 38)))
          have HM7 := Lib.hid (HMJ.out.later HB7.out)
          have HP7 := Lib.hid (HPJ.out.later HB7.out)
          have HO7 := Lib.hid (HOJ.out.then_below HB7.out)
          clear b7
          go_wp2_with fail
          refine (DeedDo.Do_any HM7.out d).mono ?_
          rintro e8 w8 ⟨rfl, g8, m8⟩
          have HM8 := Lib.hid m8
          have HO8 := Lib.hid (only_grown (R := fun k => k = h) g8 fun k e => by cases e; rfl)
          have HP8 := Lib.hid (HP7.out.only HO8.out (fun e => by have := HBW.out; have := HP.out; omega))
          have HO78 := Lib.hid (HO7.out.trans (HO8.out.wide (R' := fun k => k = h ∨ k = p) fun k e => .inl (.inl e)))
          clear g8 m8
          go_wp2_with fail
          refine (Wake_tell HP8.out (fits_found HFJ.out d)).mono ?_
          rintro e9 w9 ⟨rfl, p9, o9⟩
          have H9 := Lib.hid (show Amid w6 pc h n p (T : Int) (S : Int) (L : Int) G dl K lf sf (j + 1) w9 from ⟨_, _, by have := HE.out.1; omega, ⟨HM8.out.1, HM8.out.2.1, HM8.out.2.2.1, o9.cell HM8.out.box (show ¬ pc = p by have := HP.out; have := HBW.out; omega), o9.own HM8.out.own (fun k e => by cases e; show ¬ h = p; have := HP.out; have := HBW.out; omega)⟩, fits_next HFJ.out HDF.out, p9, HE.out.2,
            HO78.out.trans (o9.wide (R' := fun k => k = h ∨ k = p) fun k e => .inl (.inr e))⟩)
          have hj2 := HE.out.1
          clear p9 o9
          go_wp2
          go_roundw
          case rel => exact ⟨j + 1, by go_num, H9.out⟩
          case measure => simp [intOf]; omega

theorem walk (x : Int × Int × Int × Int) (dl z0 z1 z2 z3 z4 z5 z6 z7 : Int) (_ : (Lit.int .i64 x.1).wf = true) (_ : (Lit.int .i64 x.2.1).wf = true) (_ : (Lit.int .i64 x.2.2.1).wf = true) (hg : (Lit.int .u64 x.2.2.2).wf = true) (_ : (Lit.int .i64 dl).wf = true)
    (_ : (Lit.int .i64 z0).wf = true) (_ : (Lit.int .i64 z1).wf = true) (_ : (Lit.int .i64 z2).wf = true) (_ : (Lit.int .i64 z3).wf = true) (_ : (Lit.int .i64 z4).wf = true) (_ : (Lit.int .i64 z5).wf = true) (_ : (Lit.int .i64 z6).wf = true) (_ : (Lit.int .i64 z7).wf = true) (w : World) (_ : True) :
    Calls Tryd.prog 3 #[.agg #[.int .i64 x.1, .int .i64 x.2.1, .int .i64 x.2.2.1, .int .u64 x.2.2.2], .int .i64 dl, .agg ([z0, z1, z2, z3, z4, z5, z6, z7].map (Value.int .i64)).toArray] w fun e w' => e = .returned (.bool true) ∧ Below w.heap.size w w' := by
  obtain ⟨T, S, L, G⟩ := x
  show Calls Tryd.prog 3 #[.agg #[.int .i64 T, .int .i64 S, .int .i64 L, .int .u64 G], .int .i64 dl, .agg #[.int .i64 z0, .int .i64 z1, .int .i64 z2, .int .i64 z3, .int .i64 z4, .int .i64 z5, .int .i64 z6, .int .i64 z7]] w _
  cases h : rightB T S L G
  · exact walk_no T S L G dl z0 z1 z2 z3 z4 z5 z6 z7 h w
  · have hr := right_is h
    have hG := (wf_u64 hg).1
    obtain ⟨a, rfl⟩ := Int.eq_ofNat_of_zero_le (show 0 ≤ T by have := hr.1; omega)
    obtain ⟨b, rfl⟩ := Int.eq_ofNat_of_zero_le (show 0 ≤ S by have := hr.2.2.1; omega)
    obtain ⟨d, rfl⟩ := Int.eq_ofNat_of_zero_le (show 0 ≤ L by have := hr.2.2.2.2.1; omega)
    by_cases h0 : dl < 0
    · exact walk_low a b d G dl z0 z1 z2 z3 z4 z5 z6 z7 h hG h0 w
    · by_cases h1 : 1152921504606846976 < dl
      · exact walk_high a b d G dl z0 z1 z2 z3 z4 z5 z6 z7 h hG h1 w
      · exact walk_yes a b d G dl z0 z1 z2 z3 z4 z5 z6 z7 h hG (by omega) (by omega) w
theorem laidOut : laidOutB Tryd.prog = true := by kernel_rfl
theorem own : ownKnob Tryd.prog.godebug = none := by kernel_rfl
theorem door_met (os : Os) (args : Array Value) : laidMetH Tryd.prog Rows.wakeJustRow.laid ((World.doorLaid Tryd.prog 400 os).forCall (fun _ _ => 0) ⟨#[], args, []⟩).memory :=
  laidMetH_of_parts3 (fuel := 8) (laidMet_of_run' 8 (by kernel_rfl) (by kernel_rfl)) (by kernel_rfl) (by kernel_rfl)
set_option maxRecDepth 100000 in
theorem lifted (os : Os) (started : os.Started) (H : Type) (enc : TypeId × Value → H) :
    ReturnsInHanded {} Tryd.checked os 3 .any (fun w args => (Rows.wakeJustSpec.pre enc Tryd.prog Tryd.f3 [] false w args ∧ laidMetH Tryd.prog Rows.wakeJustRow.laid w) ∧ sizedMet enc Tryd.prog Tryd.f3 (OpenSpec.ofChange Rows.wakeJustSpec) false w args) (Rows.wakeJustSpec.post enc Tryd.prog Tryd.f3 false true false false) := by
  refine Frame.liftedLaid (C := Tryd.checked) (fn := Tryd.f3) (tb := 4) own started (by kernel_rfl) Tryd.func3
    (ChangeSpec.witness_shaped (enc := enc) (C := Tryd.checked) (os := os) (X := fun w _ => laidMetH Tryd.prog Rows.wakeJustRow.laid w) false (World.doorLaid Tryd.prog 400 os) #[.agg #[.int .i64 0, .int .i64 0, .int .i64 0, .int .u64 0], .int .i64 0, .agg #[.int .i64 0, .int .i64 0, .int .i64 0, .int .i64 0, .int .i64 0, .int .i64 0, .int .i64 0, .int .i64 0]] 8 rfl (World.shaped_of_RefB (by kernel_rfl) (by kernel_rfl)) (by kernel_rfl) (by kernel_rfl) (by kernel_rfl) (door_met os _))
    rfl rfl Tryd.underlying4 laidOut (by kernel_rfl) (fun ds h => by match ds, h with | [_, _, _], _ => rfl) ?_
  intro W base args ds ps hval0 hA0 hlt hL
  have hval : ∀ (j : Nat) t v, Tryd.f3.params[j]? = some t → args[j]? = some v → Value.okWide Tryd.prog W .any base t v := hval0
  have hA : DataW.TrodAll enc Tryd.prog W 0 (fun _ => true) true Tryd.f3.params.toList args.toList ds ps := hA0
  rw [Tryd.params3] at hA hval
  obtain ⟨v0, vs0, d0, ds0, p0, q0, hargs, rfl, rfl, h0, r0⟩ := trodAll_cons hA
  obtain ⟨v1, vs1, d1, ds1, p1, q1, rfl, rfl, rfl, h1, r1⟩ := trodAll_cons r0
  obtain ⟨v2, vs2, d2, ds2, p2, q2, rfl, rfl, rfl, h2, r2⟩ := trodAll_cons r1
  obtain ⟨rfl, rfl, rfl⟩ := trodAll_nil r2
  obtain rfl : args = #[v0, v1, v2] := by cases args; simp_all
  obtain ⟨x0, rfl, w0_0, w0_1, w0_2, w0_3⟩ := Open.open_four_ints Tryd.underlying24 (by kernel_rfl) (by kernel_rfl) Tryd.underlying3 Tryd.underlying3 Tryd.underlying3 Tryd.underlying22 (hval 0 24 v0 rfl rfl) h0
  obtain ⟨a1, rfl, _, _, w1⟩ := open_int Tryd.underlying3 (hval 1 3 v1 rfl rfl) h1
  obtain ⟨z2, l2, rfl, g2⟩ := Frame.open_int_array Tryd.underlying25 Tryd.underlying3 (by kernel_rfl) (by kernel_rfl) (hval 2 25 v2 rfl rfl) h2
  obtain ⟨a2_0, a2_1, a2_2, a2_3, a2_4, a2_5, a2_6, a2_7, rfl, w2_0, w2_1, w2_2, w2_3, w2_4, w2_5, w2_6, w2_7⟩ := Frame.eight_of l2 g2
  refine (walk x0 a1 a2_0 a2_1 a2_2 a2_3 a2_4 a2_5 a2_6 a2_7 w0_0 w0_1 w0_2 w0_3 w1 w2_0 w2_1 w2_2 w2_3 w2_4 w2_5 w2_6 w2_7 W (held hL)).mono fun e W' h => ?_
  exact h

theorem over : Rows.wakeJustRow.holds Tryd.pinned (OpenSpec.ofChange Rows.wakeJustSpec) :=
  OpenClaim.holds_of_wide 3 Tryd.f3 rfl rfl rfl rfl rfl rfl rfl ⟨rfl, rfl, rfl, rfl, rfl⟩ rfl rfl rfl rfl rfl (by kernel_rfl) Tryd.func3 (by kernel_rfl)
    (of_decide_eq_true (by kernel_rfl)) (by unfold Func.isWrapper; first | (rw [if_pos (by decide +kernel)]; kernel_rfl) | (rw [if_neg (by decide +kernel)]; exact ⟨rfl, rfl⟩))
    (fun os started H enc _ => lifted os started H enc)

theorem proved : Rows.WakeJustCardSaid :=
  Claim7.holds_tied_plain_at .later [] Rows.wakeJustCard.laidKinds true Rows.wakeJustCard.stood.harness Rows.wakeJustCard.stood.looks
    over (fun _ h => by cases h) (by kernel_rfl) (fun _ h => by cases h) wakeJust_row_tie rfl ⟨rfl, rfl⟩ (by kernel_rfl) rfl
    (fun f fn hf hfn => by
      obtain rfl : f = 3 := Option.some.inj ((show Tryd.prog.funcNamed Rows.wakeJustRow.func = some 3 by kernel_rfl).symm.trans hf) |>.symm
      obtain rfl : fn = Tryd.f3 := (Option.some.inj (Tryd.func3.symm.trans hfn)).symm
      exact ⟨by kernel_rfl, fun j t ht => by
        rw [Tryd.params3] at ht
        have hm : t ∈ [24, 3, 25] := by simpa using Array.mem_of_getElem? ht
        have hall : ([24, 3, 25].all fun u => !Tryd.prog.wantsStandIn u) = true := by kernel_rfl
        exact (show Tryd.prog.wantsStandIn t = false by simpa using List.all_eq_true.1 hall t hm)⟩)
    (by kernel_rfl)
#print axioms proved
end Go.Proofs.YtilmobnnccjmgaaDoor.WakeJust
