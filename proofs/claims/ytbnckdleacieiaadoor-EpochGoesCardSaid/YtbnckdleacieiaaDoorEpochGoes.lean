/- EpochGoes: for every plan that is right, every epoch and all words of the threads, the epoch, done alone, goes on by one just if each thread is pinned in it, or in none, and no other word is turned (of another plan just the chapter's example is asked); and that example comes out; the arguments read as they did. Condition: the library's listed tables hold what its own text lays in them (tied by the card). -/
import Derived.Test.YtbnckdleacieiaaDoorEpochAwake
import Derived.Test.YtbnckdleacieiaaDoorEpochAloneMath
import Derived.Test.YtbnckdleacieiaaDoorDeedDo
import Derived.Test.YtbnckdleacieiaaDoorBlankWalks
import Derived.Test.YtbnckdleacieiaaDoorFour
import Derived.Test.YtbnckdleacieiaaDoorFrame
import Derived.Test.YtbnckdleacieiaaDoorEight
import Derived.Test.YtbnckdleacieiaaDoorFrameLaid
import Derived.Test.YtbnckdleacieiaaDoorTie
import Derived.Test.YtbnckdleacieiaaDoorCards
namespace Go.Proofs.YtbnckdleacieiaaDoor.EpochGoes
set_option maxRecDepth 20000
open Go.ChangeShapes Go.WideShapes Go.ChangeAt Go.RowKit CM DM PM EM BM MM Runs Lay Ints Plan Epoch Go.Proofs.YtbnckdleacieiaaDoor.Task
open Go.Proofs.YtbnckdleacieiaaDoor.Cells (Mem Does Store_any Load_any Words_any grown_below grown_trans)
open Go.Proofs.YtbnckdleacieiaaDoor.Law14 (plan4 awake_any wf_u64)
set_option linter.unusedVariables false
set_option linter.unusedSimpArgs false

theorem held {W : World} (h : laidMetH Tryd.prog Rows.epochGoesRow.laid W) : True := trivial

/-- Both boxes: the plan's, and behind it that of the threads' words. -/
structure Boxes (W : World) (B : Nat) (T S L G : Int) (zs : List Int) : Prop where
  plan : W.cell? ⟨B, 0, none⟩ = some (.int .i64 T) ∧ W.cell? ⟨B, 1, none⟩ = some (.int .i64 S) ∧ W.cell? ⟨B, 2, none⟩ = some (.int .i64 L) ∧ W.cell? ⟨B, 3, none⟩ = some (.int .u64 G)
  pins : ∀ i, i < 8 → W.cell? ⟨B + 1, i, none⟩ = some (.int .u64 (zs.getD i 0))
theorem Boxes.only {W W' : World} {B : Nat} {T S L G : Int} {zs : List Int} {R : Nat → Prop} (h : Boxes W B T S L G zs) (ho : Only R W W') (h0 : ¬ R B) (h1 : ¬ R (B + 1)) : Boxes W' B T S L G zs :=
  ⟨plan4 h.plan ho h0, fun i hi => ho.cell (h.pins i hi) h1⟩
theorem boxes (w : World) (T S L G z0 z1 z2 z3 z4 z5 z6 z7 : Int) : Boxes ((w.alloc (.cells #[.int .i64 T, .int .i64 S, .int .i64 L, .int .u64 G] 24)).alloc (.cells #[.int .u64 z0, .int .u64 z1, .int .u64 z2, .int .u64 z3, .int .u64 z4, .int .u64 z5, .int .u64 z6, .int .u64 z7] 25)) w.heap.size T S L G [z0, z1, z2, z3, z4, z5, z6, z7] := by
  have hb : Below (w.alloc (.cells #[.int .i64 T, .int .i64 S, .int .i64 L, .int .u64 G] 24)).heap.size (w.alloc (.cells #[.int .i64 T, .int .i64 S, .int .i64 L, .int .u64 G] 24)) ((w.alloc (.cells #[.int .i64 T, .int .i64 S, .int .i64 L, .int .u64 G] 24)).alloc (.cells #[.int .u64 z0, .int .u64 z1, .int .u64 z2, .int .u64 z3, .int .u64 z4, .int .u64 z5, .int .u64 z6, .int .u64 z7] 25)) := box_below _ _
  refine ⟨plan4 (box4 w (.int .i64 T) (.int .i64 S) (.int .i64 L) (.int .u64 G) 24) (only_below (fun _ => False) hb) id, fun i hi => ?_⟩
  have h := (cell_heap (new_heap (w.alloc (.cells #[.int .i64 T, .int .i64 S, .int .i64 L, .int .u64 G] 24)) (.cells #[.int .u64 z0, .int .u64 z1, .int .u64 z2, .int .u64 z3, .int .u64 z4, .int .u64 z5, .int .u64 z6, .int .u64 z7] 25)) i).1
  simp only [World.size_alloc] at h
  rw [h]
  match i, hi with
  | 0, _ => rfl
  | 1, _ => rfl
  | 2, _ => rfl
  | 3, _ => rfl
  | 4, _ => rfl
  | 5, _ => rfl
  | 6, _ => rfl
  | 7, _ => rfl
  | i + 8, hi => omega
theorem below2 (w : World) (o1 o2 : Obj) : Below w.heap.size w ((w.alloc o1).alloc o2) := (box_below w o1).trans ((box_below _ o2).mono (by simp))
theorem row_at {w : World} {B b j : Nat} {k : IntKind} {l : List Int} {v : Int} (h : Row w B (some ⟨b, 0, none⟩) (flat (encZ k) l)) (hv : l[j]? = some v) : w.cell? ⟨b, j, none⟩ = some (.int k v) := by
  obtain ⟨b', o', e, _, hc⟩ := int_at h (List.getElem?_eq_some_iff.1 hv).1
  cases e
  simpa using hc j v hv

theorem walk_no (T S L G e z0 z1 z2 z3 z4 z5 z6 z7 : Int) (hr : rightB T S L G = false) (w : World) : Calls Tryd.prog 3 #[.agg #[.int .i64 T, .int .i64 S, .int .i64 L, .int .u64 G], .int .u64 e, .agg #[.int .u64 z0, .int .u64 z1, .int .u64 z2, .int .u64 z3, .int .u64 z4, .int .u64 z5, .int .u64 z6, .int .u64 z7]] w fun e w' => e = .returned (.bool true) ∧ Below w.heap.size w w' := by
  have HR := Lib.hid hr
  have HB0 := Lib.hid (below2 w (.cells #[.int .i64 T, .int .i64 S, .int .i64 L, .int .u64 G] 24) (.cells #[.int .u64 z0, .int .u64 z1, .int .u64 z2, .int .u64 z3, .int .u64 z4, .int .u64 z5, .int .u64 z6, .int .u64 z7] 25))
  have HC := Lib.hid (boxes w T S L G z0 z1 z2 z3 z4 z5 z6 z7)
  clear hr
  go_enter Tryd.func3, Tryd.ntmps3
  go_wp2_with fail
  refine (awake_any _).mono ?_
  rintro e w1 ⟨rfl, b1⟩
  have HB1 := Lib.hid (HB0.out.trans (b1.mono HB0.out.size))
  obtain ⟨c_0, c_1, c_2, c_3⟩ := (HC.out.only (only_below (fun _ => False) b1) id id).plan
  clear b1
  go_wp2_with fail
  refine (Blank.Make_no HR.out _).mono ?_
  rintro e w2 ⟨rfl, b2⟩
  have HB2 := Lib.hid (HB1.out.trans (b2.mono HB1.out.size))
  clear b2 c_0 c_1 c_2 c_3
  go_wp2_with fail
  refine (awake_any _).mono ?_
  rintro e w4 ⟨rfl, b4⟩
  go_wp2
  go_ret
  exact ⟨rfl, HB2.out.trans (b4.mono HB2.out.size)⟩

/-- Amid the threads' words. -/
def Laid (w3 : World) (pc h n : Nat) (T e : Int) (l0 zs : List Int) (k : Nat) (wr : World) : Prop := Mem wr pc h n (layP T l0 zs k) ∧ Only (fun b => b = h) w3 wr
/-- Amid the deeds. -/
def Amid (w5 : World) (pc h n p : Nat) (T S L G : Int) (l' : List Int) (s' : St) (j : Nat) (wr : World) : Prop :=
  ∃ l s, j ≤ 19 ∧ Mem wr pc h n l ∧ BM.Fits l ∧ Advs wr p T S L G s ∧ alone (advA T) (advT T) (19 - j) l s = (l', s') ∧ Only (fun k => k = h) w5 wr
theorem start5 {w : World} {B b k : Nat} {T S L G z : Int} (h : (w.cell? ⟨B, 0, none⟩ = some (.int .i64 T) ∧ w.cell? ⟨B, 1, none⟩ = some (.int .i64 S) ∧ w.cell? ⟨B, 2, none⟩ = some (.int .i64 L) ∧ w.cell? ⟨B, 3, none⟩ = some (.int .u64 G) ∧ w.cell? ⟨b, k, none⟩ = some (.int .u64 z))) :
    w.drew.cell? ⟨B, 0, none⟩ = some (.int .i64 T) ∧ w.drew.cell? ⟨B, 1, none⟩ = some (.int .i64 S) ∧ w.drew.cell? ⟨B, 2, none⟩ = some (.int .i64 L) ∧ w.drew.cell? ⟨B, 3, none⟩ = some (.int .u64 G) ∧ w.drew.cell? ⟨b, k, none⟩ = some (.int .u64 z) := h
theorem keep5 {w1 w2 : World} {B b k : Nat} {r : Option Nat} {T S L G z : Int} (hS : w1.cell? ⟨B, 0, none⟩ = some (.int .i64 T) ∧ w1.cell? ⟨B, 1, none⟩ = some (.int .i64 S) ∧ w1.cell? ⟨B, 2, none⟩ = some (.int .i64 L) ∧ w1.cell? ⟨B, 3, none⟩ = some (.int .u64 G) ∧ w1.cell? ⟨b, k, none⟩ = some (.int .u64 z))
    (hg : w1.grownBy w2 r) (hr : some B ≠ r ∧ some b ≠ r) : w2.cell? ⟨B, 0, none⟩ = some (.int .i64 T) ∧ w2.cell? ⟨B, 1, none⟩ = some (.int .i64 S) ∧ w2.cell? ⟨B, 2, none⟩ = some (.int .i64 L) ∧ w2.cell? ⟨B, 3, none⟩ = some (.int .u64 G) ∧ w2.cell? ⟨b, k, none⟩ = some (.int .u64 z) :=
  ⟨hg.cell hS.1 hr.1, hg.cell hS.2.1 hr.1, hg.cell hS.2.2.1 hr.1, hg.cell hS.2.2.2.1 hr.1, hg.cell hS.2.2.2.2 hr.2⟩

set_option maxHeartbeats 2000000 in
theorem walk_yes (T S L : Nat) (G e z0 z1 z2 z3 z4 z5 z6 z7 : Int) (hr : rightB (T : Int) (S : Int) (L : Int) G = true) (hG : 0 ≤ G) (he : 0 ≤ e ∧ e < 18446744073709551616) (hz : ∀ z ∈ [z0, z1, z2, z3, z4, z5, z6, z7], 0 ≤ z ∧ z < 18446744073709551616) (w : World) :
    Calls Tryd.prog 3 #[.agg #[.int .i64 (T : Int), .int .i64 (S : Int), .int .i64 (L : Int), .int .u64 G], .int .u64 e, .agg #[.int .u64 z0, .int .u64 z1, .int .u64 z2, .int .u64 z3, .int .u64 z4, .int .u64 z5, .int .u64 z6, .int .u64 z7]] w fun e w' => e = .returned (.bool true) ∧ Below w.heap.size w w' := by
  obtain ⟨t1, t8, s1, s64, l1, l8⟩ := Blank.right_nat hr
  have HC := Lib.hid (boxes w (T : Int) (S : Int) (L : Int) G z0 z1 z2 z3 z4 z5 z6 z7)
  have HB0 := Lib.hid (below2 w (.cells #[.int .i64 (T : Int), .int .i64 (S : Int), .int .i64 (L : Int), .int .u64 G] 24) (.cells #[.int .u64 z0, .int .u64 z1, .int .u64 z2, .int .u64 z3, .int .u64 z4, .int .u64 z5, .int .u64 z6, .int .u64 z7] 25))
  obtain ⟨zs, hzs⟩ : ∃ zs, zs = [z0, z1, z2, z3, z4, z5, z6, z7] := ⟨_, rfl⟩
  rw [← hzs] at HC hz
  clear hzs
  obtain ⟨la, hla⟩ : ∃ la, la = layL (wordsN T S L) (T : Int) (S : Int) (L : Int) (SM.stI G 0) S := ⟨_, rfl⟩
  have hlen : la.length = wordsN T S L := by rw [hla]; exact lay_length _ _ _ _ _ _
  have hF0 : BM.Fits la := by rw [hla]; exact fits_lay _ _ _ ⟨SM.stI_lo _ _, SM.stI_hi _ _⟩ (by omega) _
  obtain ⟨l0, hl0⟩ : ∃ l0, l0 = setI la 0 e := ⟨_, rfl⟩
  have hlen0 : l0.length = wordsN T S L := by rw [hl0, setI_length]; exact hlen
  have h00 : getI l0 0 = e := by rw [hl0]; exact get_set (there_in (j := 0) hlen (by unfold wordsN; omega)) e
  have hF1 : BM.Fits l0 := by rw [hl0]; exact fits_set hF0 _ he
  obtain ⟨b, hb, l', s', hrun, hend, hwon, hlen', hsame, hget⟩ := goes_all (S := S) (L := L) l0 zs e t8 hlen0 h00 he
  have HLA := Lib.hid hla
  have HL0 := Lib.hid hl0
  have HFP := Lib.hid (layP_fits (T : Int) hF1 hz T)
  have HBT := Lib.hid hb
  have HRUN := Lib.hid hrun
  have HEND := Lib.hid hend
  have HWON := Lib.hid hwon
  have HLEN := Lib.hid hlen'
  have HSAME := Lib.hid hsame
  have HGET := Lib.hid hget
  have HSZ4 := Lib.hid hlen0
  have HPL := Lib.hid (layP_length (T : Int) l0 zs T)
  have HR := Lib.hid hr
  have HG := Lib.hid hG
  have HT8 := Lib.hid t8
  clear hr hG he hz hla hlen hF0 hl0 hlen0 h00 hF1 hb hrun hend hwon hlen' hsame hget t1 s1 s64 l1 l8
  go_enter Tryd.func3, Tryd.ntmps3
  go_wp2_with fail
  refine (awake_any _).mono ?_
  rintro e0 w0 ⟨rfl, b0⟩
  have HB1 := Lib.hid (HB0.out.trans (b0.mono HB0.out.size))
  have HC1 := Lib.hid (HC.out.only (only_below (fun _ => False) b0) id id)
  have HSZ := Lib.hid (show w.heap.size + 2 ≤ w0.heap.size by have := b0.size; simp at this; omega)
  obtain ⟨c_0, c_1, c_2, c_3⟩ := HC1.out.plan
  clear b0
  go_wp2_with fail
  refine (Blank.Make_yes HR.out HG.out _).mono ?_
  rintro e1 w1 ⟨pc, h, rfl, m1, p1, h1, b1⟩
  obtain ⟨n, hn⟩ : ∃ n, n = wordsN T S L := ⟨_, rfl⟩
  rw [← hn] at m1
  have HNE := Lib.hid (show w.heap.size + 2 ≤ pc ∧ w.heap.size + 2 ≤ h by have := HSZ.out; omega)
  have HB2 := Lib.hid (HB1.out.trans (b1.mono HB1.out.size))
  have HC2 := Lib.hid (HC1.out.only (only_below (fun _ => False) b1) id id)
  have HM1 := Lib.hid m1
  clear m1 p1 h1 b1 c_0 c_1 c_2 c_3
  obtain ⟨c_0, c_1, c_2, c_3⟩ := HC2.out.plan
  go_wp2_with fail
  refine (Store_any HM1.out 0 e).mono ?_
  rintro e2 w3 ⟨rfl, g3, m3⟩
  rw [hn, ← HLA.out, ← HL0.out, ← hn] at m3
  have HO3 := Lib.hid (only_grown (R := fun k => k = h) g3 fun k e => by cases e; rfl)
  have HC3 := Lib.hid (HC2.out.only HO3.out (by have := HNE.out; omega) (by have := HNE.out; omega))
  have HB3 := Lib.hid (HB2.out.trans (HO3.out.below HB2.out.size (fun k e => by subst e; have := HNE.out; omega)))
  have H3 := Lib.hid (show Laid w3 pc h n (T : Int) e l0 zs 0 w3 from ⟨m3, Only.refl _ _⟩)
  clear m3 g3 hn c_0 c_1 c_2 c_3
  go_wp2
  go_loopw [9, 10] (fun av iv wr => ∃ k : Nat, k ≤ T ∧ av = .bool (allP e zs k) ∧ iv = .int .i64 k ∧ Laid w3 pc h n (T : Int) e l0 zs k wr) (fun _ iv _ => T - (intOf iv).toNat)
  case atStart => exact ⟨0, Nat.zero_le _, rfl, rfl, H3.out⟩
  case round =>
    obtain ⟨k, hk, rfl, rfl, hm, ho⟩ := hrel
    have HMK := Lib.hid hm
    have HOK := Lib.hid ho
    have HCK := Lib.hid (HC3.out.only ho (by have := HNE.out; omega) (by have := HNE.out; omega))
    clear hm ho
    obtain ⟨c_0, c_1, c_2, c_3⟩ := HCK.out.plan
    by_cases hlt : k < T
    · have hk8 : (k : Int) < 8 := by have := HT8.out; omega
      obtain ⟨z, hz⟩ : ∃ z, z = zs.getD k 0 := ⟨_, rfl⟩
      have c_4 := HCK.out.pins k (by omega)
      rw [← hz] at c_4
      have HST := Lib.hid fun (w2 : World) (hM : Mem w2 pc h n (layP (T : Int) l0 zs k)) => Store_any hM (ofI (T : Int) 0 (k : Int)) z
      have hls := layP_succ (T : Int) l0 zs k
      rw [← hz] at hls
      rw [← hls] at HST
      have HZ := Lib.hid hz
      have HAL := Lib.hid (show allP e zs (k + 1) = (allP e zs k && lets e z) by rw [hz]; exact allP_succ e zs k)
      generalize getI (layP (T : Int) l0 zs k) (ofI (T : Int) 0 (k : Int)) = old at HST
      have HPN := Lib.hid fun W : World => Plan.Pin_any (T : Int) (S : Int) (L : Int) G (k : Int) W
      generalize ofI (T : Int) 0 (k : Int) = pl at HST HPN
      have HS0 := Lib.hid (start5 ⟨c_0, c_1, c_2, c_3, c_4⟩)
      have NE := Lib.hid (show some w.heap.size ≠ some h ∧ some (w.heap.size + 1) ≠ some h by have := HNE.out; simp; omega)
      clear hz hls
      go_wp2
      go_region_held3 (fun W => W.cell? ⟨w.heap.size, 0, none⟩ = some (.int .i64 (T : Int)) ∧ W.cell? ⟨w.heap.size, 1, none⟩ = some (.int .i64 (S : Int)) ∧ W.cell? ⟨w.heap.size, 2, none⟩ = some (.int .i64 (L : Int)) ∧ W.cell? ⟨w.heap.size, 3, none⟩ = some (.int .u64 G) ∧ W.cell? ⟨w.heap.size + 1, k, none⟩ = some (.int .u64 z))
        ((first | exact HS0.out | exact keep5 (by assumption) (by assumption) NE.out))
        (first
          | (go_at_call 7; refine (HPN.out _).mono ?_; rintro e4 w4 ⟨rfl, hb⟩; have hg := grown_below (some h) hb)
          | (refine (HST.out _ ((HMK.out.later (Below.refl _ _).drew).later hb)).mono ?_; rintro e5 w5 ⟨rfl, hg, hm⟩))
      have HO5 := Lib.hid (HOK.out.trans (((only_drew wr (fun b => b = h)).then_below hb).trans (only_grown (R := fun b => b = h) hg fun k e => by cases e; rfl)))
      have HM5 := Lib.hid hm
      clear hg hm hb c_0 c_1 c_2 c_3 c_4
      have c_5 := (HC3.out.only HO5.out (by have := HNE.out; omega) (by have := HNE.out; omega)).pins k (by omega)
      rw [← HZ.out] at c_5
      obtain ⟨a, ha⟩ : ∃ a, allP e zs k = a := ⟨_, rfl⟩
      rw [ha] at HAL ⊢
      clear ha
      cases a with
      | false =>
        have H6 := Lib.hid (show false = allP e zs (k + 1) by rw [HAL.out]; rfl)
        clear HAL HZ
        go_wp2
        go_roundw
        case rel => exact ⟨k + 1, by omega, by rw [← H6.out], by go_num, HM5.out, HO5.out⟩
        case measure => simp [intOf]; omega
      | true =>
        by_cases hz0 : z = 0
        · have H6 := Lib.hid (show true = allP e zs (k + 1) by rw [HAL.out, hz0]; simp [lets])
          subst hz0
          clear HAL HZ
          go_wp2
          go_roundw
          case rel => exact ⟨k + 1, by omega, by rw [← H6.out], by go_num, HM5.out, HO5.out⟩
          case measure => simp [intOf]; omega
        · have hz1 : (z == 0) = false := by simpa using hz0
          by_cases hze : z = e
          · have H6 := Lib.hid (show true = allP e zs (k + 1) by rw [HAL.out, hze]; simp [lets])
            have hz2 : (z == e) = true := by simpa using hze
            clear HAL HZ hze
            go_wp2
            go_roundw
            case rel => exact ⟨k + 1, by omega, by rw [← H6.out], by go_num, HM5.out, HO5.out⟩
            case measure => simp [intOf]; omega
          · have H6 := Lib.hid (show false = allP e zs (k + 1) by rw [HAL.out]; simp [lets, hz0, hze])
            have hz2 : (z == e) = false := by simpa using hze
            clear HAL HZ hze hz0
            go_wp2
            go_roundw
            case rel => exact ⟨k + 1, by omega, by rw [← H6.out], by go_num, HM5.out, HO5.out⟩
            case measure => simp [intOf]; omega
    · have hkT : T = k := by omega
      subst hkT
      rw [← HBT.out]
      have HLT := Lib.hid HMK.out.lt
      have HW := Lib.hid (Words_any HMK.out)
      obtain ⟨bw, hbw⟩ : ∃ bw, bw = wr.heap.size := ⟨_, rfl⟩
      unfold Cells.Told at HW
      go_wp2_with fail
      refine HW.out.mono ?_
      rintro e4 w4 ⟨rfl, ow, b4⟩
      rw [← hbw] at ow ⊢
      have HOW := Lib.hid (Row.of_own ow)
      have HM4 := Lib.hid (HMK.out.later b4)
      have HO4 := Lib.hid (HOK.out.then_below b4)
      have HBW := Lib.hid (show bw < w4.heap.size ∧ pc < bw ∧ h < bw ∧ w.heap.size + 1 < bw from ⟨(ow.lt bw rfl).2, by rw [hbw]; exact HLT.out.1, by rw [hbw]; exact HLT.out.2, by have := HNE.out; have := HLT.out; omega⟩)
      clear ow b4 hbw c_0 c_1 c_2 c_3
      obtain ⟨c_0, c_1, c_2, c_3⟩ := (HC3.out.only HO4.out (by have := HNE.out; omega) (by have := HNE.out; omega)).plan
      go_wp2_with fail
      refine (Advance_any (T : Int) (S : Int) (L : Int) G _).mono ?_
      rintro e5 w5 ⟨p, rfl, p5, hp5, b5⟩
      have HP := Lib.hid (show w4.heap.size ≤ p ∧ p < w5.heap.size from ⟨hp5, p5.lt⟩)
      have H5 := Lib.hid (show Amid w4 pc h n p (T : Int) (S : Int) (L : Int) G l' s' 0 w5 from ⟨_, _, by omega, HM4.out.later b5, HFP.out, p5, HRUN.out, only_below _ b5⟩)
      clear p5 hp5 b5 c_0 c_1 c_2 c_3
      go_wp2
      go_loopw [13] (fun iv wr => ∃ j : Nat, iv = .int .i64 j ∧ Amid w4 pc h n p (T : Int) (S : Int) (L : Int) G l' s' j wr) (fun iv _ => 20 - (intOf iv).toNat)
      case atStart => exact ⟨0, rfl, H5.out⟩
      case round =>
        obtain ⟨j, rfl, lj, s, hj, hm, hf, hp, ha, ho⟩ := hrel
        have HMJ := Lib.hid hm
        have HFJ := Lib.hid hf
        have HPJ := Lib.hid hp
        have HAJ := Lib.hid ha
        have HOJ := Lib.hid ho
        have HNX := Lib.hid (Adv_next hp)
        unfold Epoch.Told at HNX
        clear hm hf hp ha ho
        cases hx : advA (T : Int) s with
        | none =>
          have HE := Lib.hid (show lj = l' ∧ s = s' by have := HAJ.out; rw [alone_done hx] at this; simpa using this)
          obtain ⟨rfl, rfl⟩ := HE.out
          rw [hx] at HNX
          clear hx HE
          go_wp2_with fail
          refine HNX.out.mono ?_
          rintro e6 w6 ⟨rfl, b6⟩
          simp only [Option.getD_none, Option.isSome_none]
          have HB6 := Lib.hid (b6.trans ((box_below w6 (.cells #[.int .i64 0, .int .i64 0, .int .u64 0, .int .u64 0, .int .u64 0] 38)).mono b6.size))
          have HM6 := Lib.hid (HMJ.out.later HB6.out)
          have HP6 := Lib.hid (HPJ.out.only (only_below (fun _ => False) HB6.out) id)
          have HO6 := Lib.hid (HOJ.out.then_below HB6.out)
          have HOW6 := Lib.hid (HO6.out.row HOW.out (fun _ a e => by cases e; show ¬ bw = h; have := HBW.out; omega))
          have HW6 := Lib.hid (Words_any HM6.out)
          unfold Cells.Told at HW6
          obtain ⟨bn, hbn⟩ : ∃ bn, bn = (w6.alloc (.cells #[.int .i64 0, .int .i64 0, .int .u64 0, .int .u64 0, .int .u64 0] 38)).heap.size := ⟨_, rfl⟩
          rw [← hbn] at HW6
          clear b6
          have hn1 : n = lj.length := HM6.out.len
          have hn2 : n = (layP (T : Int) l0 zs T).length := by rw [hn1]; exact HLEN.out.trans HPL.out.symm
          have hn3 : n ≤ 4096 := HM6.out.most
          have HN1 := Lib.hid hn1
          have HN2 := Lib.hid hn2
          have hn0 : 1 ≤ n := by
            have h1 := HSZ4.out
            rw [hn1, HLEN.out, h1]
            unfold wordsN
            omega
          have hnz : ((n : Int) == 0) = false := by simp; omega
          have hnn : ((n : Int) != (n : Int)) = false := by simp
          clear hn1 hn2
          go_wp2_with fail
          refine HW6.out.mono ?_
          rintro e7 w7 ⟨rfl, on, b7⟩
          rw [hbn] at b7
          have HON := Lib.hid (Row.of_own on)
          have HBL7 := Lib.hid (HB6.out.trans (b7.mono HB6.out.size))
          have HP7 := Lib.hid (HP6.out.only (only_below (fun _ => False) b7) id)
          have HO7 := Lib.hid (HO6.out.then_below b7)
          have HOW7 := Lib.hid (HOW6.out.later b7)
          clear on b7 hbn
          go_wp2
          go_loopw [17] (fun iv wr => ∃ j : Nat, 1 ≤ j ∧ j ≤ n ∧ iv = .int .i64 j ∧ Below w7.heap.size w7 wr) (fun iv _ => n - (intOf iv).toNat)
          case atStart => exact ⟨1, Nat.le_refl _, hn0, rfl, Below.refl _ _⟩
          case round =>
            obtain ⟨i, hi1, hin, rfl, hb⟩ := hrel
            have HB8 := Lib.hid hb
            clear hb
            by_cases hlt : i < n
            · obtain ⟨x, hx⟩ : ∃ x, lj[i]? = some x := ⟨_, List.getElem?_eq_getElem (by rw [← HN1.out]; exact hlt)⟩
              have d_0 := row_at (HON.out.later HB8.out) hx
              have d_1 := row_at (HOW7.out.later HB8.out) (by rw [← HSAME.out i (by omega)]; exact hx)
              have hxx : (x != x) = false := by simp
              clear hx
              go_wp2
              go_region
              go_wp2
              go_roundw
              case rel => exact ⟨i + 1, by omega, by omega, by go_num, HB8.out.drew⟩
              case measure => simp [intOf]; omega
            · have HNX8 := Lib.hid (Adv_next (HP7.out.only (only_below (fun _ => False) HB8.out) id))
              unfold Epoch.Told at HNX8
              rw [HEND.out] at HNX8
              go_wp2_with fail
              refine HNX8.out.mono ?_
              rintro e9 w9 ⟨rfl, b9⟩
              simp only [Option.getD_none, Option.isSome_none]
              have HB9 := Lib.hid (HB8.out.trans ((b9.trans ((box_below w9 (.cells #[.int .i64 0, .int .i64 0, .int .u64 0, .int .u64 0, .int .u64 0] 38)).mono b9.size)).mono HB8.out.size))
              have HW9 := Lib.hid (Won_any (HP7.out.only (only_below (fun _ => False) HB9.out) id))
              rw [HWON.out] at HW9
              have HEND9 := Lib.hid (HB3.out.trans (((HO4.out.trans (HO7.out.then_below HB9.out))).below HB3.out.size (fun k e => by subst e; have := HNE.out; omega)))
              obtain ⟨x, hx⟩ : ∃ x, lj[0]? = some x := ⟨_, List.getElem?_eq_getElem (by rw [← HN1.out]; omega)⟩
              have d_0 := row_at (HON.out.later HB9.out) hx
              have hx2 : x = if b = true then (e + 1) % 18446744073709551616 else e := by rw [← HGET.out]; exact (getI_some (j := 0) hx).symm
              have he1 : IntKind.u64.wrap (e + 1) = (e + 1) % 18446744073709551616 := by rw [IntKind.wrap_u64]
              have hbb : (b == b) = true := by simp
              clear b9 hx
              cases b with
              | true =>
                rw [if_pos rfl] at hx2
                have hxe : (x == (e + 1) % 18446744073709551616) = true := by simpa using hx2
                clear hx2
                go_wp2_with fail
                refine HW9.out.mono ?_
                rintro e10 w10 ⟨rfl, rfl⟩
                go_wp2_with fail
                refine (awake_any _).mono ?_
                rintro e11 w11 ⟨rfl, b11⟩
                go_wp2
                go_ret
                exact ⟨rfl, HEND9.out.trans (b11.mono HEND9.out.size)⟩
              | false =>
                rw [if_neg (by simp)] at hx2
                have hxe : (x == e) = true := by simpa using hx2
                clear hx2
                go_wp2_with fail
                refine HW9.out.mono ?_
                rintro e10 w10 ⟨rfl, rfl⟩
                go_wp2_with fail
                refine (awake_any _).mono ?_
                rintro e11 w11 ⟨rfl, b11⟩
                go_wp2
                go_ret
                exact ⟨rfl, HEND9.out.trans (b11.mono HEND9.out.size)⟩
        | some d =>
          have HE := Lib.hid (show j < 19 ∧ alone (advA (T : Int)) (advT (T : Int)) (19 - (j + 1)) (nextD lj d) (advT (T : Int) s (foundD lj d)) = (l', s') by
            by_cases h0 : j = 19
            · exfalso
              have h1 := HAJ.out
              subst h0
              simp only [Nat.sub_self, alone, Prod.mk.injEq] at h1
              rw [h1.2, HEND.out] at hx
              cases hx
            · have h1 := HAJ.out
              rw [show 19 - j = (19 - (j + 1)) + 1 by omega, alone_more hx] at h1
              exact ⟨by omega, h1⟩)
          have HDF := Lib.hid (adv_fits HPJ.out.2 hx)
          rw [hx] at HNX
          clear hx
          go_wp2_with fail
          refine HNX.out.mono ?_
          rintro e6 w6 ⟨rfl, b6⟩
          simp only [Option.getD_some, Option.isSome_some]
          have HB6 := Lib.hid (b6.trans ((box_below w6 (.cells #[.int .i64 d.1, .int .i64 d.2.1, .int .u64 d.2.2.1, .int .u64 d.2.2.2.1, .int .u64 d.2.2.2.2] 38)).mono b6.size))
          have HM6 := Lib.hid (HMJ.out.later HB6.out)
          have HP6 := Lib.hid (HPJ.out.only (only_below (fun _ => False) HB6.out) id)
          have HO6 := Lib.hid (HOJ.out.then_below HB6.out)
          clear b6
          go_wp2_with fail
          refine (DeedDo.Do_any HM6.out d).mono ?_
          rintro e7 w7 ⟨rfl, g7, m7⟩
          have HM7 := Lib.hid m7
          have HP7 := Lib.hid (HP6.out.only (R := fun k => k = h) (only_grown g7 fun k e => by cases e; rfl) (fun e => by have := HP.out; have := HBW.out; omega))
          have HO7 := Lib.hid (HO6.out.trans (only_grown g7 fun k e => by cases e; rfl))
          clear g7 m7
          go_wp2_with fail
          refine (Adv_tell HP7.out (fits_found HFJ.out d)).mono ?_
          rintro e8 w8 ⟨rfl, p8, o8⟩
          have H8 := Lib.hid (show Amid w4 pc h n p (T : Int) (S : Int) (L : Int) G l' s' (j + 1) w8 from ⟨_, _, by have := HE.out.1; omega, ⟨HM7.out.1, HM7.out.2.1, HM7.out.2.2.1, o8.cell HM7.out.box (show ¬ pc = p by have := HP.out; have := HBW.out; omega), o8.own HM7.out.own (fun k e => by cases e; show ¬ h = p; have := HP.out; have := HBW.out; omega)⟩, fits_next HFJ.out HDF.out, p8, HE.out.2, HO7.out.more o8 fun k e => .inr (by subst e; exact HP.out.1)⟩)
          have hj19 := HE.out.1
          clear p8 o8
          go_wp2
          go_roundw
          case rel => exact ⟨j + 1, by go_num, H8.out⟩
          case measure => simp [intOf]; omega

theorem walk (x : Int × Int × Int × Int) (e z0 z1 z2 z3 z4 z5 z6 z7 : Int) (_ : (Lit.int .i64 x.1).wf = true) (_ : (Lit.int .i64 x.2.1).wf = true) (_ : (Lit.int .i64 x.2.2.1).wf = true) (hg : (Lit.int .u64 x.2.2.2).wf = true) (he : (Lit.int .u64 e).wf = true)
    (h0 : (Lit.int .u64 z0).wf = true) (h1 : (Lit.int .u64 z1).wf = true) (h2 : (Lit.int .u64 z2).wf = true) (h3 : (Lit.int .u64 z3).wf = true) (h4 : (Lit.int .u64 z4).wf = true) (h5 : (Lit.int .u64 z5).wf = true) (h6 : (Lit.int .u64 z6).wf = true) (h7 : (Lit.int .u64 z7).wf = true) (w : World) (_ : True) :
    Calls Tryd.prog 3 #[.agg #[.int .i64 x.1, .int .i64 x.2.1, .int .i64 x.2.2.1, .int .u64 x.2.2.2], .int .u64 e, .agg ([z0, z1, z2, z3, z4, z5, z6, z7].map (Value.int .u64)).toArray] w fun e w' => e = .returned (.bool true) ∧ Below w.heap.size w w' := by
  obtain ⟨T, S, L, G⟩ := x
  show Calls Tryd.prog 3 #[.agg #[.int .i64 T, .int .i64 S, .int .i64 L, .int .u64 G], .int .u64 e, .agg #[.int .u64 z0, .int .u64 z1, .int .u64 z2, .int .u64 z3, .int .u64 z4, .int .u64 z5, .int .u64 z6, .int .u64 z7]] w _
  cases h : rightB T S L G
  · exact walk_no T S L G e z0 z1 z2 z3 z4 z5 z6 z7 h w
  · have hr := right_is h
    have hG := (wf_u64 hg).1
    obtain ⟨a, rfl⟩ := Int.eq_ofNat_of_zero_le (show 0 ≤ T by have := hr.1; omega)
    obtain ⟨b, rfl⟩ := Int.eq_ofNat_of_zero_le (show 0 ≤ S by have := hr.2.2.1; omega)
    obtain ⟨d, rfl⟩ := Int.eq_ofNat_of_zero_le (show 0 ≤ L by have := hr.2.2.2.2.1; omega)
    refine walk_yes a b d G e z0 z1 z2 z3 z4 z5 z6 z7 h hG (wf_u64 he) ?_ w
    intro z hz
    simp only [List.mem_cons, List.not_mem_nil, or_false] at hz
    rcases hz with rfl | rfl | rfl | rfl | rfl | rfl | rfl | rfl <;> exact wf_u64 (by assumption)
theorem laidOut : laidOutB Tryd.prog = true := by kernel_rfl
theorem own : ownKnob Tryd.prog.godebug = none := by kernel_rfl
theorem door_met (os : Os) (args : Array Value) : laidMetH Tryd.prog Rows.epochGoesRow.laid ((World.doorLaid Tryd.prog 400 os).forCall (fun _ _ => 0) ⟨#[], args, []⟩).memory :=
  laidMetH_of_parts3 (fuel := 8) (laidMet_of_run' 8 (by kernel_rfl) (by kernel_rfl)) (by kernel_rfl) (by kernel_rfl)
set_option maxRecDepth 100000 in
theorem lifted (os : Os) (started : os.Started) (H : Type) (enc : TypeId × Value → H) :
    ReturnsInHanded {} Tryd.checked os 3 .any (fun w args => (Rows.epochGoesSpec.pre enc Tryd.prog Tryd.f3 [] false w args ∧ laidMetH Tryd.prog Rows.epochGoesRow.laid w) ∧ sizedMet enc Tryd.prog Tryd.f3 (OpenSpec.ofChange Rows.epochGoesSpec) false w args) (Rows.epochGoesSpec.post enc Tryd.prog Tryd.f3 false true false false) := by
  refine Frame.liftedLaid (C := Tryd.checked) (fn := Tryd.f3) (tb := 4) own started (by kernel_rfl) Tryd.func3
    (ChangeSpec.witness_shaped (enc := enc) (C := Tryd.checked) (os := os) (X := fun w _ => laidMetH Tryd.prog Rows.epochGoesRow.laid w) false (World.doorLaid Tryd.prog 400 os) #[.agg #[.int .i64 0, .int .i64 0, .int .i64 0, .int .u64 0], .int .u64 0, .agg #[.int .u64 0, .int .u64 0, .int .u64 0, .int .u64 0, .int .u64 0, .int .u64 0, .int .u64 0, .int .u64 0]] 8 rfl (World.shaped_of_RefB (by kernel_rfl) (by kernel_rfl)) (by kernel_rfl) (by kernel_rfl) (by kernel_rfl) (door_met os _))
    rfl rfl Tryd.underlying4 laidOut (by kernel_rfl) (fun ds h => by match ds, h with | [_, _, _], _ => rfl) ?_
  intro W base args ds ps hval0 hA0 hlt hL
  have hval : ∀ (j : Nat) t v, Tryd.f3.params[j]? = some t → args[j]? = some v → Value.okWide Tryd.prog W .any base t v := hval0
  have hA : DataW.TrodAll enc Tryd.prog W 0 (fun _ => true) true Tryd.f3.params.toList args.toList ds ps := hA0
  rw [Tryd.params3] at hA hval
  obtain ⟨v0, vs0, d0, ds0, p0, q0, hargs, rfl, rfl, h0, r0⟩ := trodAll_cons hA
  obtain ⟨v1, vs1, d1, ds1, p1, q1, rfl, rfl, rfl, h1, r1⟩ := trodAll_cons r0
  obtain ⟨v2, vs2, d2, ds2, p2, q2, rfl, rfl, rfl, h2, r2⟩ := trodAll_cons r1
  obtain ⟨rfl, rfl, rfl⟩ := trodAll_nil r2
  obtain rfl : args = #[v0, v1, v2] := by cases args; simp_all
  obtain ⟨x0, rfl, w0_0, w0_1, w0_2, w0_3⟩ := Open.open_four_ints Tryd.underlying24 (by kernel_rfl) (by kernel_rfl) Tryd.underlying3 Tryd.underlying3 Tryd.underlying3 Tryd.underlying22 (hval 0 24 v0 rfl rfl) h0
  obtain ⟨a1, rfl, _, _, w1⟩ := open_int Tryd.underlying22 (hval 1 22 v1 rfl rfl) h1
  obtain ⟨z2, l2, rfl, g2⟩ := Frame.open_int_array Tryd.underlying25 Tryd.underlying22 (by kernel_rfl) (by kernel_rfl) (hval 2 25 v2 rfl rfl) h2
  obtain ⟨a2_0, a2_1, a2_2, a2_3, a2_4, a2_5, a2_6, a2_7, rfl, w2_0, w2_1, w2_2, w2_3, w2_4, w2_5, w2_6, w2_7⟩ := Frame.eight_of l2 g2
  refine (walk x0 a1 a2_0 a2_1 a2_2 a2_3 a2_4 a2_5 a2_6 a2_7 w0_0 w0_1 w0_2 w0_3 w1 w2_0 w2_1 w2_2 w2_3 w2_4 w2_5 w2_6 w2_7 W (held hL)).mono fun e W' h => ?_
  exact h

theorem over : Rows.epochGoesRow.holds Tryd.pinned (OpenSpec.ofChange Rows.epochGoesSpec) :=
  OpenClaim.holds_of_wide 3 Tryd.f3 rfl rfl rfl rfl rfl rfl rfl ⟨rfl, rfl, rfl, rfl, rfl⟩ rfl rfl rfl rfl rfl (by kernel_rfl) Tryd.func3 (by kernel_rfl)
    (of_decide_eq_true (by kernel_rfl)) (by unfold Func.isWrapper; first | (rw [if_pos (by decide +kernel)]; kernel_rfl) | (rw [if_neg (by decide +kernel)]; exact ⟨rfl, rfl⟩))
    (fun os started H enc _ => lifted os started H enc)

theorem proved : Rows.EpochGoesCardSaid :=
  Claim7.holds_tied_plain_at .later [] Rows.epochGoesCard.laidKinds true Rows.epochGoesCard.stood.harness Rows.epochGoesCard.stood.looks
    over (fun _ h => by cases h) (by kernel_rfl) (fun _ h => by cases h) epochGoes_row_tie rfl ⟨rfl, rfl⟩ (by kernel_rfl) rfl
    (fun f fn hf hfn => by
      obtain rfl : f = 3 := Option.some.inj ((show Tryd.prog.funcNamed Rows.epochGoesRow.func = some 3 by kernel_rfl).symm.trans hf) |>.symm
      obtain rfl : fn = Tryd.f3 := (Option.some.inj (Tryd.func3.symm.trans hfn)).symm
      exact ⟨by kernel_rfl, fun j t ht => by
        rw [Tryd.params3] at ht
        have hm : t ∈ [24, 22, 25] := by simpa using Array.mem_of_getElem? ht
        have hall : ([24, 22, 25].all fun u => !Tryd.prog.wantsStandIn u) = true := by kernel_rfl
        exact (show Tryd.prog.wantsStandIn t = false by simpa using List.all_eq_true.1 hall t hm)⟩)
    (by kernel_rfl)
#print axioms proved
end Go.Proofs.YtbnckdleacieiaaDoor.EpochGoes
