/- SeekFinds: for every plan, every list of words and every key, where the document calls the chains that the words tell right, a seeker that is done alone to a memory of these words is done soon, and finds at each level the last one without a mark that is less and the first one that is not; the way on of the one leads to the other then, and no chain has lost one without a mark (where it does not call them right just the chapter's example is asked); and that example comes out; the arguments read as they did. Condition: the library's listed tables hold what its own text lays in them (tied by the card). -/
import Derived.Test.YtohbmocmdbhjnaaGreatDoorSeekAwake
import Derived.Test.YtohbmocmdbhjnaaGreatDoorSeekGood
import Derived.Test.YtohbmocmdbhjnaaGreatDoorSeekAloneMath
import Derived.Test.YtohbmocmdbhjnaaGreatDoorDeedDo
import Derived.Test.YtohbmocmdbhjnaaGreatDoorFour
import Derived.Test.YtohbmocmdbhjnaaGreatDoorFrame
import Derived.Test.YtohbmocmdbhjnaaGreatDoorFrameLaid
import Derived.Test.YtohbmocmdbhjnaaGreatDoorTie
import Derived.Test.YtohbmocmdbhjnaaGreatDoorCards
namespace Go.Proofs.YtohbmocmdbhjnaaGreatDoor.SeekFinds
set_option maxRecDepth 20000
open Go.ChangeShapes Go.WideShapes Go.ChangeAt Go.RowKit CM DM PM KM MM Runs Lay Plan Ints Go.Proofs.YtohbmocmdbhjnaaGreatDoor.Task
open Go.Proofs.YtohbmocmdbhjnaaGreatDoor.Cells (Mem Does Of_any Words_any)
open Go.Proofs.YtohbmocmdbhjnaaGreatDoor.Seek (Seeks Seek_any Next_any Tell_any Preds_any Succs_any)
open Go.Proofs.YtohbmocmdbhjnaaGreatDoor.SeekRef (Good_all Find_any Way_any Kept_any right_nat kept_few kept_refs finds_fun)
open Go.Proofs.YtohbmocmdbhjnaaGreatDoor.Law18 (awake_any wf_u64 wf_i64 chain ba)
set_option linter.unusedVariables false
set_option linter.unusedSimpArgs false

theorem held {W : World} (h : laidMetH Tryz.prog Rows.seekFindsRow.laid W) : True := trivial
/-- What the law's own boxes hold. -/
def Boxes (W : World) (N0 : Nat) (T N L G dl sq : Int) : Prop := (W.cell? ⟨N0, 0, none⟩ = some (.int .i64 T) ∧ W.cell? ⟨N0, 1, none⟩ = some (.int .i64 N) ∧ W.cell? ⟨N0, 2, none⟩ = some (.int .i64 L) ∧ W.cell? ⟨N0, 3, none⟩ = some (.int .u64 G)) ∧ W.cell? ⟨N0 + 1, 0, none⟩ = some (.int .i64 dl) ∧ W.cell? ⟨N0 + 1, 1, none⟩ = some (.int .u64 sq)
theorem boxes_start (w : World) (T N L G dl sq : Int) : Boxes ((w.alloc (.cells #[.int .i64 T, .int .i64 N, .int .i64 L, .int .u64 G] 24)).alloc (.cells #[.int .i64 dl, .int .u64 sq] 27)) w.heap.size T N L G dl sq := by
  have h0 := box4 w (.int .i64 T) (.int .i64 N) (.int .i64 L) (.int .u64 G) 24
  have hb : Below (w.alloc (.cells #[.int .i64 T, .int .i64 N, .int .i64 L, .int .u64 G] 24)).heap.size (w.alloc (.cells #[.int .i64 T, .int .i64 N, .int .i64 L, .int .u64 G] 24)) ((w.alloc (.cells #[.int .i64 T, .int .i64 N, .int .i64 L, .int .u64 G] 24)).alloc (.cells #[.int .i64 dl, .int .u64 sq] 27)) := box_below _ _
  have k0 := (cell_heap (new_heap (w.alloc (.cells #[.int .i64 T, .int .i64 N, .int .i64 L, .int .u64 G] 24)) (.cells #[.int .i64 dl, .int .u64 sq] 27)) 0).1
  have k1 := (cell_heap (new_heap (w.alloc (.cells #[.int .i64 T, .int .i64 N, .int .i64 L, .int .u64 G] 24)) (.cells #[.int .i64 dl, .int .u64 sq] 27)) 1).1
  rw [World.size_alloc] at k0 k1
  exact ⟨⟨cell_later hb h0.1, cell_later hb h0.2.1, cell_later hb h0.2.2.1, cell_later hb h0.2.2.2⟩, k0, k1⟩
theorem Boxes.later {w W : World} {N0 : Nat} {T N L G dl sq : Int} (h : Boxes w N0 T N L G dl sq) (hb : Below w.heap.size w W) : Boxes W N0 T N L G dl sq :=
  ⟨⟨cell_later hb h.1.1, cell_later hb h.1.2.1, cell_later hb h.1.2.2.1, cell_later hb h.1.2.2.2⟩, cell_later hb h.2.1, cell_later hb h.2.2⟩
theorem past_later {w W W' : World} {o1 o2 : Obj} (h : Below (w.heap.size + 2) ((w.alloc o1).alloc o2) W) (hb : Below W.heap.size W W') : Below (w.heap.size + 2) ((w.alloc o1).alloc o2) W' := h.trans (hb.mono (by have := h.size; simp only [World.size_alloc] at this; omega))
theorem past_all {w W : World} {o1 o2 : Obj} (h : Below (w.heap.size + 2) ((w.alloc o1).alloc o2) W) : Below ((w.alloc o1).alloc o2).heap.size ((w.alloc o1).alloc o2) W := by simp only [World.size_alloc]; exact h
theorem past_old {w W : World} {o1 o2 : Obj} (h : Below (w.heap.size + 2) ((w.alloc o1).alloc o2) W) : Below w.heap.size w W := ((box_below w o1).alloc (by simp) _).trans (h.mono (by omega))
/-- Amid the seeking. -/
def Amid (B pc hc n q : Nat) (T N L G dl sq : Int) (lf : List Int) (sf : St) (j : Nat) (wr : World) : Prop :=
  ∃ m s S, j ≤ 2000 ∧ Mem wr pc hc n m ∧ BM.Fits m ∧ Seeks wr q S T N L G dl sq j s ∧ alone (seekA T L) (seekT L dl sq) (2000 - j) m s = (lf, sf) ∧ ¬ S pc ∧ ¬ S hc ∧ (∀ k, S k → B ≤ k)
theorem Words_new {p h n : Nat} {l : List Int} {w : World} (hM : Mem w p h n l) : Calls Tryz.prog 13 #[.pointer (some ⟨p, 0, none⟩)] w fun e w' => ∃ A, e = .returned (.slice A n n) ∧ Row w' w'.heap.size A (flat (encZ .u64) l) ∧ Below w.heap.size w w' :=
  (Words_any hM).mono fun _ _ ⟨he, ho, hb⟩ => ⟨_, he, Row.of_own ho, hb⟩

set_option maxHeartbeats 4000000 in
theorem walk_any (T N L G dl sq : Int) (A : Option Addr) (l : List Int) (c : Nat) (w : World) (hR : Row w w.heap.size A (flat (encZ .u64) l)) (hl : l.length ≤ maxLen) (hf : BM.Fits l) (hL9 : L ≤ 9223372036854775807) :
    Calls Tryz.prog 3 #[.agg #[.int .i64 T, .int .i64 N, .int .i64 L, .int .u64 G], .slice A l.length c, .agg #[.int .i64 dl, .int .u64 sq]] w fun e w' => e = .returned (.bool true) ∧ Below w.heap.size w w' := by
  obtain ⟨n, hn⟩ : ∃ n, n = l.length := ⟨_, rfl⟩
  rw [← hn] at hl ⊢
  have HN := Lib.hid hn
  have HF := Lib.hid hf
  have HLM := Lib.hid hl
  have HROW := Lib.hid (show ∀ W, Below (w.heap.size + 2) ((w.alloc (.cells #[.int .i64 T, .int .i64 N, .int .i64 L, .int .u64 G] 24)).alloc (.cells #[.int .i64 dl, .int .u64 sq] 27)) W → Row W W.heap.size A (flat (encZ .u64) l) from fun W hb => hR.later (past_old hb))
  have HBX := Lib.hid (show ∀ W, Below (w.heap.size + 2) ((w.alloc (.cells #[.int .i64 T, .int .i64 N, .int .i64 L, .int .u64 G] 24)).alloc (.cells #[.int .i64 dl, .int .u64 sq] 27)) W → Boxes W w.heap.size T N L G dl sq from fun W hb => (boxes_start w T N L G dl sq).later (past_all hb))
  have HL9 := Lib.hid hL9
  unfold maxLen at hl
  clear hn hf hR hL9
  obtain ⟨⟨c_0, c_1, c_2, c_3⟩, k_0, k_1⟩ := HBX.out _ (Below.refl _ _)
  go_enter Tryz.func3, Tryz.ntmps3
  go_wp2_with fail
  refine (Good_all c HN.out HLM.out (HROW.out _ (Below.refl _ _)) HF.out T N L G).mono ?_
  rintro e w1 ⟨b, rfl, b1, hb⟩
  have HB1 := Lib.hid (past_later (Below.refl _ _) b1)
  clear b1 c_0 c_1 c_2 c_3 k_0 k_1
  cases b with
  | false =>
    clear hb
    go_wp2_with fail
    refine (awake_any _).mono ?_
    rintro e w2 ⟨rfl, b2⟩
    go_wp2
    go_ret
    exact ⟨rfl, chain (past_old HB1.out) b2⟩
  | true =>
    obtain ⟨T, N, L, rfl, rfl, rfl, hr, hlen, hg⟩ := hb rfl
    obtain ⟨t1, t8, s1, s64, l1, l8⟩ := right_nat hr
    have hw4 := words_small (T := T) (S := N) (L := L) t8 s64 l8
    have hn4 : n ≤ 4096 := by have := HN.out; omega
    obtain ⟨lf, sf, R, hal, hst, hps, hss, hlf, hff, hfd, hfr, hres⟩ := finds_fun (n := 2000) (dl := dl) (sq := sq) (by omega) t8 s64 l8 hlen HF.out hg
    have HAL := Lib.hid hal
    have HST := Lib.hid hst
    have HPS := Lib.hid hps
    have HSS := Lib.hid hss
    have HLF := Lib.hid (show n = lf.length from by rw [hlf, ← hlen]; exact HN.out)
    have HFF := Lib.hid hff
    have HL8 := Lib.hid l8
    have HFIND := Lib.hid (show ∀ (g : Nat) W, Below (w.heap.size + 2) ((w.alloc (.cells #[.int .i64 T, .int .i64 N, .int .i64 L, .int .u64 G] 24)).alloc (.cells #[.int .i64 dl, .int .u64 sq] 27)) W → Calls Tryz.prog 14 #[.slice A n c, .agg #[.int .i64 T, .int .i64 N, .int .i64 L, .int .u64 G], .agg #[.int .i64 dl, .int .u64 sq], .int .i64 g] W fun e w' => e = .returned (.tuple #[.int .u64 (R g).1, .int .u64 (R g).2]) ∧ Below W.heap.size W w' from fun g W hb => by
      rw [← hfd g]
      exact Find_any c HN.out (by omega) (HROW.out W hb) HF.out s64 g)
    have HK1 := Lib.hid (show ∀ (g : Nat) (A7 : Option Addr) (c7 : Nat) W, Row W W.heap.size A7 (flat (encZ .u64) lf) → g < L → Calls Tryz.prog 17 #[.slice A7 n c7, .agg #[.int .i64 T, .int .i64 N, .int .i64 L, .int .u64 G], .int .i64 g] W (SeekRef.Listed W (keptL T L N l g)) from fun g A7 c7 W hr hg => by
      rw [← (hres g hg).2]
      exact Kept_any c7 HLF.out (by omega) hr HFF.out s64 g)
    have HK2 := Lib.hid (show ∀ (g : Nat) W, Below (w.heap.size + 2) ((w.alloc (.cells #[.int .i64 T, .int .i64 N, .int .i64 L, .int .u64 G] 24)).alloc (.cells #[.int .i64 dl, .int .u64 sq] 27)) W → Calls Tryz.prog 17 #[.slice A n c, .agg #[.int .i64 T, .int .i64 N, .int .i64 L, .int .u64 G], .int .i64 g] W (SeekRef.Listed W (keptL T L N l g)) from fun g W hb => Kept_any c HN.out (by omega) (HROW.out W hb) HF.out s64 g)
    have HWY := Lib.hid (show ∀ (g : Nat) (A7 : Option Addr) (c7 : Nat) W, Row W W.heap.size A7 (flat (encZ .u64) lf) → g < L → Calls Tryz.prog 15 #[.slice A7 n c7, .agg #[.int .i64 T, .int .i64 N, .int .i64 L, .int .u64 G], .int .u64 (R g).1, .int .i64 g] W fun e w' => e = .returned (.int .u64 (R g).2) ∧ Below W.heap.size W w' from fun g A7 c7 W hr hg => by
      rw [← (hres g hg).1]
      exact Way_any c7 HLF.out (by omega) hr T N L G g (hfr g))
    have HKF := Lib.hid (show ∀ g : Nat, (keptL T L N l g).length ≤ maxLen from fun g => Nat.le_trans (kept_few HF.out g) (by simp only [maxLen]; omega))
    obtain ⟨KL, hKL⟩ : ∃ KL : Nat → List Int, ∀ g : Nat, keptL T L N l g = KL g := ⟨_, fun g => rfl⟩
    simp only [hKL] at HK1 HK2 HKF
    clear hr hg hal hst hps hss hlf hff hfd hfr hres hlen hb hw4 hKL
    obtain ⟨⟨c_0, c_1, c_2, c_3⟩, k_0, k_1⟩ := HBX.out _ HB1.out
    go_wp2_with fail
    refine (Of_any (HROW.out _ HB1.out) HN.out hn4).mono ?_
    rintro e w2 ⟨pc, hc, rfl, m2, p2, h2, b2⟩
    have HB2 := Lib.hid (past_later HB1.out b2)
    have HM2 := Lib.hid m2
    have HP2 := Lib.hid (show w.heap.size + 2 ≤ pc ∧ w.heap.size + 2 ≤ hc from by have h3 := HB1.out.size; simp only [World.size_alloc] at h3; omega)
    clear m2 p2 h2 b2 c_0 c_1 c_2 c_3 k_0 k_1
    obtain ⟨⟨c_0, c_1, c_2, c_3⟩, k_0, k_1⟩ := HBX.out _ HB2.out
    go_wp2_with fail
    refine (Seek_any T N L G dl sq HL9.out _).mono ?_
    rintro e w3 ⟨q, Q, rfl, s3, q3, b3⟩
    have HB3 := Lib.hid (past_later HB2.out b3)
    have H3 := Lib.hid (show Amid (w.heap.size + 2) pc hc n q T N L G dl sq lf sf 0 w3 from ⟨l, _, Q, by omega, HM2.out.later b3, HF.out, s3, HAL.out, fun e => by have h4 := (q3 _ e).1; have h5 := HM2.out.lt; omega, fun e => by have h4 := (q3 _ e).1; have h5 := HM2.out.lt; omega, fun k e => by have h4 := (q3 _ e).1; have h5 := HB2.out.size; simp only [World.size_alloc] at h5; omega⟩)
    clear s3 q3 b3 c_0 c_1 c_2 c_3 k_0 k_1
    go_wp2
    go_loopw [10] (fun iv wr => ∃ j : Nat, iv = .int .i64 j ∧ Amid (w.heap.size + 2) pc hc n q T N L G dl sq lf sf j wr ∧ Below (w.heap.size + 2) ((w.alloc (.cells #[.int .i64 T, .int .i64 N, .int .i64 L, .int .u64 G] 24)).alloc (.cells #[.int .i64 dl, .int .u64 sq] 27)) wr) (fun iv _ => 4000 - (intOf iv).toNat)
    case atStart => exact ⟨0, rfl, H3.out, HB3.out⟩
    case round =>
      obtain ⟨j, rfl, ⟨m, s, S, hj, hm, hfm, hs, ha, hnp, hnh, hSB⟩, hb⟩ := hrel
      have HM := Lib.hid hm
      have HFM := Lib.hid hfm
      have HS := Lib.hid hs
      have HA := Lib.hid ha
      have HNS := Lib.hid (And.intro hnp (And.intro hnh hSB))
      have HB := Lib.hid hb
      have hj4 : (j : Int) < 4000 := by omega
      have HNX := Lib.hid (Next_any hs)
      clear hm hfm hs ha hnp hnh hSB hb
      cases hx : seekA (T : Int) (L : Int) s with
      | none =>
        have HE := Lib.hid (show m = lf ∧ s = sf by have := HA.out; rw [alone_done hx] at this; simpa using this)
        rw [hx] at HNX
        clear hx
        go_wp2_with fail
        refine HNX.out.mono ?_
        rintro e w4 ⟨rfl, b4⟩
        simp only [Option.getD_none, Option.isSome_none]
        have HB4 := Lib.hid (b4.trans ((box_below w4 (.cells #[.int .i64 0, .int .i64 0, .int .u64 0, .int .u64 0, .int .u64 0] 37)).mono b4.size))
        clear b4
        go_upto_region 11 with fail
        have HP4 := Lib.hid (past_later HB.out HB4.out)
        have HM4 := Lib.hid (show Mem (w4.alloc (.cells #[.int .i64 0, .int .i64 0, .int .u64 0, .int .u64 0, .int .u64 0] 37)) pc hc n lf from HE.out.1 ▸ HM.out.later HB4.out)
        have HS4 := Lib.hid (show ∀ W, Below (w4.alloc (.cells #[.int .i64 0, .int .i64 0, .int .u64 0, .int .u64 0, .int .u64 0] 37)).heap.size (w4.alloc (.cells #[.int .i64 0, .int .i64 0, .int .u64 0, .int .u64 0, .int .u64 0] 37)) W → Seeks W q S T N L G dl sq j sf from fun W hb => by
          obtain ⟨ho, hL, A1, c1, A2, c2, hp⟩ := HE.out.2 ▸ HS.out
          exact ⟨ho, hL, A1, c1, A2, c2, (hp.later HB4.out).later hb⟩)
        have HPR := Lib.hid (show ∀ W, Below (w4.alloc (.cells #[.int .i64 0, .int .i64 0, .int .u64 0, .int .u64 0, .int .u64 0] 37)).heap.size (w4.alloc (.cells #[.int .i64 0, .int .i64 0, .int .u64 0, .int .u64 0, .int .u64 0] 37)) W → Calls Tryz.prog 11 #[.pointer (some ⟨q, 0, none⟩)] W (Seek.Listed W ((List.range L).map fun h => (R h).1)) from fun W hb => by
          have h := Preds_any (HS4.out W hb) (by omega)
          rwa [if_pos HST.out, HPS.out] at h)
        have HSU := Lib.hid (show ∀ W, Below (w4.alloc (.cells #[.int .i64 0, .int .i64 0, .int .u64 0, .int .u64 0, .int .u64 0] 37)).heap.size (w4.alloc (.cells #[.int .i64 0, .int .i64 0, .int .u64 0, .int .u64 0, .int .u64 0] 37)) W → Calls Tryz.prog 12 #[.pointer (some ⟨q, 0, none⟩)] W (Seek.Listed W ((List.range L).map fun h => (R h).2)) from fun W hb => by
          have h := Succs_any (HS4.out W hb) (by omega)
          rwa [if_pos HST.out, HSS.out] at h)
        generalize w4.alloc (.cells #[.int .i64 0, .int .i64 0, .int .u64 0, .int .u64 0, .int .u64 0] 37) = w9 at HP4 HM4 HPR HSU ⊢
        clear HB4 HS4 HE HA HS HM HFM HNS HB
        go_wp2_with fail
        refine (HPR.out _ (Below.refl _ _)).mono ?_
        rintro e w5 ⟨A5, n5, c5, rfl, h5, r5, -, b5⟩
        have HP5 := Lib.hid (past_later HP4.out b5)
        have HR5 := Lib.hid r5
        have hn5 : n5 = L := by rw [h5]; simp
        subst hn5
        have HM5 := Lib.hid (HM4.out.later b5)
        have HB5 := Lib.hid b5
        clear r5 h5 b5
        go_wp2_with fail
        refine (HSU.out _ HB5.out).mono ?_
        rintro e w6 ⟨A6, n6, c6, rfl, h6, r6, -, b6⟩
        have HP6 := Lib.hid (past_later HP5.out b6)
        have HR6 := Lib.hid (And.intro (HR5.out.later b6) r6)
        have hn6 : n6 = n5 := by rw [h6]; simp
        subst hn6
        have HM6 := Lib.hid (HM5.out.later b6)
        have hne : ((n6 : Int) != (n6 : Int)) = false := by simp
        clear r6 h6 b6 HB5 HR5 HM5 HP5 HM4 HP4 HPR HSU
        obtain ⟨⟨c_0, c_1, c_2, c_3⟩, k_0, k_1⟩ := HBX.out _ HP6.out
        go_wp2_with fail
        refine (Words_new HM6.out).mono ?_
        rintro e w7 ⟨A7, rfl, r7, b7⟩
        have HP7 := Lib.hid (past_later HP6.out b7)
        have HR7 := Lib.hid (And.intro (HR6.out.1.later b7) (And.intro (HR6.out.2.later b7) r7))
        clear r7 b7 HR6 HM6 HP6 c_0 c_1 c_2 c_3 k_0 k_1 hne
        go_wp2
        go_loopw [16] (fun hv wr => ∃ h : Nat, h ≤ n6 ∧ hv = .int .i64 h ∧ Below w7.heap.size w7 wr) (fun hv _ => n6 - (intOf hv).toNat)
        case atStart => exact ⟨0, Nat.zero_le _, rfl, Below.refl _ _⟩
        case round =>
          obtain ⟨h, hh, rfl, hb⟩ := hrel
          have HB := Lib.hid hb
          have HPW := Lib.hid (past_later HP7.out hb)
          obtain ⟨⟨c_0, c_1, c_2, c_3⟩, k_0, k_1⟩ := HBX.out _ HPW.out
          clear hb
          by_cases hlt : h < n6
          · have hil : (h : Int) < (n6 : Int) := by omega
            go_wp2_with fail
            refine (HFIND.out h _ HPW.out).mono ?_
            rintro e w8 ⟨rfl, b8⟩
            have HB8 := Lib.hid (HB.out.trans (b8.mono HB.out.size))
            have HP8 := Lib.hid (past_later HPW.out b8)
            obtain ⟨b1, o1, rfl, -, hc1⟩ := int_at (HR7.out.1.later HB8.out) (i := h) (by simpa using hlt)
            obtain ⟨b2, o2, rfl, -, hc2⟩ := int_at (HR7.out.2.1.later HB8.out) (i := h) (by simpa using hlt)
            have q1 := hc1 h (R h).1 (by simp [hlt])
            have q2 := hc2 h (R h).2 (by simp [hlt])
            have HRN := Lib.hid HR7.out.2.2
            have HW := Lib.hid (show ∀ W, Below w7.heap.size w7 W → Calls Tryz.prog 15 #[.slice A7 n n, .agg #[.int .i64 T, .int .i64 N, .int .i64 n6, .int .u64 G], .int .u64 (R h).1, .int .i64 h] W fun e w' => e = .returned (.int .u64 (R h).2) ∧ Below W.heap.size W w' from fun W hb => HWY.out h A7 n W (HRN.out.later hb) hlt)
            have HKN := Lib.hid (show ∀ W, Below w7.heap.size w7 W → Calls Tryz.prog 17 #[.slice A7 n n, .agg #[.int .i64 T, .int .i64 N, .int .i64 n6, .int .u64 G], .int .i64 h] W (SeekRef.Listed W (KL h)) from fun W hb => HK1.out h A7 n W (HRN.out.later hb) hlt)
            generalize (R h).1 = x at q1 HW
            generalize (R h).2 = y at q2 HW
            have hx : (x != x) = false := by simp
            have hy : (y != y) = false := by simp
            have HST6 := Lib.hid (show ∀ W, Below w8.heap.size w8 W → (W.cell? ⟨w.heap.size, 0, none⟩ = some (.int .i64 T) ∧ W.cell? ⟨w.heap.size, 1, none⟩ = some (.int .i64 N) ∧ W.cell? ⟨w.heap.size, 2, none⟩ = some (.int .i64 n6) ∧ W.cell? ⟨w.heap.size, 3, none⟩ = some (.int .u64 G)) ∧ W.cell? ⟨b1, o1 + h, none⟩ = some (.int .u64 x) ∧ W.cell? ⟨b2, o2 + h, none⟩ = some (.int .u64 y) from fun W hb => ⟨(HBX.out W (past_later HP8.out hb)).1, cell_later hb q1, cell_later hb q2⟩)
            clear b8 hc1 hc2 q1 q2 c_0 c_1 c_2 c_3 k_0 k_1
            go_upto_region 19 with fail
            go_region_held3 (fun W => (W.cell? ⟨w.heap.size, 0, none⟩ = some (.int .i64 T) ∧ W.cell? ⟨w.heap.size, 1, none⟩ = some (.int .i64 N) ∧ W.cell? ⟨w.heap.size, 2, none⟩ = some (.int .i64 n6) ∧ W.cell? ⟨w.heap.size, 3, none⟩ = some (.int .u64 G)) ∧ W.cell? ⟨b1, o1 + h, none⟩ = some (.int .u64 x) ∧ W.cell? ⟨b2, o2 + h, none⟩ = some (.int .u64 y))
              ((first | (with_reducible exact HST6.out _ (Below.refl _ _).drew) | (with_reducible assumption) | (with_reducible exact HST6.out _ HB9.out) | (with_reducible exact HST6.out _ HB10.out) | (with_reducible exact HST6.out _ HB11.out) | (with_reducible exact HST6.out _ HB12.out)))
              (first
                | (go_at_call 15; refine (HW.out _ HB8.out.drew).mono ?_; rintro e w9 ⟨rfl, hb⟩; have HB9 := Lib.hid (show Below w8.heap.size w8 w9 from (Below.refl _ _).drew.trans hb); clear hb)
                | (go_at_call 17; (with_reducible refine (HKN.out _ (chain HB8.out HB9.out)).mono ?_); rintro e w10 ⟨A10, n10, c10, rfl, h10, r10, -, hb⟩; have HB10 := Lib.hid (chain HB9.out hb); have HR10 := Lib.hid (And.intro h10 r10); clear h10 r10 hb)
                | (go_at_call 17; (with_reducible refine (HK2.out h _ (past_later HP8.out HB10.out)).mono ?_); rintro e w11 ⟨A11, n11, c11, rfl, h11, r11, -, hb⟩; have HB11 := Lib.hid (chain HB10.out hb); have HR11 := Lib.hid (And.intro (HR10.out.2.later hb) (And.intro h11 r11)); clear h11 r11 hb)
                | (go_at_call 16; refine (CellsRef.Same_yes (l := KL h) HR10.out.1 HR11.out.2.1 HR11.out.1 HR11.out.2.2 (HKF.out h)).mono ?_; rintro e w12 ⟨rfl, hb⟩; have HB12 := Lib.hid (chain HB11.out hb); clear hb))
            have HB13 := Lib.hid (chain HB8.out HB12.out)
            go_wp2
            go_roundw
            case rel => exact ⟨h + 1, by omega, by go_num, HB13.out⟩
            case measure => simp [intOf]; omega
          · obtain rfl : h = n6 := by omega
            go_wp2_with fail
            refine (awake_any _).mono ?_
            rintro e w8 ⟨rfl, b8⟩
            go_wp2
            go_ret
            exact ⟨rfl, chain (past_old HPW.out) b8⟩
      | some d =>
        have HE := Lib.hid (show j < 2000 ∧ alone (seekA (T : Int) (L : Int)) (seekT (L : Int) dl sq) (2000 - (j + 1)) (nextD m d) (seekT (L : Int) dl sq s (foundD m d)) = (lf, sf) by
          by_cases h0 : j = 2000
          · exfalso
            have h1 := HA.out
            subst h0
            simp only [Nat.sub_self, alone, Prod.mk.injEq] at h1
            have h2 := HST.out
            rw [← h1.2] at h2
            unfold seekA at hx
            simp [h2] at hx
          · have h1 := HA.out
            rw [show 2000 - j = (2000 - (j + 1)) + 1 by omega, alone_more hx] at h1
            exact ⟨by omega, h1⟩)
        have HDF := Lib.hid (seek_fits HS.out.1 hx)
        rw [hx] at HNX
        clear hx
        go_wp2_with fail
        refine HNX.out.mono ?_
        rintro e w4 ⟨rfl, b4⟩
        simp only [Option.getD_some, Option.isSome_some]
        have HB4 := Lib.hid (b4.trans ((box_below w4 (.cells #[.int .i64 d.1, .int .i64 d.2.1, .int .u64 d.2.2.1, .int .u64 d.2.2.2.1, .int .u64 d.2.2.2.2] 37)).mono b4.size))
        have HP4 := Lib.hid (past_later HB.out HB4.out)
        have HM4 := Lib.hid (HM.out.later HB4.out)
        have HS4 := Lib.hid (show Seeks (w4.alloc (.cells #[.int .i64 d.1, .int .i64 d.2.1, .int .u64 d.2.2.1, .int .u64 d.2.2.2.1, .int .u64 d.2.2.2.2] 37)) q S T N L G dl sq j s from by
          obtain ⟨ho, hL, A1, c1, A2, c2, hp⟩ := HS.out
          exact ⟨ho, hL, A1, c1, A2, c2, hp.later HB4.out⟩)
        clear b4
        go_wp2_with fail
        refine (DeedDo.Do_any HM4.out d).mono ?_
        rintro e w5 ⟨rfl, g5, m5⟩
        have HM5 := Lib.hid m5
        have HO5 := Lib.hid (only_grown (R := fun k => k = hc) g5 fun k e => by cases e; rfl)
        have HS5 := Lib.hid (show Seeks w5 q S T N L G dl sq j s from by
          obtain ⟨ho, hL, A1, c1, A2, c2, hp⟩ := HS4.out
          exact ⟨ho, hL, A1, c1, A2, c2, hp.only HO5.out (fun k z e => HNS.out.2.1 (e ▸ z))⟩)
        have HP5 := Lib.hid (show Below (w.heap.size + 2) ((w.alloc (.cells #[.int .i64 T, .int .i64 N, .int .i64 L, .int .u64 G] 24)).alloc (.cells #[.int .i64 dl, .int .u64 sq] 27)) w5 from HP4.out.trans (HO5.out.below (by have h3 := HP4.out.size; simp only [World.size_alloc] at h3 ⊢; omega) (fun k e => by subst e; exact HP2.out.2)))
        clear g5 m5
        go_wp2_with fail
        refine (Tell_any HS5.out (by omega) (fits_found HFM.out d)).mono ?_
        rintro e w6 ⟨rfl, S6, s6, o6, k6⟩
        have HP6 := Lib.hid (show Below (w.heap.size + 2) ((w.alloc (.cells #[.int .i64 T, .int .i64 N, .int .i64 L, .int .u64 G] 24)).alloc (.cells #[.int .i64 dl, .int .u64 sq] 27)) w6 from HP5.out.trans (o6.below (by have h3 := HP5.out.size; simp only [World.size_alloc] at h3; omega) HNS.out.2.2))
        have H6 := Lib.hid (show Amid (w.heap.size + 2) pc hc n q T N L G dl sq lf sf (j + 1) w6 from ⟨_, _, S6, by have := HE.out.1; omega, ⟨HM5.out.1, HM5.out.2.1, HM5.out.2.2.1, o6.cell HM5.out.box HNS.out.1, o6.own HM5.out.own (fun k e => by cases e; exact HNS.out.2.1)⟩, fits_next HFM.out HDF.out, s6, HE.out.2,
          fun z => (k6 _ z).elim HNS.out.1 (fun z => by have h5 := HM5.out.lt; omega), fun z => (k6 _ z).elim HNS.out.2.1 (fun z => by have h5 := HM5.out.lt; omega), fun k z => (k6 k z).elim (HNS.out.2.2 k) (fun z => by have h5 := HP5.out.size; simp only [World.size_alloc] at h5; omega)⟩)
        have hj2 := HE.out.1
        clear s6 o6 k6
        go_wp2
        go_roundw
        case rel => exact ⟨j + 1, by go_num, H6.out, HP6.out⟩
        case measure => simp [intOf]; omega

theorem walk (x : Int × Int × Int × Int) (A : Option Addr) (l : List Int) (c : Nat) (y : Int × Int) (_ : (Lit.int .i64 x.1).wf = true) (_ : (Lit.int .i64 x.2.1).wf = true) (hL : (Lit.int .i64 x.2.2.1).wf = true) (_ : (Lit.int .u64 x.2.2.2).wf = true) (_ : (Lit.int .i64 y.1).wf = true) (_ : (Lit.int .u64 y.2).wf = true) (w : World)
    (hR : Row w w.heap.size A (flat (encZ .u64) l)) (hl : l.length ≤ maxLen) (hw : ∀ z ∈ l, (Lit.int .u64 z).wf = true) (_ : True) :
    Calls Tryz.prog 3 #[.agg #[.int .i64 x.1, .int .i64 x.2.1, .int .i64 x.2.2.1, .int .u64 x.2.2.2], .slice A l.length c, .agg #[.int .i64 y.1, .int .u64 y.2]] w fun e w' => e = .returned (.bool true) ∧ Below w.heap.size w w' := by
  obtain ⟨T, N, L, G⟩ := x
  obtain ⟨dl, sq⟩ := y
  exact walk_any T N L G dl sq A l c w hR hl (fun z hz => wf_u64 (hw z hz)) (wf_i64 hL).2
theorem laidOut : laidOutB Tryz.prog = true := by kernel_rfl
theorem own : ownKnob Tryz.prog.godebug = none := by kernel_rfl
theorem door_met (os : Os) (args : Array Value) : laidMetH Tryz.prog Rows.seekFindsRow.laid ((World.doorLaid Tryz.prog 400 os).forCall (fun _ _ => 0) ⟨#[], args, []⟩).memory :=
  laidMetH_of_parts3 (fuel := 8) (laidMet_of_run' 8 (by kernel_rfl) (by kernel_rfl)) (by kernel_rfl) (by kernel_rfl)
set_option maxRecDepth 100000 in
theorem lifted (os : Os) (started : os.Started) (H : Type) (enc : TypeId × Value → H) :
    ReturnsInHanded {} Tryz.checked os 3 .any (fun w args => (Rows.seekFindsSpec.pre enc Tryz.prog Tryz.f3 [] false w args ∧ laidMetH Tryz.prog Rows.seekFindsRow.laid w) ∧ sizedMet enc Tryz.prog Tryz.f3 (OpenSpec.ofChange Rows.seekFindsSpec) false w args) (Rows.seekFindsSpec.post enc Tryz.prog Tryz.f3 false true false false) := by
  refine Frame.liftedLaid (C := Tryz.checked) (fn := Tryz.f3) (tb := 4) own started (by kernel_rfl) Tryz.func3
    (ChangeSpec.witness_shaped (enc := enc) (C := Tryz.checked) (os := os) (X := fun w _ => laidMetH Tryz.prog Rows.seekFindsRow.laid w) false (World.doorLaid Tryz.prog 400 os) #[.agg #[.int .i64 0, .int .i64 0, .int .i64 0, .int .u64 0], .slice none 0 0, .agg #[.int .i64 0, .int .u64 0]] 8 rfl (World.shaped_of_RefB (by kernel_rfl) (by kernel_rfl)) (by kernel_rfl) (by kernel_rfl) (by kernel_rfl) (door_met os _))
    rfl rfl Tryz.underlying4 laidOut (by kernel_rfl) (fun ds h => by match ds, h with | [_, _, _], _ => rfl) ?_
  intro W base args ds ps hval0 hA0 hlt hL
  have hval : ∀ (j : Nat) t v, Tryz.f3.params[j]? = some t → args[j]? = some v → Value.okWide Tryz.prog W .any base t v := hval0
  have hA : DataW.TrodAll enc Tryz.prog W 0 (fun _ => true) true Tryz.f3.params.toList args.toList ds ps := hA0
  rw [Tryz.params3] at hA hval
  obtain ⟨v0, vs0, d0, ds0, p0, q0, hargs, rfl, rfl, h0, r0⟩ := trodAll_cons hA
  obtain ⟨v1, vs1, d1, ds1, p1, q1, rfl, rfl, rfl, h1, r1⟩ := trodAll_cons r0
  obtain ⟨v2, vs2, d2, ds2, p2, q2, rfl, rfl, rfl, h2, r2⟩ := trodAll_cons r1
  obtain ⟨rfl, rfl, rfl⟩ := trodAll_nil r2
  obtain rfl : args = #[v0, v1, v2] := by cases args; simp_all
  obtain ⟨x0, rfl, w0_0, w0_1, w0_2, w0_3⟩ := Open.open_four_ints Tryz.underlying24 (by kernel_rfl) (by kernel_rfl) Tryz.underlying3 Tryz.underlying3 Tryz.underlying3 Tryz.underlying22 (hval 0 24 v0 rfl rfl) h0
  obtain ⟨A1, x1, c1, rfl, b1, m1, R1, g1⟩ := Open.open_rows (k := 1) (Ints.encZ .u64) (fun x => (Lit.int .u64 x).wf = true) Tryz.underlying25 (by kernel_rfl) (by decide) (Ints.encZ_length _) (fun n cs y h hl => Ints.one_int Tryz.underlying22 n cs y h hl) (hval 1 25 v1 rfl rfl) h1
  obtain ⟨x2, rfl, w2_0, w2_1⟩ := Open.open_two_ints Tryz.underlying27 (by kernel_rfl) (by kernel_rfl) Tryz.underlying3 Tryz.underlying22 (hval 2 27 v2 rfl rfl) h2
  refine (walk x0 A1 x1 c1 x2 w0_0 w0_1 w0_2 w0_3 w2_0 w2_1 W R1 (Nat.le_trans b1 m1) g1 (held hL)).mono fun e W' h => ?_
  exact h

theorem over : Rows.seekFindsRow.holds Tryz.pinned (OpenSpec.ofChange Rows.seekFindsSpec) :=
  OpenClaim.holds_of_wide 3 Tryz.f3 rfl rfl rfl rfl rfl rfl rfl ⟨rfl, rfl, rfl, rfl, rfl⟩ rfl rfl rfl rfl rfl (by kernel_rfl) Tryz.func3 (by kernel_rfl)
    (of_decide_eq_true (by kernel_rfl)) (by unfold Func.isWrapper; first | (rw [if_pos (by decide +kernel)]; kernel_rfl) | (rw [if_neg (by decide +kernel)]; exact ⟨rfl, rfl⟩))
    (fun os started H enc _ => lifted os started H enc)

theorem proved : Rows.SeekFindsCardSaid :=
  Claim7.holds_tied_plain_at .later [] Rows.seekFindsCard.laidKinds true Rows.seekFindsCard.stood.harness Rows.seekFindsCard.stood.looks
    over (fun _ h => by cases h) (by kernel_rfl) (fun _ h => by cases h) seekFinds_row_tie rfl ⟨rfl, rfl⟩ (by kernel_rfl) rfl
    (fun f fn hf hfn => by
      obtain rfl : f = 3 := Option.some.inj ((show Tryz.prog.funcNamed Rows.seekFindsRow.func = some 3 by kernel_rfl).symm.trans hf) |>.symm
      obtain rfl : fn = Tryz.f3 := (Option.some.inj (Tryz.func3.symm.trans hfn)).symm
      exact ⟨by kernel_rfl, fun j t ht => by
        rw [Tryz.params3] at ht
        have hm : t ∈ [24, 25, 27] := by simpa using Array.mem_of_getElem? ht
        have hall : ([24, 25, 27].all fun u => !Tryz.prog.wantsStandIn u) = true := by kernel_rfl
        exact (show Tryz.prog.wantsStandIn t = false by simpa using List.all_eq_true.1 hall t hm)⟩)
    (by kernel_rfl)
#print axioms proved
end Go.Proofs.YtohbmocmdbhjnaaGreatDoor.SeekFinds
