/- Law 18's example. -/
import Derived.Test.YtohbmocmdbhjnaaGreatDoorSeekNext
import Derived.Test.YtohbmocmdbhjnaaGreatDoorSeekTell
import Derived.Test.YtohbmocmdbhjnaaGreatDoorSeekMade
import Derived.Test.YtohbmocmdbhjnaaGreatDoorCellsRef
import Derived.RegionTactic
import Derived.ChangeAlike
namespace Go.Proofs.YtohbmocmdbhjnaaGreatDoor.Law18
set_option maxRecDepth 20000
open Go.ChangeShapes Go.WideShapes Go.ChangeAt Go.RowKit CM DM PM KM Lay Ints Plan Go.Proofs.YtohbmocmdbhjnaaGreatDoor.Task
open Go.Proofs.YtohbmocmdbhjnaaGreatDoor.Seek (Seeks Seek_any Next_any Tell_any Preds_any Succs_any)
set_option linter.unusedVariables false
set_option linter.unusedSimpArgs false

theorem wf_u64 {a : Int} (h : (Lit.int .u64 a).wf = true) : 0 ≤ a ∧ a < 18446744073709551616 := by
  simp [Lit.wf, IntKind.min, IntKind.max, IntKind.signed, IntKind.bits] at h; omega
theorem wf_i64 {a : Int} (h : (Lit.int .i64 a).wf = true) : -9223372036854775808 ≤ a ∧ a ≤ 9223372036854775807 := by
  simp [Lit.wf, IntKind.min, IntKind.max, IntKind.signed, IntKind.bits] at h; omega
theorem ba (w : World) (o : Obj) : Below w.heap.size w (w.alloc o) := (Below.refl _ _).alloc (Nat.le_refl _) _
theorem chain {w a b : World} (h : Below w.heap.size w a) (k : Below a.heap.size a b) : Below w.heap.size w b := h.trans (k.mono h.size)
/-- What 'make' does, as an equation. -/
theorem made_run (n : Nat) (hn : n ≤ 4096) : ∃ C : Array Value, C.toList = flat (encZ .u64) (List.replicate n 0) ∧
    ∀ W : World, (Instr.makeSlice 25 (.int .i64 (n : Int)) (.int .i64 (n : Int))).run Tryz.prog W = .ok (.slice (some ⟨W.heap.size, 0, none⟩) n n) (W.alloc (.cells C 22)) := by
  obtain ⟨i0, hi, hz0, hz1, hz2⟩ := info_parts Seek.info_u64
  refine ⟨_, made_ints .u64 0 n, fun W => ?_⟩
  have hr := run_make (P := Tryz.prog) W 25 22 i0 _ Tryz.underlying25 hi hz0 .i64 .i64 n n (by omega) (Int.le_refl _) (by rw [hz2]; omega) (by omega)
  simp only [Int.toNat_natCast] at hr
  rw [hz1] at hr
  exact hr
theorem row_made (W : World) (C : Array Value) (t : TypeId) {l : List Int} (h : C.toList = flat (encZ .u64) l) : Row (W.alloc (.cells C t)) (W.alloc (.cells C t)).heap.size (some ⟨W.heap.size, 0, none⟩) (flat (encZ .u64) l) := by
  rw [← h]
  exact Cells.row_new W C t

/-- The state behind i words. -/
def exS (i : Nat) : St := desc (3 - i : Int) 0 0 0 (List.replicate i 0) (List.replicate i 0)
theorem exS_ask {i : Nat} (h : i < 3) : seekA 1 3 (exS i) = some (1, nextI 1 3 0 (2 - i), 0, 0, 0) := by
  unfold exS
  rw [desc_on (by omega), seekA_1, idx, show (3 - (i : Int)) - 1 = 2 - i by omega]
  rfl
theorem exS_tell {i : Nat} (h : i < 3) : seekT 3 0 0 (exS i) 0 = exS (i + 1) := by
  unfold exS
  rw [desc_on (by omega), seekT_1 (by decide), reach_none rfl]
  unfold find
  rw [show (3 - (i : Int)) - 1 = 3 - ((i + 1 : Nat) : Int) by omega, List.replicate_succ', ]
theorem exS_end : exS 3 = ⟨0, 0, 0, 0, 0, [0, 0, 0], [0, 0, 0]⟩ := by unfold exS; rw [desc_end (by decide)]; rfl
set_option maxHeartbeats 4000000 in
theorem awake_any (w : World) : Calls Tryz.prog 5 #[] w fun e w' => e = .returned (.bool true) ∧ Below w.heap.size w w' := by
  go_enter Tryz.func5, Tryz.ntmps5
  go_wp2_with fail
  refine (Seek_any 1 1 3 0 0 0 (by decide) _).mono ?_
  rintro e w1 ⟨p, S1, rfl, s1, k1, b1⟩
  have H1 := Lib.hid (show ∃ S, Seeks w1 p S 1 1 3 0 0 0 0 (exS 0) ∧ (∀ k, S k → w.heap.size ≤ k) ∧ Below w.heap.size w w1 from ⟨S1, s1, fun k e => (k1 k e).1, b1⟩)
  clear s1 k1 b1
  go_wp2
  go_loopw [2] (fun iv wr => ∃ i : Nat, i ≤ 3 ∧ iv = .int .i64 i ∧ ∃ S, Seeks wr p S 1 1 3 0 0 0 i (exS i) ∧ (∀ k, S k → w.heap.size ≤ k) ∧ Below w.heap.size w wr) (fun iv _ => 3 - (intOf iv).toNat)
  case atStart => exact ⟨0, by omega, rfl, H1.out⟩
  case round =>
    obtain ⟨i, hi, rfl, S, hs, hS, hb⟩ := hrel
    have HS := Lib.hid hs
    have HK := Lib.hid hS
    have HB := Lib.hid hb
    clear hs hS hb
    by_cases hlt : i < 3
    · have hil : (i : Int) < 3 := by omega
      have HNX := Lib.hid (Next_any HS.out)
      rw [exS_ask hlt] at HNX
      have HTE := Lib.hid (exS_tell hlt)
      go_wp2_with fail
      refine HNX.out.mono ?_
      rintro e w2 ⟨rfl, b2⟩
      simp only [Option.getD_some, Option.isSome_some]
      have HB2 := Lib.hid (b2.trans ((box_below w2 (.cells #[.int .i64 1, .int .i64 (nextI 1 3 0 (2 - (i : Int))), .int .u64 0, .int .u64 0, .int .u64 0] 37)).mono b2.size))
      clear b2
      obtain ⟨ho, hL, A1, c1, A2, c2, hp⟩ := HS.out
      have HS2 := Lib.hid (show Seeks (w2.alloc (.cells #[.int .i64 1, .int .i64 (nextI 1 3 0 (2 - (i : Int))), .int .u64 0, .int .u64 0, .int .u64 0] 37)) p S 1 1 3 0 0 0 i (exS i) from ⟨ho, hL, A1, c1, A2, c2, hp.later HB2.out⟩)
      clear ho hL hp
      go_wp2_with fail
      refine (Tell_any HS2.out (by omega) (show (0 : Int) ≤ 0 ∧ (0 : Int) < 18446744073709551616 by decide)).mono ?_
      rintro e w3 ⟨rfl, S3, s3, o3, k3⟩
      rw [HTE.out] at s3
      have HB3 := Lib.hid (HB.out.trans (HB2.out.mono HB.out.size))
      have H3 := Lib.hid (show ∃ S, Seeks w3 p S 1 1 3 0 0 0 (i + 1) (exS (i + 1)) ∧ (∀ k, S k → w.heap.size ≤ k) ∧ Below w.heap.size w w3 from ⟨S3, s3, fun k e => (k3 k e).elim (HK.out k) fun z => Nat.le_trans HB3.out.size z.1, HB3.out.trans (o3.below HB3.out.size HK.out)⟩)
      clear s3 o3 k3
      go_wp2
      go_roundw
      case rel => exact ⟨i + 1, by omega, by go_num, H3.out⟩
      case measure => simp [intOf]; omega
    · obtain rfl : i = 3 := by omega
      rw [exS_end] at HS
      have HNX := Lib.hid (Next_any HS.out)
      rw [seekA_0] at HNX
      go_wp2_with fail
      refine HNX.out.mono ?_
      rintro e w2 ⟨rfl, b2⟩
      simp only [Option.getD_none, Option.isSome_none]
      have HB2 := Lib.hid (b2.trans ((box_below w2 (.cells #[.int .i64 0, .int .i64 0, .int .u64 0, .int .u64 0, .int .u64 0] 37)).mono b2.size))
      have HBW := Lib.hid (HB.out.trans (HB2.out.mono HB.out.size))
      clear b2
      obtain ⟨ho, hL, A1, c1, A2, c2, hp⟩ := HS.out
      have HS2 := Lib.hid (show ∀ W, Below (w2.alloc (.cells #[.int .i64 0, .int .i64 0, .int .u64 0, .int .u64 0, .int .u64 0] 37)).heap.size (w2.alloc (.cells #[.int .i64 0, .int .i64 0, .int .u64 0, .int .u64 0, .int .u64 0] 37)) W → Seeks W p S 1 1 3 0 0 0 3 ⟨0, 0, 0, 0, 0, [0, 0, 0], [0, 0, 0]⟩ from fun W hb => ⟨ho, hL, A1, c1, A2, c2, (hp.later HB2.out).later hb⟩)
      clear ho hL hp
      have HPR := Lib.hid (show ∀ W, Below (w2.alloc (.cells #[.int .i64 0, .int .i64 0, .int .u64 0, .int .u64 0, .int .u64 0] 37)).heap.size (w2.alloc (.cells #[.int .i64 0, .int .i64 0, .int .u64 0, .int .u64 0, .int .u64 0] 37)) W → Calls Tryz.prog 11 #[.pointer (some ⟨p, 0, none⟩)] W (Seek.Listed W [0, 0, 0]) from fun W hb => Preds_any (HS2.out W hb) (by omega))
      have HSU := Lib.hid (show ∀ W, Below (w2.alloc (.cells #[.int .i64 0, .int .i64 0, .int .u64 0, .int .u64 0, .int .u64 0] 37)).heap.size (w2.alloc (.cells #[.int .i64 0, .int .i64 0, .int .u64 0, .int .u64 0, .int .u64 0] 37)) W → Calls Tryz.prog 12 #[.pointer (some ⟨p, 0, none⟩)] W (Seek.Listed W [0, 0, 0]) from fun W hb => Succs_any (HS2.out W hb) (by omega))
      go_upto_region 10 with fail
      generalize w2.alloc (.cells #[.int .i64 0, .int .i64 0, .int .u64 0, .int .u64 0, .int .u64 0] 37) = w9 at HBW HPR HSU ⊢
      obtain ⟨C, hC, hmk⟩ := made_run 3 (by decide)
      have hC2 : C.toList = flat (encZ .u64) [0, 0, 0] := hC
      have hmk2 : ∀ W : World, (Instr.makeSlice 25 (.int .i64 3) (.int .i64 3)).run Tryz.prog W = .ok (.slice (some ⟨W.heap.size, 0, none⟩) 3 3) (W.alloc (.cells C 22)) := hmk
      have RN := Lib.hid (fun W : World => row_made W C 22 hC2)
      have RD := Lib.hid (fun W : World => (row_made W C 22 hC2).later (Below.refl (W.alloc (.cells C 22)).heap.size _).drew)
      have KD := Lib.hid (show Below w9.heap.size w9 w9.drew from (Below.refl _ _).drew)
      have KA := Lib.hid (show Below w9.heap.size w9 (w9.drew.alloc (.cells C 22)) from chain (Below.refl _ _).drew (ba _ _))
      have KB := Lib.hid (show Below w9.heap.size w9 (w9.alloc (.cells C 22)).drew from (ba _ _).drew)
      have RA := Lib.hid (show Row (w9.drew.alloc (.cells C 22)) (w9.drew.alloc (.cells C 22)).heap.size (some ⟨w9.heap.size, 0, none⟩) (flat (encZ .u64) [0, 0, 0]) from row_made w9.drew C 22 hC2)
      have RB := Lib.hid (show Row (w9.alloc (.cells C 22)).drew (w9.alloc (.cells C 22)).drew.heap.size (some ⟨w9.heap.size, 0, none⟩) (flat (encZ .u64) [0, 0, 0]) from (row_made w9 C 22 hC2).later (Below.refl _ _).drew)
      have H3L := Lib.hid (show 3 = ([0, 0, 0] : List Int).length from rfl)
      have HMX := Lib.hid (show ([0, 0, 0] : List Int).length ≤ maxLen by simp only [maxLen]; decide)
      clear hC hC2 hmk
      go_wp2
      go_region_with (first
        | (go_at_call 11; (first | (with_reducible refine (HPR.out _ KD.out).mono ?_) | (with_reducible refine (HPR.out _ KA.out).mono ?_) | (with_reducible refine (HPR.out _ KB.out).mono ?_)); rintro e w4 ⟨A4, n4, c4, rfl, h4, r4, -, b4⟩; have R4 := Lib.hid r4; have N4 := Lib.hid h4; clear r4 h4)
        | (go_at_call 16; (first | (with_reducible refine (CellsRef.Same_yes (l := [0, 0, 0]) N4.out H3L.out (R4.out.later (ba _ _)) (RN.out w4) HMX.out).mono ?_) | (with_reducible refine (CellsRef.Same_yes (l := [0, 0, 0]) N4.out H3L.out R4.out (RA.out.later b4) HMX.out).mono ?_) | (with_reducible refine (CellsRef.Same_yes (l := [0, 0, 0]) N4.out H3L.out R4.out (RB.out.later b4) HMX.out).mono ?_)); rintro e w6 ⟨rfl, b6⟩; have HB6 := Lib.hid (show Below w9.heap.size w9 w6 from by first | exact chain (chain (chain KD.out b4) (ba _ _)) b6 | exact chain (chain KA.out b4) b6 | exact chain (chain KB.out b4) b6))
        | (go_at_call 12; (first | (with_reducible refine (HSU.out _ HB6.out).mono ?_) | (with_reducible refine (HSU.out _ (chain HB6.out (ba _ _))).mono ?_)); rintro e w7 ⟨A7, n7, c7, rfl, h7, r7, -, b7⟩; have R7 := Lib.hid r7; have N7 := Lib.hid h7; clear r7 h7)
        | (go_at_call 16; (first | (with_reducible refine (CellsRef.Same_yes (l := [0, 0, 0]) N7.out H3L.out (R7.out.later (ba _ _)) (RN.out w7) HMX.out).mono ?_) | (with_reducible refine (CellsRef.Same_yes (l := [0, 0, 0]) N7.out H3L.out R7.out ((RN.out w6).later b7) HMX.out).mono ?_)); rintro e w8 ⟨rfl, b8⟩; have HB8 := Lib.hid (show Below w9.heap.size w9 w8 from by first | exact chain (chain (chain HB6.out b7) (ba _ _)) b8 | exact chain (chain (chain HB6.out (ba _ _)) b7) b8)))
      all_goals go_wp2
      all_goals go_ret
      all_goals exact ⟨rfl, HBW.out.trans (HB8.out.mono HBW.out.size)⟩
end Go.Proofs.YtohbmocmdbhjnaaGreatDoor.Law18
