import Derived.Test.YtiejfhipkolmhaaGreatDoorFinishOutsAllP24
import Derived.Test.YtiejfhipkolmhaaGreatDoorFinishOutsAllP25
import Derived.Deep.DeepCutAuto
import Derived.Deep.RegionHeld3
import Derived.LoopN
/- Law 25's example. -/
namespace Go.Proofs.YtiejfhipkolmhaaGreatDoor.Law25
set_option maxRecDepth 20000
open Go.ChangeShapes Go.WideShapes Go.ChangeAt Go.RowKit CM DM PM KM FiM Runs Lay Plan Go.Proofs.YtiejfhipkolmhaaGreatDoor.Task
open Go.Proofs.YtiejfhipkolmhaaGreatDoor.Fin (Fins Finish_any Fin_next Fin_tell Fin_retired)
open MkM (markA markT leftI)
open StM (settleA settleT)
set_option linter.unusedVariables false
set_option linter.unusedSimpArgs false

theorem wf_u64 {a : Int} (h : (Lit.int .u64 a).wf = true) : 0 ≤ a ∧ a < 18446744073709551616 := by
  simp [Lit.wf, IntKind.min, IntKind.max, IntKind.signed, IntKind.bits] at h; omega
theorem wf_i64 {a : Int} (h : (Lit.int .i64 a).wf = true) : -9223372036854775808 ≤ a ∧ a ≤ 9223372036854775807 := by
  simp [Lit.wf, IntKind.min, IntKind.max, IntKind.signed, IntKind.bits] at h; omega
theorem ba (w : World) (o : Obj) : Below w.heap.size w (w.alloc o) := (Below.refl _ _).alloc (Nat.le_refl _) _
theorem chain {w a b : World} (h : Below w.heap.size w a) (k : Below a.heap.size a b) : Below w.heap.size w b := h.trans (k.mono h.size)
/-- The example's finisher, word by word. -/
def s1 : FiM.St := .mark ⟨1, 0, 0⟩
def s2 : FiM.St := .mark ⟨1, 1, 0⟩
def s3 : FiM.St := .settle StM.new
def s4 : FiM.St := .settle ⟨0, ⟨0, 0, 0, 0, 0, [], []⟩, 0, false⟩
theorem ex_i : idx 2 = 1 := by decide
theorem ex_a : finA 1 2 2 .look = some (1, atI 1 2 1 3, 0, 0, 2) := by rw [finA_look, ex_i]
theorem ex_1 : finT 2 0 0 .look 1 = s1 := by
  rw [finT_look, show Go.RowKit.wrap64 1 = 1 from PM.wrap_in (by decide), show leftI 1 2 = 1 by decide, toM_more (by decide)]
  rfl
theorem ex_b : finA 1 2 2 s1 = some (1, nextI 1 2 1 0, 0, 0, 2) := by
  unfold s1
  rw [finA_mark, MkM.markA_look (by decide), ex_i]
  rfl
theorem ex_2 : finT 2 0 0 s1 0 = s2 := by
  unfold s1
  rw [finT_mark, MkM.markT_to (by decide) (by decide), toM_more (by decide)]
  rfl
theorem ex_c : finA 1 2 2 s2 = some (3, nextI 1 2 1 0, 0, 1, 2) := by
  unfold s2
  rw [finA_mark, MkM.markA_turn (by decide), ex_i]
  rfl
theorem ex_3 : finT 2 0 0 s2 0 = s3 := by
  unfold s2
  rw [finT_mark, MkM.markT_won (by decide) rfl, toM_done (by decide)]
  rfl
theorem ex_d : finA 1 2 2 s3 = some (4, atI 1 2 1 4, 18446744073709551615, 0, 2) := by
  unfold s3 StM.new
  rw [finA_settle, StM.settleA_1, ex_i]
theorem ex_4 : finT 2 0 0 s3 2 = s4 := by
  unfold s3 StM.new
  rw [finT_settle, StM.settleT_1n (by decide)]
  rfl
theorem ex_e : finA 1 2 2 s4 = none := by
  unfold s4
  rw [finA_settle, StM.settleA_0]
theorem ex_w : wtB s4 = false := rfl
/-- Amid the example: the finisher, the two lists, all behind the plan's box. -/
structure Amid (w W : World) (p B1 B2 : Nat) (ia ib ic : Int) (S : Nat → Prop) (k : Nat) (s : FiM.St) : Prop where
  fin : Fins W p S 1 1 2 0 2 0 0 k s
  found : W.heap[B1]? = some (.cells #[.int .u64 1, .int .u64 0, .int .u64 0, .int .u64 2] 22 (0, 0))
  want : W.heap[B2]? = some (.cells #[.int .i64 ia, .int .i64 ib, .int .i64 ib, .int .i64 ic] 3 (0, 0))
  new : ∀ j, S j → w.heap.size + 1 ≤ j
  not : ¬ S B1 ∧ ¬ S B2
  past : Below (w.heap.size + 1) (w.alloc (.cells #[.int .i64 1, .int .i64 1, .int .i64 2, .int .u64 0] 24)) W
theorem Amid.later {w W W' : World} {p B1 B2 : Nat} {ia ib ic : Int} {S : Nat → Prop} {k : Nat} {s : FiM.St} (h : Amid w W p B1 B2 ia ib ic S k s) (hb : Below W.heap.size W W') : Amid w W' p B1 B2 ia ib ic S k s :=
  ⟨h.fin.later hb, (only_below (fun _ => False) hb).heap h.found id, (only_below (fun _ => False) hb).heap h.want id, h.new, h.not, h.past.trans (hb.mono (by have := h.past.size; simp only [World.size_alloc] at this; exact this))⟩
theorem Amid.told {w W W' : World} {p B1 B2 : Nat} {ia ib ic : Int} {S : Nat → Prop} {k k' : Nat} {s s' : FiM.St} (h : Amid w W p B1 B2 ia ib ic S k s) (hb : Fin.Became W S p 1 1 2 0 2 0 0 k' s' W') : ∃ S', Amid w W' p B1 B2 ia ib ic S' k' s' := by
  obtain ⟨S', h1, h2, h3⟩ := hb
  have hz := h.past.size
  simp only [World.size_alloc] at hz
  have l1 := (Array.getElem?_eq_some_iff.1 h.found).1
  have l2 := (Array.getElem?_eq_some_iff.1 h.want).1
  exact ⟨S', h1, h2.heap h.found h.not.1, h2.heap h.want h.not.2, fun j e => (h3 j e).elim (h.new j) (fun e => by omega), ⟨fun e => (h3 _ e).elim h.not.1 (fun e => by omega), fun e => (h3 _ e).elim h.not.2 (fun e => by omega)⟩, h.past.trans (h2.below hz h.new)⟩
theorem Amid.cells {w W : World} {p B1 B2 : Nat} {ia ib ic : Int} {S : Nat → Prop} {k : Nat} {s : FiM.St} (h : Amid w W p B1 B2 ia ib ic S k s) :
    (W.cell? ⟨B1, 0, none⟩ = some (.int .u64 1) ∧ W.cell? ⟨B1, 1, none⟩ = some (.int .u64 0) ∧ W.cell? ⟨B1, 2, none⟩ = some (.int .u64 0) ∧ W.cell? ⟨B1, 3, none⟩ = some (.int .u64 2)) ∧
    (W.cell? ⟨B2, 0, none⟩ = some (.int .i64 ia) ∧ W.cell? ⟨B2, 1, none⟩ = some (.int .i64 ib) ∧ W.cell? ⟨B2, 2, none⟩ = some (.int .i64 ib) ∧ W.cell? ⟨B2, 3, none⟩ = some (.int .i64 ic)) :=
  ⟨⟨(cell_heap h.found 0).1, (cell_heap h.found 1).1, (cell_heap h.found 2).1, (cell_heap h.found 3).1⟩, ⟨(cell_heap h.want 0).1, (cell_heap h.want 1).1, (cell_heap h.want 2).1, (cell_heap h.want 3).1⟩⟩
set_option maxHeartbeats 2000000 in
theorem awake_any (w : World) : Calls Tryz.prog 7 #[] w fun e w' => e = .returned (.bool true) ∧ Below w.heap.size w w' := by
  have HB0 := Lib.hid (box_below w (.cells #[.int .i64 1, .int .i64 1, .int .i64 2, .int .u64 0] 24))
  have HC := Lib.hid (box4 w (.int .i64 1) (.int .i64 1) (.int .i64 2) (.int .u64 0) 24)
  have HOF := Lib.hid (show ∀ W : World, Calls Tryz.prog 27 #[.int .u64 0, .int .i64 1] W fun e w' => e = .returned (.int .u64 2) ∧ W = w' from fun W => Refer.Of_any 0 1 (by decide) W)
  have HK := Lib.hid (show ∀ W, Below (w.heap.size + 1) (w.alloc (.cells #[.int .i64 1, .int .i64 1, .int .i64 2, .int .u64 0] 24)) W → W.cell? ⟨w.heap.size, 0, none⟩ = some (.int .i64 1) ∧ W.cell? ⟨w.heap.size, 1, none⟩ = some (.int .i64 1) ∧ W.cell? ⟨w.heap.size, 2, none⟩ = some (.int .i64 2) ∧ W.cell? ⟨w.heap.size, 3, none⟩ = some (.int .u64 0) from fun W hb => box4_later hb)
  have HPA := Lib.hid (show ∀ W W', Below (w.heap.size + 1) (w.alloc (.cells #[.int .i64 1, .int .i64 1, .int .i64 2, .int .u64 0] 24)) W → Below W.heap.size W W' → Below (w.heap.size + 1) (w.alloc (.cells #[.int .i64 1, .int .i64 1, .int .i64 2, .int .u64 0] 24)) W' from fun W W' h hb => h.trans (hb.mono (by have := h.size; simp only [World.size_alloc] at this; exact this)))
  obtain ⟨c_0, c_1, c_2, c_3⟩ := HC.out
  have HS0 := Lib.hid (show Below (w.heap.size + 1) (w.alloc (.cells #[.int .i64 1, .int .i64 1, .int .i64 2, .int .u64 0] 24)) (w.alloc (.cells #[.int .i64 1, .int .i64 1, .int .i64 2, .int .u64 0] 24)).drew from (Below.refl _ _).drew)
  go_enter Tryz.func7, Tryz.ntmps7
  go_upto_region 2 with fail
  go_cut [2] (fun s2 wx => ∃ p S, s2 = .pointer (some ⟨p, 0, none⟩) ∧ Fins wx p S 1 1 2 0 2 0 0 0 .look ∧ (∀ k, S k → w.heap.size + 1 ≤ k) ∧ Below (w.heap.size + 1) (w.alloc (.cells #[.int .i64 1, .int .i64 1, .int .i64 2, .int .u64 0] 24)) wx)
  case first =>
    go_region_held3 (fun W => W.cell? ⟨w.heap.size, 0, none⟩ = some (.int .i64 1) ∧ W.cell? ⟨w.heap.size, 1, none⟩ = some (.int .i64 1) ∧ W.cell? ⟨w.heap.size, 2, none⟩ = some (.int .i64 2) ∧ W.cell? ⟨w.heap.size, 3, none⟩ = some (.int .u64 0))
      ((first | (with_reducible exact HK.out _ HS0.out) | (with_reducible assumption) | (with_reducible exact HK.out _ HB1.out)))
      (first
        | (go_at_call 27; refine (HOF.out _).mono ?_; rintro e w2 ⟨rfl, rfl⟩)
        | (go_at_call 13; refine (Finish_any 1 1 2 0 2 0 0 (by decide) ⟨by decide, by decide⟩ _).mono ?_; rintro e w1 ⟨p, S, rfl, f1, k1, b1⟩; have HB1 := Lib.hid (HPA.out _ _ HS0.out b1); have HF1 := Lib.hid (And.intro f1 (show ∀ k, S k → w.heap.size + 1 ≤ k from fun k e => by have := (k1 k e).1; simp only [World.drew, World.size_alloc] at this; exact this)); clear f1 k1 b1))
    all_goals go_wp2_with fail
    all_goals go_meet
    all_goals (case rel => exact ⟨_, _, rfl, HF1.out.1, HF1.out.2, HB1.out⟩)
  case rest =>
    obtain ⟨p, S0, rfl, f1, k1, b1⟩ := hcut
    have HF1 := Lib.hid (And.intro f1 (And.intro k1 b1))
    clear f1 k1 b1 c_0 c_1 c_2 c_3
    obtain ⟨ia, hia⟩ : ∃ ia, ia = atI 1 2 1 3 := ⟨_, rfl⟩
    obtain ⟨ib, hib⟩ : ∃ ib, ib = nextI 1 2 1 0 := ⟨_, rfl⟩
    obtain ⟨ic, hic⟩ : ∃ ic, ic = atI 1 2 1 4 := ⟨_, rfl⟩
    have HTL := Lib.hid (fun W => Plan.Tall_any 1 1 2 0 1 W)
    have HNX := Lib.hid (fun W => Plan.Next_any 1 1 2 0 1 0 W)
    have HHD := Lib.hid (fun W => Plan.Hold_any 1 1 2 0 1 W)
    have HE0 := Lib.hid ex_a
    have HE1 := Lib.hid ex_b
    have HE2 := Lib.hid ex_c
    have HE3 := Lib.hid ex_d
    rw [← hia] at HTL HE0
    rw [← hib] at HNX HE1 HE2
    rw [← hic] at HHD HE3
    clear hia hib hic
    go_upto_region 4 with fail
    have HM := Lib.hid (show Below (w.heap.size + 1) (w.alloc (.cells #[.int .i64 1, .int .i64 1, .int .i64 2, .int .u64 0] 24)) (wc.alloc (.cells #[.int .u64 1, .int .u64 0, .int .u64 0, .int .u64 2] 22)) ∧ Fins (wc.alloc (.cells #[.int .u64 1, .int .u64 0, .int .u64 0, .int .u64 2] 22)) p S0 1 1 2 0 2 0 0 0 .look ∧ (wc.alloc (.cells #[.int .u64 1, .int .u64 0, .int .u64 0, .int .u64 2] 22)).heap[wc.heap.size]? = some (.cells #[.int .u64 1, .int .u64 0, .int .u64 0, .int .u64 2] 22) from ⟨HPA.out _ _ HF1.out.2.2 (ba _ _), HF1.out.1.later (ba _ _), new_heap _ _⟩)
    obtain ⟨B1, hB1⟩ : ∃ B1, B1 = wc.heap.size := ⟨_, rfl⟩
    rw [← hB1] at HM ⊢
    have HNB := Lib.hid (show ∀ j, S0 j → w.heap.size + 1 ≤ j ∧ j < B1 from fun j e => ⟨HF1.out.2.1 j e, by rw [hB1]; exact HF1.out.1.lt j e⟩)
    generalize wc.alloc (.cells #[.int .u64 1, .int .u64 0, .int .u64 0, .int .u64 2] 22) = wf at HM ⊢
    clear hB1 HF1
    have HSF := Lib.hid (show Below (w.heap.size + 1) (w.alloc (.cells #[.int .i64 1, .int .i64 1, .int .i64 2, .int .u64 0] 24)) wf.drew from HM.out.1.drew)
    go_cut [4] (fun s4 wx => ∃ B2, s4 = .slice (some ⟨B2, 0, none⟩) 4 4 ∧ Amid w wx p B1 B2 ia ib ic S0 0 .look)
    case first =>
      go_region_held3 (fun W => W.cell? ⟨w.heap.size, 0, none⟩ = some (.int .i64 1) ∧ W.cell? ⟨w.heap.size, 1, none⟩ = some (.int .i64 1) ∧ W.cell? ⟨w.heap.size, 2, none⟩ = some (.int .i64 2) ∧ W.cell? ⟨w.heap.size, 3, none⟩ = some (.int .u64 0))
        ((first | (with_reducible exact HK.out _ HSF.out) | (with_reducible assumption) | (with_reducible exact HK.out _ HB2.out.1) | (with_reducible exact HK.out _ HB3.out.1) | (with_reducible exact HK.out _ HB4.out.1) | (with_reducible exact HK.out _ HB5.out.1) | (with_reducible exact HK.out _ HB6.out)))
        (first
          | (go_at_call 12; refine (HTL.out _).mono ?_; rintro e w2 ⟨rfl, hb⟩; have HB2 := Lib.hid (And.intro (HPA.out _ _ HSF.out hb) (show Below wf.heap.size wf w2 from (Below.refl _ _).drew.trans hb)); clear hb)
          | (go_at_call 11; refine (HHD.out _).mono ?_; rintro e w5 ⟨rfl, hb⟩; have HB5 := Lib.hid (And.intro (HPA.out _ _ HB4.out.1 hb) (chain HB4.out.2 hb)); have HB6 := Lib.hid (show Below (w.heap.size + 1) (w.alloc (.cells #[.int .i64 1, .int .i64 1, .int .i64 2, .int .u64 0] 24)) (w5.alloc (.cells #[.int .i64 ia, .int .i64 ib, .int .i64 ib, .int .i64 ic] 3)) from HPA.out _ _ HB5.out.1 (ba _ _)); clear hb)
          | (go_at_call 28; (with_reducible refine (HNX.out w3).mono ?_); rintro e w4 ⟨rfl, hb⟩; have HB4 := Lib.hid (And.intro (HPA.out _ _ HB3.out.1 hb) (chain HB3.out.2 hb)); clear hb)
          | (go_at_call 28; (with_reducible refine (HNX.out w2).mono ?_); rintro e w3 ⟨rfl, hb⟩; have HB3 := Lib.hid (And.intro (HPA.out _ _ HB2.out.1 hb) (chain HB2.out.2 hb)); clear hb)
          | fail)
      all_goals go_wp2_with fail
      all_goals go_meet
      all_goals (case rel => exact ⟨_, rfl, HM.out.2.1.later (chain HB5.out.2 (ba _ _)), (only_below (fun _ => False) (chain HB5.out.2 (ba w5 (.cells #[.int .i64 ia, .int .i64 ib, .int .i64 ib, .int .i64 ic] 3)))).heap HM.out.2.2 id, new_heap _ _, fun j e => (HNB.out j e).1, ⟨fun e => by have := (HNB.out _ e).2; omega, fun e => by have h1 := (HNB.out _ e).2; have h2 := HB5.out.2.size; have h3 := (Array.getElem?_eq_some_iff.1 HM.out.2.2).1; omega⟩, HB6.out⟩)
    case rest =>
      obtain ⟨B2, rfl, h0⟩ := hcut
      have HA0 := Lib.hid h0
      clear h0 HTL HNX HHD HM HNB HSF HC HS0
      go_wp2
      refine wp_loop_rounds 5 ?_
      -- round 0
      rw [rounds_succ]
      have HX0 := Lib.hid (Fin_next HA0.out.fin)
      rw [HE0.out] at HX0
      go_wp2_with fail
      refine HX0.out.mono ?_
      rintro e v0 ⟨rfl, b⟩
      simp only [Option.getD_some, Option.isSome_some]
      have HV0 := Lib.hid (HA0.out.later (chain b (ba v0 (.cells #[.int .i64 1, .int .i64 ia, .int .u64 0, .int .u64 0, .int .u64 2] 44))))
      obtain ⟨⟨x0, x1, x2, x3⟩, y0, y1, y2, y3⟩ := HV0.out.cells
      have b1 := (cell_heap (new_heap v0 (.cells #[.int .i64 1, .int .i64 ia, .int .u64 0, .int .u64 0, .int .u64 2] 44)) 1).1
      have HD0 := Lib.hid (HV0.out.later (Below.refl _ _).drew)
      have HT0 := Lib.hid (Fin_tell HD0.out.fin (f := 1) (by decide) ⟨by decide, by decide⟩)
      rw [ex_1] at HT0
      clear b
      go_upto_region 9 with fail
      go_region
      go_wp2_with fail
      refine HT0.out.mono ?_
      rintro e z0 ⟨rfl, hbc⟩
      obtain ⟨S1, h1⟩ := HD0.out.told hbc
      have HA1 := Lib.hid h1
      clear hbc h1 b1 x0 x1 x2 x3 y0 y1 y2 y3
      go_wp2
      -- round 1
      rw [rounds_succ]
      have HX1 := Lib.hid (Fin_next HA1.out.fin)
      rw [HE1.out] at HX1
      go_wp2_with fail
      refine HX1.out.mono ?_
      rintro e v1 ⟨rfl, b⟩
      simp only [Option.getD_some, Option.isSome_some]
      have HV1 := Lib.hid (HA1.out.later (chain b (ba v1 (.cells #[.int .i64 1, .int .i64 ib, .int .u64 0, .int .u64 0, .int .u64 2] 44))))
      obtain ⟨⟨x0, x1, x2, x3⟩, y0, y1, y2, y3⟩ := HV1.out.cells
      have b1 := (cell_heap (new_heap v1 (.cells #[.int .i64 1, .int .i64 ib, .int .u64 0, .int .u64 0, .int .u64 2] 44)) 1).1
      have HD1 := Lib.hid (HV1.out.later (Below.refl _ _).drew)
      have HT1 := Lib.hid (Fin_tell HD1.out.fin (f := 0) (by decide) ⟨by decide, by decide⟩)
      rw [ex_2] at HT1
      clear b
      go_upto_region 9 with fail
      go_region
      go_wp2_with fail
      refine HT1.out.mono ?_
      rintro e z1 ⟨rfl, hbc⟩
      obtain ⟨S2, h2⟩ := HD1.out.told hbc
      have HA2 := Lib.hid h2
      clear hbc h2 b1 x0 x1 x2 x3 y0 y1 y2 y3
      go_wp2
      -- round 2
      rw [rounds_succ]
      have HX2 := Lib.hid (Fin_next HA2.out.fin)
      rw [HE2.out] at HX2
      go_wp2_with fail
      refine HX2.out.mono ?_
      rintro e v2 ⟨rfl, b⟩
      simp only [Option.getD_some, Option.isSome_some]
      have HV2 := Lib.hid (HA2.out.later (chain b (ba v2 (.cells #[.int .i64 3, .int .i64 ib, .int .u64 0, .int .u64 1, .int .u64 2] 44))))
      obtain ⟨⟨x0, x1, x2, x3⟩, y0, y1, y2, y3⟩ := HV2.out.cells
      have b1 := (cell_heap (new_heap v2 (.cells #[.int .i64 3, .int .i64 ib, .int .u64 0, .int .u64 1, .int .u64 2] 44)) 1).1
      have HD2 := Lib.hid (HV2.out.later (Below.refl _ _).drew)
      have HT2 := Lib.hid (Fin_tell HD2.out.fin (f := 0) (by decide) ⟨by decide, by decide⟩)
      rw [ex_3] at HT2
      clear b
      go_upto_region 9 with fail
      go_region
      go_wp2_with fail
      refine HT2.out.mono ?_
      rintro e z2 ⟨rfl, hbc⟩
      obtain ⟨S3, h3⟩ := HD2.out.told hbc
      have HA3 := Lib.hid h3
      clear hbc h3 b1 x0 x1 x2 x3 y0 y1 y2 y3
      go_wp2
      -- round 3
      rw [rounds_succ]
      have HX3 := Lib.hid (Fin_next HA3.out.fin)
      rw [HE3.out] at HX3
      go_wp2_with fail
      refine HX3.out.mono ?_
      rintro e v3 ⟨rfl, b⟩
      simp only [Option.getD_some, Option.isSome_some]
      have HV3 := Lib.hid (HA3.out.later (chain b (ba v3 (.cells #[.int .i64 4, .int .i64 ic, .int .u64 18446744073709551615, .int .u64 0, .int .u64 2] 44))))
      obtain ⟨⟨x0, x1, x2, x3⟩, y0, y1, y2, y3⟩ := HV3.out.cells
      have b1 := (cell_heap (new_heap v3 (.cells #[.int .i64 4, .int .i64 ic, .int .u64 18446744073709551615, .int .u64 0, .int .u64 2] 44)) 1).1
      have HD3 := Lib.hid (HV3.out.later (Below.refl _ _).drew)
      have HT3 := Lib.hid (Fin_tell HD3.out.fin (f := 2) (by decide) ⟨by decide, by decide⟩)
      rw [ex_4] at HT3
      clear b
      go_upto_region 9 with fail
      go_region
      go_wp2_with fail
      refine HT3.out.mono ?_
      rintro e z3 ⟨rfl, hbc⟩
      obtain ⟨S4, h4⟩ := HD3.out.told hbc
      have HA4 := Lib.hid h4
      clear hbc h4 b1 x0 x1 x2 x3 y0 y1 y2 y3
      go_wp2
      rw [rounds_succ]
      have HX4 := Lib.hid (Fin_next HA4.out.fin)
      rw [ex_e] at HX4
      go_wp2_with fail
      refine HX4.out.mono ?_
      rintro e v4 ⟨rfl, b⟩
      simp only [Option.getD_none, Option.isSome_none]
      have HV4 := Lib.hid (HA4.out.later (chain b (ba v4 (.cells #[.int .i64 0, .int .i64 0, .int .u64 0, .int .u64 0, .int .u64 0] 44))))
      have HR4 := Lib.hid (Fin_retired HV4.out.fin)
      rw [ex_w] at HR4
      rw [if_neg (by simp), if_neg (by simp)] at HR4
      clear b
      go_wp2_with fail
      refine HR4.out.mono ?_
      rintro e v5 ⟨rfl, b⟩
      have HEND := Lib.hid (show Below w.heap.size w (v5.alloc (.cells #[.int .u64 0, .int .u64 0] 50)) from HB0.out.trans ((HPA.out _ _ HV4.out.past (chain b (ba _ _))).mono (by omega)))
      clear b
      go_wp2
      go_ret
      exact ⟨rfl, HEND.out⟩
end Go.Proofs.YtiejfhipkolmhaaGreatDoor.Law25
