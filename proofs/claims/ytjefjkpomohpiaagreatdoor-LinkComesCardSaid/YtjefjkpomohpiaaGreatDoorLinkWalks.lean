/- Package link (layer 20), held to plain arithmetic: what a linker asks for, what it becomes; all else in memory stays as it was. -/
import Derived.Test.YtjefjkpomohpiaaGreatDoorLinkMath
import Derived.Test.YtjefjkpomohpiaaGreatDoorSeekNext
import Derived.Test.YtjefjkpomohpiaaGreatDoorSeekTell
import Derived.Test.YtjefjkpomohpiaaGreatDoorSeekMade
import Derived.Lib.MinMax
import Derived.RegionTactic
import Derived.Deep.RegionWith
namespace Go.Proofs.YtjefjkpomohpiaaGreatDoor.Link
set_option maxRecDepth 20000
open Go.ChangeShapes Go.WideShapes Go.RowKit CM DM PM KM LiM Lay Ints Plan Go.Proofs.YtjefjkpomohpiaaGreatDoor.Task
open Go.Proofs.YtjefjkpomohpiaaGreatDoor.Seek (Seeks Seek_any Next_any Tell_any Preds_any Succs_any Told ToldD only_set)
set_option linter.unusedVariables false
set_option linter.unusedSimpArgs false

/-- A linker in block p, word by word. -/
def Raw (w : World) (p : Nat) (V0 V1 V2 : Value) (T N L G r dl sq tall st lv : Int) : Prop := w.heap[p]? = some (.cells #[V0, V1, V2, .int .i64 T, .int .i64 N, .int .i64 L, .int .u64 G, .int .u64 r, .int .i64 dl, .int .u64 sq, .int .i64 tall, .int .i64 st, .int .i64 lv] 74 (0, 0))
section
variable {w w' : World} {p : Nat} {V0 V1 V2 : Value} {T N L G r dl sq tall st lv : Int}
theorem Raw.lt (h : Raw w p V0 V1 V2 T N L G r dl sq tall st lv) : p < w.heap.size := (Array.getElem?_eq_some_iff.1 h).1
theorem Raw.only {R : Nat → Prop} (h : Raw w p V0 V1 V2 T N L G r dl sq tall st lv) (ho : Only R w w') (hp : ¬ R p) : Raw w' p V0 V1 V2 T N L G r dl sq tall st lv := ho.heap h hp
theorem Raw.later (h : Raw w p V0 V1 V2 T N L G r dl sq tall st lv) (hb : Below w.heap.size w w') : Raw w' p V0 V1 V2 T N L G r dl sq tall st lv := h.only (only_below (fun _ => False) hb) id
theorem Raw.cells (h : Raw w p V0 V1 V2 T N L G r dl sq tall st lv) : w.cell? ⟨p, 0, none⟩ = some V0 ∧ w.cell? ⟨p, 1, none⟩ = some V1 ∧ w.cell? ⟨p, 2, none⟩ = some V2 ∧ w.cell? ⟨p, 3, none⟩ = some (.int .i64 T) ∧ w.cell? ⟨p, 4, none⟩ = some (.int .i64 N) ∧ w.cell? ⟨p, 5, none⟩ = some (.int .i64 L) ∧
    w.cell? ⟨p, 6, none⟩ = some (.int .u64 G) ∧ w.cell? ⟨p, 7, none⟩ = some (.int .u64 r) ∧ w.cell? ⟨p, 8, none⟩ = some (.int .i64 dl) ∧ w.cell? ⟨p, 9, none⟩ = some (.int .u64 sq) ∧ w.cell? ⟨p, 10, none⟩ = some (.int .i64 tall) ∧ w.cell? ⟨p, 11, none⟩ = some (.int .i64 st) ∧ w.cell? ⟨p, 12, none⟩ = some (.int .i64 lv) := by
  have hc := fun j => (cell_heap h j).1
  exact ⟨hc 0, hc 1, hc 2, hc 3, hc 4, hc 5, hc 6, hc 7, hc 8, hc 9, hc 10, hc 11, hc 12⟩
theorem Raw.thawed (h : Raw w p V0 V1 V2 T N L G r dl sq tall st lv) (j : Nat) : w.frozen? ⟨p, j, none⟩ = false := (cell_heap h j).2
theorem Raw.set_0 (h : Raw w p V0 V1 V2 T N L G r dl sq tall st lv) (v : Value) : Raw (w.setCell ⟨p, 0, none⟩ v) p v V1 V2 T N L G r dl sq tall st lv := set_heap (j := 0) h v
theorem Raw.set_1 (h : Raw w p V0 V1 V2 T N L G r dl sq tall st lv) (v : Value) : Raw (w.setCell ⟨p, 1, none⟩ v) p V0 v V2 T N L G r dl sq tall st lv := set_heap (j := 1) h v
theorem Raw.set_2 (h : Raw w p V0 V1 V2 T N L G r dl sq tall st lv) (v : Value) : Raw (w.setCell ⟨p, 2, none⟩ v) p V0 V1 v T N L G r dl sq tall st lv := set_heap (j := 2) h v
theorem Raw.set_st (h : Raw w p V0 V1 V2 T N L G r dl sq tall st lv) (v : Int) : Raw (w.setCell ⟨p, 11, none⟩ (.int .i64 v)) p V0 V1 V2 T N L G r dl sq tall v lv := set_heap (j := 11) h (.int .i64 v)
theorem Raw.set_lv (h : Raw w p V0 V1 V2 T N L G r dl sq tall st lv) (v : Int) : Raw (w.setCell ⟨p, 12, none⟩ (.int .i64 v)) p V0 V1 V2 T N L G r dl sq tall st v := set_heap (j := 12) h (.int .i64 v)
theorem Raw.drew (h : Raw w p V0 V1 V2 T N L G r dl sq tall st lv) : Raw w.drew p V0 V1 V2 T N L G r dl sq tall st lv := h
end

theorem wayOn_any {w : World} {p : Nat} {V0 V1 V2 : Value} {T N L G r dl sq tall st lv : Int} (h : Raw w p V0 V1 V2 T N L G r dl sq tall st lv) {x : Int} (hx : Word x) (v : Int) : Calls Tryz.prog 41 #[.pointer (some ⟨p, 0, none⟩), .int .u64 x, .int .i64 v] w fun e w' =>
    e = .returned (.int .i64 (nextI T L (idx x) v)) ∧ Below w.heap.size w w' := by
  obtain ⟨-, -, -, e3, e4, e5, e6, -⟩ := h.cells
  have K3 := fun p : After w => p.cell e3
  have K4 := fun p : After w => p.cell e4
  have K5 := fun p : After w => p.cell e5
  have K6 := fun p : After w => p.cell e6
  have HI := Lib.hid fun W => Refer.Index_any x hx.1 hx.2 W
  have HN := Lib.hid fun W => Plan.Next_any T N L G (idx x) v W
  unfold idx at HN ⊢
  generalize x % 4294967296 / 2 = i at HI HN ⊢
  clear h hx e3 e4 e5 e6
  go_enter Tryz.func41, Tryz.ntmps41
  go_wp2
  refine wp_region_after mixed (by kernel_rfl) ?_
  repeat (first | go_big_quiet_step ((first | (with_reducible exact calls_after_same (HI.out _)) | exact calls_after (HN.out _))) | quiet_step ((first | (with_reducible exact calls_after_same (HI.out _)) | exact calls_after (HN.out _))))
  refine wpQuiet_nil ?_
  intro _ hw'
  obtain ⟨pq, hw''⟩ := hw'
  subst hw''
  go_wp2
  go_ret
  exact ⟨rfl, pq.ok⟩
theorem goOn_any {w : World} {p : Nat} {V0 V1 V2 : Value} {T N L G r dl sq tall st lv : Int} (h : Raw w p V0 V1 V2 T N L G r dl sq tall st lv) (v : Int) : Calls Tryz.prog 44 #[.pointer (some ⟨p, 0, none⟩), .int .i64 v] w fun e w' =>
    e = .returned (.tuple #[]) ∧ Raw w' p V0 V1 V2 T N L G r dl sq tall (if v < min tall L then 2 else 3) v ∧ Only (fun k => k = p) w w' := by
  obtain ⟨-, -, -, -, -, e5, -, -, -, -, e10, e11, e12⟩ := h.cells
  have f12 := h.thawed 12
  have f11 := fun u => (h.set_lv u).thawed 11
  have g11 := fun u s => ((h.set_lv u).set_st s).thawed 11
  have hO := ((only_set w p 12 (.int .i64 v)).trans (only_set _ p 11 (.int .i64 3)))
  have h3 := (h.set_lv v).set_st 3
  obtain ⟨m, hm⟩ : ∃ m, m = min tall L := ⟨_, rfl⟩
  rw [← hm]
  by_cases hv : v < m
  · rw [if_pos hv]
    have HE := Lib.hid (And.intro (h3.drew.set_st 2) (hO.drew.trans (only_set _ p 11 (.int .i64 2))))
    have hd : decide (v < m) = true := decide_eq_true hv
    have hm2 := hm.symm
    clear h h3 hO hm
    go_enter Tryz.func44, Tryz.ntmps44
    go_wp2
    go_region
    go_wp2
    refine bodyPost_end (results_none rfl _ _ _) rfl ?_
    exact ⟨rfl, HE.out⟩
  · rw [if_neg hv]
    have HE := Lib.hid (And.intro h3.drew hO.drew)
    have hd : decide (v < m) = false := decide_eq_false hv
    have hm2 := hm.symm
    clear h h3 hO hm
    go_enter Tryz.func44, Tryz.ntmps44
    go_wp2
    go_region
    go_wp2
    refine bodyPost_end (results_none rfl _ _ _) rfl ?_
    exact ⟨rfl, HE.out⟩
theorem seeks_only {w w' : World} {q k : Nat} {S R : Nat → Prop} {T N L G dl sq : Int} {s : KM.St} (h : Seeks w q S T N L G dl sq k s) (ho : Only R w w') (hR : ∀ j, S j → ¬ R j) : Seeks w' q S T N L G dl sq k s := by
  obtain ⟨h1, h2, A1, c1, A2, c2, h3⟩ := h
  exact ⟨h1, h2, A1, c1, A2, c2, h3.only ho hR⟩
theorem begun {w w1 : World} {p q : Nat} {S1 : Nat → Prop} {V0 V1 V2 : Value} {T N L G r dl sq tall st lv : Int} (h : Raw w p V0 V1 V2 T N L G r dl sq tall st lv) (hs : Seeks w1 q S1 T N L G dl sq 0 (anew L 0 0)) (hk : ∀ k, S1 k → w.drew.heap.size ≤ k ∧ k < w1.heap.size) (hb : Below w.drew.heap.size w.drew w1) :
    ∃ q' S, Raw ((((w1.setCell ⟨p, 0, none⟩ (.pointer (some ⟨q, 0, none⟩))).setCell ⟨p, 1, none⟩ (.slice none 0 0)).setCell ⟨p, 2, none⟩ (.slice none 0 0)).setCell ⟨p, 11, none⟩ (.int .i64 1)) p (.pointer (some ⟨q', 0, none⟩)) (.slice none 0 0) (.slice none 0 0) T N L G r dl sq tall 1 lv ∧ Seeks ((((w1.setCell ⟨p, 0, none⟩ (.pointer (some ⟨q, 0, none⟩))).setCell ⟨p, 1, none⟩ (.slice none 0 0)).setCell ⟨p, 2, none⟩ (.slice none 0 0)).setCell ⟨p, 11, none⟩ (.int .i64 1)) q' S T N L G dl sq 0 (anew L 0 0) ∧ (∀ k, S k → w.heap.size ≤ k ∧ k < ((((w1.setCell ⟨p, 0, none⟩ (.pointer (some ⟨q, 0, none⟩))).setCell ⟨p, 1, none⟩ (.slice none 0 0)).setCell ⟨p, 2, none⟩ (.slice none 0 0)).setCell ⟨p, 11, none⟩ (.int .i64 1)).heap.size) ∧ Only (fun k => k = p) w ((((w1.setCell ⟨p, 0, none⟩ (.pointer (some ⟨q, 0, none⟩))).setCell ⟨p, 1, none⟩ (.slice none 0 0)).setCell ⟨p, 2, none⟩ (.slice none 0 0)).setCell ⟨p, 11, none⟩ (.int .i64 1)) := by
  have hp := h.lt
  have h1 := h.later ((Below.refl w.heap.size w).drew.trans hb)
  have ho : Only (fun k => k = p) w1 ((((w1.setCell ⟨p, 0, none⟩ (.pointer (some ⟨q, 0, none⟩))).setCell ⟨p, 1, none⟩ (.slice none 0 0)).setCell ⟨p, 2, none⟩ (.slice none 0 0)).setCell ⟨p, 11, none⟩ (.int .i64 1)) := (((only_set w1 p 0 (.pointer (some ⟨q, 0, none⟩))).trans (only_set _ p 1 (.slice none 0 0))).trans (only_set _ p 2 (.slice none 0 0))).trans (only_set _ p 11 (.int .i64 1))
  refine ⟨q, S1, (((h1.set_0 (.pointer (some ⟨q, 0, none⟩))).set_1 (.slice none 0 0)).set_2 (.slice none 0 0)).set_st 1, seeks_only hs ho (fun k z e => by have h2 := (hk k z).1; simp only [World.drew] at h2; omega), fun k z => ⟨(hk k z).1, Nat.lt_of_lt_of_le (hk k z).2 ho.size⟩, (only_below _ ((Below.refl w.heap.size w).drew.trans hb)).trans ho⟩
theorem begin_any {w : World} {p : Nat} {V0 V1 V2 : Value} {T N L G r dl sq tall st lv : Int} (h : Raw w p V0 V1 V2 T N L G r dl sq tall st lv) (hL : L ≤ 9223372036854775807) : Calls Tryz.prog 39 #[.pointer (some ⟨p, 0, none⟩)] w fun e w' =>
    e = .returned (.tuple #[]) ∧ ∃ q S, Raw w' p (.pointer (some ⟨q, 0, none⟩)) (.slice none 0 0) (.slice none 0 0) T N L G r dl sq tall 1 lv ∧ Seeks w' q S T N L G dl sq 0 (anew L 0 0) ∧ (∀ k, S k → w.heap.size ≤ k ∧ k < w'.heap.size) ∧ Only (fun k => k = p) w w' := by
  obtain ⟨e0, e1, e2, e3, e4, e5, e6, -, e8, e9, -, -, -⟩ := h.cells
  have HX := Lib.hid h
  have HS := Lib.hid fun W => Seek_any T N L G dl sq hL W
  have hp := h.lt
  clear h hL
  go_enter Tryz.func39, Tryz.ntmps39
  go_wp2
  go_region_with (go_at_call 53; refine (HS.out _).mono ?_; rintro e w1 ⟨q, S1, rfl, s1, k1, b1⟩; have h1 := HX.out.later ((Below.refl w.heap.size w).drew.trans b1); obtain ⟨a0, a1, a2, -, -, -, -, -, -, -, -, a11, -⟩ := h1.cells; have t0 := h1.thawed 0; have t1 := fun u => (h1.set_0 u).thawed 1; have t2 := fun u v => ((h1.set_0 u).set_1 v).thawed 2; have t11 := fun u v x => (((h1.set_0 u).set_1 v).set_2 x).thawed 11; have HE := Lib.hid (begun HX.out s1 k1 b1); clear s1 k1 b1 h1)
  all_goals go_wp2
  all_goals refine bodyPost_end (results_none rfl _ _ _) rfl ?_
  all_goals exact ⟨rfl, HE.out⟩
/-- Where the seeker stands behind a word: amid its steps, or at its end, where all that it found is kept. -/
theorem keep_more {w : World} {p q k : Nat} {V1 V2 : Value} {S : Nat → Prop} {T N L G r dl sq tall st lv : Int} {s : KM.St} (h : Raw w p (.pointer (some ⟨q, 0, none⟩)) V1 V2 T N L G r dl sq tall st lv) (hs : Seeks w q S T N L G dl sq k s) (h0 : ¬ s.st = 0) : Calls Tryz.prog 43 #[.pointer (some ⟨p, 0, none⟩)] w fun e w' => e = .returned (.tuple #[]) ∧ Below w.heap.size w w' := by
  obtain ⟨e0, -⟩ := h.cells
  have HN := Lib.hid (Next_any hs)
  have hx : ∃ d, seekA T L s = some d := by
    cases e : seekA T L s with
    | none => exact absurd ((seekA_none hs.1).1 e) h0
    | some d => exact ⟨d, rfl⟩
  obtain ⟨d, hd⟩ := hx
  rw [hd] at HN
  clear h hs h0 hd
  go_enter Tryz.func43, Tryz.ntmps43
  go_wp2_with fail
  refine HN.out.mono ?_
  rintro e w1 ⟨rfl, b1⟩
  simp only [Option.getD_some, Option.isSome_some]
  have HB := Lib.hid b1
  have HO := Lib.hid (box_below w1)
  clear b1
  go_wp2
  refine bodyPost_ret (v := .tuple #[]) (results_none rfl _ _ _) rfl ?_
  exact ⟨rfl, HB.out.trans ((HO.out _).mono HB.out.size)⟩
theorem keep_done {w : World} {p q k : Nat} {V1 V2 : Value} {S : Nat → Prop} {T N L G r dl sq tall st lv : Int} {s : KM.St} (h : Raw w p (.pointer (some ⟨q, 0, none⟩)) V1 V2 T N L G r dl sq tall st lv) (hs : Seeks w q S T N L G dl sq k s) (hk : k ≤ 1000000) (h0 : s.st = 0) (hq : ∀ j, S j → j ≠ p) : Calls Tryz.prog 43 #[.pointer (some ⟨p, 0, none⟩)] w fun e w' =>
    e = .returned (.tuple #[]) ∧ ∃ A1 n1 c1 A2 n2 c2, Raw w' p (.pointer (some ⟨q, 0, none⟩)) (.slice A1 n1 c1) (.slice A2 n2 c2) T N L G r dl sq tall (if 0 < min tall L then 2 else 3) 0 ∧ Seeks w' q S T N L G dl sq k s ∧ n1 = s.ps.length ∧ n2 = s.ss.length ∧ Row w' w'.heap.size A1 (flat (encZ .u64) s.ps.reverse) ∧ Row w' w'.heap.size A2 (flat (encZ .u64) s.ss.reverse) ∧
      (∀ a, A1 = some a → w.heap.size ≤ a.block) ∧ (∀ a, A2 = some a → w.heap.size ≤ a.block) ∧ Only (fun k => k = p) w w' := by
  obtain ⟨e0, -⟩ := h.cells
  have HX := Lib.hid h
  have HN := Lib.hid (Next_any hs)
  rw [(seekA_none hs.1).2 h0] at HN
  have HPR := Lib.hid (show ∀ W, Below w.heap.size w W → Calls Tryz.prog 60 #[.pointer (some ⟨q, 0, none⟩)] W (Seek.Listed W s.ps.reverse) from fun W hb => by
    have h1 := Preds_any (seeks_only hs (only_below (fun _ => False) hb) (fun _ _ => id)) hk
    rwa [if_pos h0] at h1)
  have HSU := Lib.hid (show ∀ W, Below w.heap.size w W → Calls Tryz.prog 61 #[.pointer (some ⟨q, 0, none⟩)] W (Seek.Listed W s.ss.reverse) from fun W hb => by
    have h1 := Succs_any (seeks_only hs (only_below (fun _ => False) hb) (fun _ _ => id)) hk
    rwa [if_pos h0] at h1)
  have HSK := Lib.hid (show ∀ W, Only (fun k => k = p) w W → Seeks W q S T N L G dl sq k s from fun W ho => seeks_only hs ho hq)
  have hp := h.lt
  have HLE := Lib.hid hs.1.len
  have HGO := Lib.hid (show ∀ (W : World) (v1 v2 : Value), Raw W p (.pointer (some ⟨q, 0, none⟩)) v1 v2 T N L G r dl sq tall st lv → Calls Tryz.prog 44 #[.pointer (some ⟨p, 0, none⟩), .int .i64 0] W fun e w' => e = .returned (.tuple #[]) ∧ Raw w' p (.pointer (some ⟨q, 0, none⟩)) v1 v2 T N L G r dl sq tall (if 0 < min tall L then 2 else 3) 0 ∧ Only (fun k => k = p) W w' from fun W v1 v2 hw => goOn_any hw 0)
  generalize (if 0 < min tall L then (2 : Int) else 3) = u at HGO ⊢
  clear h hs h0 hq hk
  go_enter Tryz.func43, Tryz.ntmps43
  go_wp2_with fail
  refine HN.out.mono ?_
  rintro e w1 ⟨rfl, b1⟩
  simp only [Option.getD_none, Option.isSome_none]
  have HB := Lib.hid (b1.trans ((box_below w1 (.cells #[.int .i64 0, .int .i64 0, .int .u64 0, .int .u64 0, .int .u64 0] 46)).mono b1.size))
  clear b1
  go_upto_region 13 with fail
  have hz : (w1.alloc (.cells #[.int .i64 0, .int .i64 0, .int .u64 0, .int .u64 0, .int .u64 0] 46)).heap.size = w1.heap.size + 1 := by simp
  generalize w1.alloc (.cells #[.int .i64 0, .int .i64 0, .int .u64 0, .int .u64 0, .int .u64 0] 46) = w9 at HB ⊢
  have HX9 := Lib.hid (HX.out.later HB.out)
  have HD9 := Lib.hid (show Below w9.heap.size w9 w9.drew from (Below.refl _ _).drew)
  have HK := Lib.hid (show ∀ W, Below w9.heap.size w9 W → W.cell? ⟨p, 0, none⟩ = some (.pointer (some ⟨q, 0, none⟩)) from fun W hb => (HX9.out.later hb).cells.1)
  have HKS := Lib.hid (show ∀ W v, Below w9.heap.size w9 W → (W.setCell ⟨p, 1, none⟩ v).cell? ⟨p, 0, none⟩ = some (.pointer (some ⟨q, 0, none⟩)) from fun W v hb => ((HX9.out.later hb).set_1 v).cells.1)
  have HKT := Lib.hid (show ∀ W v u, Below w9.heap.size w9 W → ((W.setCell ⟨p, 1, none⟩ v).setCell ⟨p, 2, none⟩ u).cell? ⟨p, 0, none⟩ = some (.pointer (some ⟨q, 0, none⟩)) from fun W v u hb => (((HX9.out.later hb).set_1 v).set_2 u).cells.1)
  go_region_held3 (fun W => W.cell? ⟨p, 0, none⟩ = some (.pointer (some ⟨q, 0, none⟩)))
    ((first | (with_reducible exact HK.out _ HD9.out) | (with_reducible assumption) | (with_reducible exact HK.out _ HB4.out) | (with_reducible exact HK.out _ HB5.out) | (with_reducible exact HKS.out _ _ HB5.out) | (with_reducible exact HKT.out _ _ _ HB5.out)))
    (first
      | (go_at_call 60; refine (HPR.out _ (HB.out.trans (HD9.out.mono HB.out.size))).mono ?_; rintro e w4 ⟨A1, n1, c1, rfl, hn1, r1, g1, hb⟩; have HB4 := Lib.hid (HD9.out.trans (hb.mono HD9.out.size)); have H4 := Lib.hid (And.intro hn1 (And.intro r1 g1)); clear hn1 r1 g1 hb)
      | (go_at_call 61; refine (HSU.out _ (HB.out.trans (HB4.out.mono HB.out.size))).mono ?_; rintro e w5 ⟨A2, n2, c2, rfl, hn2, r2, g2, hb⟩; have HB5 := Lib.hid (HB4.out.trans (hb.mono HB4.out.size)); have H5 := Lib.hid (And.intro hn2 (And.intro (H4.out.2.1.later hb) (And.intro r2 g2))); have HX5 := Lib.hid (HX9.out.later HB5.out); obtain ⟨-, a1, a2, -⟩ := HX5.out.cells; have t1 := HX5.out.thawed 1; have t2 := fun u => (HX5.out.set_1 u).thawed 2; clear hn2 r2 g2 hb))
  have HO5 := Lib.hid (show Only (fun k => k = p) w ((w5.setCell ⟨p, 1, none⟩ (.slice A1 n1 c1)).setCell ⟨p, 2, none⟩ (.slice A2 n2 c2)) from ((only_below _ (HB.out.trans (HB5.out.mono HB.out.size))).trans (only_set w5 p 1 (.slice A1 n1 c1))).trans (only_set _ p 2 (.slice A2 n2 c2)))
  have HS5 := Lib.hid (show Only (fun k => k = p) w5 ((w5.setCell ⟨p, 1, none⟩ (.slice A1 n1 c1)).setCell ⟨p, 2, none⟩ (.slice A2 n2 c2)) from (only_set w5 p 1 (.slice A1 n1 c1)).trans (only_set _ p 2 (.slice A2 n2 c2)))
  have HG := Lib.hid (HGO.out _ _ _ ((HX5.out.set_1 (.slice A1 n1 c1)).set_2 (.slice A2 n2 c2)))
  clear a1 a2 t1 t2
  go_wp2_with fail
  refine HG.out.mono ?_
  rintro e w6 ⟨rfl, h6, o6⟩
  have HA := Lib.hid (show ∀ a, A1 = some a → w.heap.size ≤ a.block from fun a e => Nat.le_trans HB.out.size (H4.out.2.2 a e).1)
  have HC := Lib.hid (show ∀ a, A2 = some a → w.heap.size ≤ a.block from fun a e => Nat.le_trans HB.out.size (Nat.le_trans HB4.out.size (H5.out.2.2.2 a e).1))
  have HE := Lib.hid (show Only (fun k => k = p) w w6 ∧ Row w6 w6.heap.size A1 (flat (encZ .u64) s.ps.reverse) ∧ Row w6 w6.heap.size A2 (flat (encZ .u64) s.ss.reverse) from ⟨HO5.out.trans o6,
    (HS5.out.trans o6).row H5.out.2.1 (fun _ a e q => by have h1 := HA.out a e; omega), (HS5.out.trans o6).row H5.out.2.2.1 (fun _ a e q => by have h1 := HC.out a e; omega)⟩)
  have H6 := Lib.hid h6
  clear h6 o6
  go_wp2
  refine bodyPost_end (results_none rfl _ _ _) rfl ?_
  exact ⟨rfl, A1, n1, c1, A2, n2, c2, H6.out, HSK.out _ HE.out.1, by rw [H4.out.1, List.length_reverse], by rw [H5.out.1, List.length_reverse], HE.out.2.1, HE.out.2.2, HA.out, HC.out, HE.out.1⟩

end Go.Proofs.YtjefjkpomohpiaaGreatDoor.Link
