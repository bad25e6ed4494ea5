import Derived.Test.YtlagghghbpbcbaaGreatDoorStartComesAllP1
import Derived.Test.YtlagghghbpbcbaaGreatDoorStartComesAllP20
import Derived.Test.YtlagghghbpbcbaaGreatDoorStartComesAllP22
import Derived.Test.YtlagghghbpbcbaaGreatDoorStartComesAllP24
import Derived.Lib.MinMax
import Derived.RegionTactic
import Derived.Deep.RegionWith
import Derived.Test.YtlagghghbpbcbaaGreatDoorStartComesAllP15
/- Package link (layer 20), held to plain arithmetic: what a linker asks for, what it becomes; all else in memory stays as it was. -/
namespace Go.Proofs.YtlagghghbpbcbaaGreatDoor.Link
set_option maxRecDepth 20000
open Go.ChangeShapes Go.WideShapes Go.RowKit CM DM PM KM LiM Lay Ints Plan Go.Proofs.YtlagghghbpbcbaaGreatDoor.Task
open Go.Proofs.YtlagghghbpbcbaaGreatDoor.Seek (Seeks Seek_any Next_any Tell_any Preds_any Succs_any Told ToldD only_set)
set_option linter.unusedVariables false
set_option linter.unusedSimpArgs false

/-- A linker in block p, word by word. -/
def Raw (w : World) (p : Nat) (V0 V1 V2 : Value) (T N L G r dl sq tall st lv : Int) : Prop := w.heap[p]? = some (.cells #[V0, V1, V2, .int .i64 T, .int .i64 N, .int .i64 L, .int .u64 G, .int .u64 r, .int .i64 dl, .int .u64 sq, .int .i64 tall, .int .i64 st, .int .i64 lv] 179 (0, 0))
section
variable {w w' : World} {p : Nat} {V0 V1 V2 : Value} {T N L G r dl sq tall st lv : Int}
theorem Raw.lt (h : Raw w p V0 V1 V2 T N L G r dl sq tall st lv) : p < w.heap.size := (Array.getElem?_eq_some_iff.1 h).1
theorem Raw.only {R : Nat → Prop} (h : Raw w p V0 V1 V2 T N L G r dl sq tall st lv) (ho : Only R w w') (hp : ¬ R p) : Raw w' p V0 V1 V2 T N L G r dl sq tall st lv := ho.heap h hp
theorem Raw.later (h : Raw w p V0 V1 V2 T N L G r dl sq tall st lv) (hb : Below w.heap.size w w') : Raw w' p V0 V1 V2 T N L G r dl sq tall st lv := h.only (only_below (fun _ => False) hb) id
theorem Raw.cells (h : Raw w p V0 V1 V2 T N L G r dl sq tall st lv) : w.cell? ⟨p, 0, none⟩ = some V0 ∧ w.cell? ⟨p, 1, none⟩ = some V1 ∧ w.cell? ⟨p, 2, none⟩ = some V2 ∧ w.cell? ⟨p, 3, none⟩ = some (.int .i64 T) ∧ w.cell? ⟨p, 4, none⟩ = some (.int .i64 N) ∧ w.cell? ⟨p, 5, none⟩ = some (.int .i64 L) ∧
    w.cell? ⟨p, 6, none⟩ = some (.int .u64 G) ∧ w.cell? ⟨p, 7, none⟩ = some (.int .u64 r) ∧ w.cell? ⟨p, 8, none⟩ = some (.int .i64 dl) ∧ w.cell? ⟨p, 9, none⟩ = some (.int .u64 sq) ∧ w.cell? ⟨p, 10, none⟩ = some (.int .i64 tall) ∧ w.cell? ⟨p, 11, none⟩ = some (.int .i64 st) ∧ w.cell? ⟨p, 12, none⟩ = some (.int .i64 lv) := by
  have hc := fun j => (cell_heap h j).1
  exact ⟨hc 0, hc 1, hc 2, hc 3, hc 4, hc 5, hc 6, hc 7, hc 8, hc 9, hc 10, hc 11, hc 12⟩
theorem Raw.thawed (h : Raw w p V0 V1 V2 T N L G r dl sq tall st lv) (j : Nat) : w.frozen? ⟨p, j, none⟩ = false := (cell_heap h j).2
theorem Raw.set_0 (h : Raw w p V0 V1 V2 T N L G r dl sq tall st lv) (v : Value) : Raw (w.setCell ⟨p, 0, none⟩ v) p v V1 V2 T N L G r dl sq tall st lv := set_heap (j := 0) h v
theorem Raw.set_1 (h : Raw w p V0 V1 V2 T N L G r dl sq tall st lv) (v : Value) : Raw (w.setCell ⟨p, 1, none⟩ v) p V0 v V2 T N L G r dl sq tall st lv := set_heap (j := 1) h v
theorem Raw.set_2 (h : Raw w p V0 V1 V2 T N L G r dl sq tall st lv) (v : Value) : Raw (w.setCell ⟨p, 2, none⟩ v) p V0 V1 v T N L G r dl sq tall st lv := set_heap (j := 2) h v
theorem Raw.set_st (h : Raw w p V0 V1 V2 T N L G r dl sq tall st lv) (v : Int) : Raw (w.setCell ⟨p, 11, none⟩ (.int .i64 v)) p V0 V1 V2 T N L G r dl sq tall v lv := set_heap (j := 11) h (.int .i64 v)
theorem Raw.set_lv (h : Raw w p V0 V1 V2 T N L G r dl sq tall st lv) (v : Int) : Raw (w.setCell ⟨p, 12, none⟩ (.int .i64 v)) p V0 V1 V2 T N L G r dl sq tall st v := set_heap (j := 12) h (.int .i64 v)
theorem Raw.drew (h : Raw w p V0 V1 V2 T N L G r dl sq tall st lv) : Raw w.drew p V0 V1 V2 T N L G r dl sq tall st lv := h
end

theorem wayOn_any {w : World} {p : Nat} {V0 V1 V2 : Value} {T N L G r dl sq tall st lv : Int} (h : Raw w p V0 V1 V2 T N L G r dl sq tall st lv) {x : Int} (hx : Word x) (v : Int) : Calls Tryz.prog 200 #[.pointer (some ⟨p, 0, none⟩), .int .u64 x, .int .i64 v] w fun e w' =>
    e = .returned (.int .i64 (nextI T L (idx x) v)) ∧ Below w.heap.size w w' := by
  obtain ⟨-, -, -, e3, e4, e5, e6, -⟩ := h.cells
  have K3 := fun p : After w => p.cell e3
  have K4 := fun p : After w => p.cell e4
  have K5 := fun p : After w => p.cell e5
  have K6 := fun p : After w => p.cell e6
  have HI := Lib.hid fun W => Refer.Index_any x hx.1 hx.2 W
  have HN := Lib.hid fun W => Plan.Next_any T N L G (idx x) v W
  unfold idx at HN ⊢
  generalize x % 4294967296 / 2 = i at HI HN ⊢
  clear h hx e3 e4 e5 e6
  go_enter Tryz.func200, Tryz.ntmps200
  go_wp2
  refine wp_region_after mixed (by kernel_rfl) ?_
  repeat (first | go_big_quiet_step ((first | (with_reducible exact calls_after_same (HI.out _)) | exact calls_after (HN.out _))) | quiet_step ((first | (with_reducible exact calls_after_same (HI.out _)) | exact calls_after (HN.out _))))
  refine wpQuiet_nil ?_
  intro _ hw'
  obtain ⟨pq, hw''⟩ := hw'
  subst hw''
  go_wp2
  go_ret
  exact ⟨rfl, pq.ok⟩
theorem goOn_any {w : World} {p : Nat} {V0 V1 V2 : Value} {T N L G r dl sq tall st lv : Int} (h : Raw w p V0 V1 V2 T N L G r dl sq tall st lv) (v : Int) : Calls Tryz.prog 203 #[.pointer (some ⟨p, 0, none⟩), .int .i64 v] w fun e w' =>
    e = .returned (.tuple #[]) ∧ Raw w' p V0 V1 V2 T N L G r dl sq tall (if v < min tall L then 2 else 3) v ∧ Only (fun k => k = p) w w' := by
  obtain ⟨-, -, -, -, -, e5, -, -, -, -, e10, e11, e12⟩ := h.cells
  have f12 := h.thawed 12
  have f11 := fun u => (h.set_lv u).thawed 11
  have g11 := fun u s => ((h.set_lv u).set_st s).thawed 11
  have hO := ((only_set w p 12 (.int .i64 v)).trans (only_set _ p 11 (.int .i64 3)))
  have h3 := (h.set_lv v).set_st 3
  obtain ⟨m, hm⟩ : ∃ m, m = min tall L := ⟨_, rfl⟩
  rw [← hm]
  by_cases hv : v < m
  · rw [if_pos hv]
    have HE := Lib.hid (And.intro (h3.drew.set_st 2) (hO.drew.trans (only_set _ p 11 (.int .i64 2))))
    have hd : decide (v < m) = true := decide_eq_true hv
    have hm2 := hm.symm
    clear h h3 hO hm
    go_enter Tryz.func203, Tryz.ntmps203
    go_wp2
    go_region
    go_wp2
    refine bodyPost_end (results_none rfl _ _ _) rfl ?_
    exact ⟨rfl, HE.out⟩
  · rw [if_neg hv]
    have HE := Lib.hid (And.intro h3.drew hO.drew)
    have hd : decide (v < m) = false := decide_eq_false hv
    have hm2 := hm.symm
    clear h h3 hO hm
    go_enter Tryz.func203, Tryz.ntmps203
    go_wp2
    go_region
    go_wp2
    refine bodyPost_end (results_none rfl _ _ _) rfl ?_
    exact ⟨rfl, HE.out⟩
theorem seeks_only {w w' : World} {q k : Nat} {S R : Nat → Prop} {T N L G dl sq : Int} {s : KM.St} (h : Seeks w q S T N L G dl sq k s) (ho : Only R w w') (hR : ∀ j, S j → ¬ R j) : Seeks w' q S T N L G dl sq k s := by
  obtain ⟨h1, h2, A1, c1, A2, c2, h3⟩ := h
  exact ⟨h1, h2, A1, c1, A2, c2, h3.only ho hR⟩
theorem begun {w w1 : World} {p q : Nat} {S1 : Nat → Prop} {V0 V1 V2 : Value} {T N L G r dl sq tall st lv : Int} (h : Raw w p V0 V1 V2 T N L G r dl sq tall st lv) (hs : Seeks w1 q S1 T N L G dl sq 0 (anew L 0 0)) (hk : ∀ k, S1 k → w.drew.heap.size ≤ k ∧ k < w1.heap.size) (hb : Below w.drew.heap.size w.drew w1) :
    ∃ q' S, Raw ((((w1.setCell ⟨p, 0, none⟩ (.pointer (some ⟨q, 0, none⟩))).setCell ⟨p, 1, none⟩ (.slice none 0 0)).setCell ⟨p, 2, none⟩ (.slice none 0 0)).setCell ⟨p, 11, none⟩ (.int .i64 1)) p (.pointer (some ⟨q', 0, none⟩)) (.slice none 0 0) (.slice none 0 0) T N L G r dl sq tall 1 lv ∧ Seeks ((((w1.setCell ⟨p, 0, none⟩ (.pointer (some ⟨q, 0, none⟩))).setCell ⟨p, 1, none⟩ (.slice none 0 0)).setCell ⟨p, 2, none⟩ (.slice none 0 0)).setCell ⟨p, 11, none⟩ (.int .i64 1)) q' S T N L G dl sq 0 (anew L 0 0) ∧ (∀ k, S k → w.heap.size ≤ k ∧ k < ((((w1.setCell ⟨p, 0, none⟩ (.pointer (some ⟨q, 0, none⟩))).setCell ⟨p, 1, none⟩ (.slice none 0 0)).setCell ⟨p, 2, none⟩ (.slice none 0 0)).setCell ⟨p, 11, none⟩ (.int .i64 1)).heap.size) ∧ Only (fun k => k = p) w ((((w1.setCell ⟨p, 0, none⟩ (.pointer (some ⟨q, 0, none⟩))).setCell ⟨p, 1, none⟩ (.slice none 0 0)).setCell ⟨p, 2, none⟩ (.slice none 0 0)).setCell ⟨p, 11, none⟩ (.int .i64 1)) := by
  have hp := h.lt
  have h1 := h.later ((Below.refl w.heap.size w).drew.trans hb)
  have ho : Only (fun k => k = p) w1 ((((w1.setCell ⟨p, 0, none⟩ (.pointer (some ⟨q, 0, none⟩))).setCell ⟨p, 1, none⟩ (.slice none 0 0)).setCell ⟨p, 2, none⟩ (.slice none 0 0)).setCell ⟨p, 11, none⟩ (.int .i64 1)) := (((only_set w1 p 0 (.pointer (some ⟨q, 0, none⟩))).trans (only_set _ p 1 (.slice none 0 0))).trans (only_set _ p 2 (.slice none 0 0))).trans (only_set _ p 11 (.int .i64 1))
  refine ⟨q, S1, (((h1.set_0 (.pointer (some ⟨q, 0, none⟩))).set_1 (.slice none 0 0)).set_2 (.slice none 0 0)).set_st 1, seeks_only hs ho (fun k z e => by have h2 := (hk k z).1; simp only [World.drew] at h2; omega), fun k z => ⟨(hk k z).1, Nat.lt_of_lt_of_le (hk k z).2 ho.size⟩, (only_below _ ((Below.refl w.heap.size w).drew.trans hb)).trans ho⟩
theorem begin_any {w : World} {p : Nat} {V0 V1 V2 : Value} {T N L G r dl sq tall st lv : Int} (h : Raw w p V0 V1 V2 T N L G r dl sq tall st lv) (hL : L ≤ 9223372036854775807) : Calls Tryz.prog 135 #[.pointer (some ⟨p, 0, none⟩)] w fun e w' =>
    e = .returned (.tuple #[]) ∧ ∃ q S, Raw w' p (.pointer (some ⟨q, 0, none⟩)) (.slice none 0 0) (.slice none 0 0) T N L G r dl sq tall 1 lv ∧ Seeks w' q S T N L G dl sq 0 (anew L 0 0) ∧ (∀ k, S k → w.heap.size ≤ k ∧ k < w'.heap.size) ∧ Only (fun k => k = p) w w' := by
  obtain ⟨e0, e1, e2, e3, e4, e5, e6, -, e8, e9, -, -, -⟩ := h.cells
  have HX := Lib.hid h
  have HS := Lib.hid fun W => Seek_any T N L G dl sq hL W
  have hp := h.lt
  clear h hL
  go_enter Tryz.func135, Tryz.ntmps135
  go_wp2
  go_region_with (go_at_call 144; refine (HS.out _).mono ?_; rintro e w1 ⟨q, S1, rfl, s1, k1, b1⟩; have h1 := HX.out.later ((Below.refl w.heap.size w).drew.trans b1); obtain ⟨a0, a1, a2, -, -, -, -, -, -, -, -, a11, -⟩ := h1.cells; have t0 := h1.thawed 0; have t1 := fun u => (h1.set_0 u).thawed 1; have t2 := fun u v => ((h1.set_0 u).set_1 v).thawed 2; have t11 := fun u v x => (((h1.set_0 u).set_1 v).set_2 x).thawed 11; have HE := Lib.hid (begun HX.out s1 k1 b1); clear s1 k1 b1 h1)
  all_goals go_wp2
  all_goals refine bodyPost_end (results_none rfl _ _ _) rfl ?_
  all_goals exact ⟨rfl, HE.out⟩
/-- Where the seeker stands behind a word: amid its steps, or at its end, where all that it found is kept. -/
theorem keep_more {w : World} {p q k : Nat} {V1 V2 : Value} {S : Nat → Prop} {T N L G r dl sq tall st lv : Int} {s : KM.St} (h : Raw w p (.pointer (some ⟨q, 0, none⟩)) V1 V2 T N L G r dl sq tall st lv) (hs : Seeks w q S T N L G dl sq k s) (h0 : ¬ s.st = 0) : Calls Tryz.prog 202 #[.pointer (some ⟨p, 0, none⟩)] w fun e w' => e = .returned (.tuple #[]) ∧ Below w.heap.size w w' := by
  obtain ⟨e0, -⟩ := h.cells
  have HN := Lib.hid (Next_any hs)
  have hx : ∃ d, seekA T L s = some d := by
    cases e : seekA T L s with
    | none => exact absurd ((seekA_none hs.1).1 e) h0
    | some d => exact ⟨d, rfl⟩
  obtain ⟨d, hd⟩ := hx
  rw [hd] at HN
  clear h hs h0 hd
  go_enter Tryz.func202, Tryz.ntmps202
  go_wp2_with fail
  refine HN.out.mono ?_
  rintro e w1 ⟨rfl, b1⟩
  simp only [Option.getD_some, Option.isSome_some]
  have HB := Lib.hid b1
  have HO := Lib.hid (box_below w1)
  clear b1
  go_wp2
  refine bodyPost_ret (v := .tuple #[]) (results_none rfl _ _ _) rfl ?_
  exact ⟨rfl, HB.out.trans ((HO.out _).mono HB.out.size)⟩
theorem keep_done {w : World} {p q k : Nat} {V1 V2 : Value} {S : Nat → Prop} {T N L G r dl sq tall st lv : Int} {s : KM.St} (h : Raw w p (.pointer (some ⟨q, 0, none⟩)) V1 V2 T N L G r dl sq tall st lv) (hs : Seeks w q S T N L G dl sq k s) (hk : k ≤ 1000000) (h0 : s.st = 0) (hq : ∀ j, S j → j ≠ p) : Calls Tryz.prog 202 #[.pointer (some ⟨p, 0, none⟩)] w fun e w' =>
    e = .returned (.tuple #[]) ∧ ∃ A1 n1 c1 A2 n2 c2, Raw w' p (.pointer (some ⟨q, 0, none⟩)) (.slice A1 n1 c1) (.slice A2 n2 c2) T N L G r dl sq tall (if 0 < min tall L then 2 else 3) 0 ∧ Seeks w' q S T N L G dl sq k s ∧ n1 = s.ps.length ∧ n2 = s.ss.length ∧ Row w' w'.heap.size A1 (flat (encZ .u64) s.ps.reverse) ∧ Row w' w'.heap.size A2 (flat (encZ .u64) s.ss.reverse) ∧
      (∀ a, A1 = some a → w.heap.size ≤ a.block) ∧ (∀ a, A2 = some a → w.heap.size ≤ a.block) ∧ Only (fun k => k = p) w w' := by
  obtain ⟨e0, -⟩ := h.cells
  have HX := Lib.hid h
  have HN := Lib.hid (Next_any hs)
  rw [(seekA_none hs.1).2 h0] at HN
  have HPR := Lib.hid (show ∀ W, Below w.heap.size w W → Calls Tryz.prog 211 #[.pointer (some ⟨q, 0, none⟩)] W (Seek.Listed W s.ps.reverse) from fun W hb => by
    have h1 := Preds_any (seeks_only hs (only_below (fun _ => False) hb) (fun _ _ => id)) hk
    rwa [if_pos h0] at h1)
  have HSU := Lib.hid (show ∀ W, Below w.heap.size w W → Calls Tryz.prog 212 #[.pointer (some ⟨q, 0, none⟩)] W (Seek.Listed W s.ss.reverse) from fun W hb => by
    have h1 := Succs_any (seeks_only hs (only_below (fun _ => False) hb) (fun _ _ => id)) hk
    rwa [if_pos h0] at h1)
  have HSK := Lib.hid (show ∀ W, Only (fun k => k = p) w W → Seeks W q S T N L G dl sq k s from fun W ho => seeks_only hs ho hq)
  have hp := h.lt
  have HLE := Lib.hid hs.1.len
  have HGO := Lib.hid (show ∀ (W : World) (v1 v2 : Value), Raw W p (.pointer (some ⟨q, 0, none⟩)) v1 v2 T N L G r dl sq tall st lv → Calls Tryz.prog 203 #[.pointer (some ⟨p, 0, none⟩), .int .i64 0] W fun e w' => e = .returned (.tuple #[]) ∧ Raw w' p (.pointer (some ⟨q, 0, none⟩)) v1 v2 T N L G r dl sq tall (if 0 < min tall L then 2 else 3) 0 ∧ Only (fun k => k = p) W w' from fun W v1 v2 hw => goOn_any hw 0)
  generalize (if 0 < min tall L then (2 : Int) else 3) = u at HGO ⊢
  clear h hs h0 hq hk
  go_enter Tryz.func202, Tryz.ntmps202
  go_wp2_with fail
  refine HN.out.mono ?_
  rintro e w1 ⟨rfl, b1⟩
  simp only [Option.getD_none, Option.isSome_none]
  have HB := Lib.hid (b1.trans ((box_below w1 (.cells #[.int .i64 0, .int .i64 0, .int .u64 0, .int .u64 0, .int .u64 0] 63)).mono b1.size))
  clear b1
  go_upto_region 13 with fail
  have hz : (w1.alloc (.cells #[.int .i64 0, .int .i64 0, .int .u64 0, .int .u64 0, .int .u64 0] 63)).heap.size = w1.heap.size + 1 := by simp
  generalize w1.alloc (.cells #[.int .i64 0, .int .i64 0, .int .u64 0, .int .u64 0, .int .u64 0] 63) = w9 at HB ⊢
  have HX9 := Lib.hid (HX.out.later HB.out)
  have HD9 := Lib.hid (show Below w9.heap.size w9 w9.drew from (Below.refl _ _).drew)
  have HK := Lib.hid (show ∀ W, Below w9.heap.size w9 W → W.cell? ⟨p, 0, none⟩ = some (.pointer (some ⟨q, 0, none⟩)) from fun W hb => (HX9.out.later hb).cells.1)
  have HKS := Lib.hid (show ∀ W v, Below w9.heap.size w9 W → (W.setCell ⟨p, 1, none⟩ v).cell? ⟨p, 0, none⟩ = some (.pointer (some ⟨q, 0, none⟩)) from fun W v hb => ((HX9.out.later hb).set_1 v).cells.1)
  have HKT := Lib.hid (show ∀ W v u, Below w9.heap.size w9 W → ((W.setCell ⟨p, 1, none⟩ v).setCell ⟨p, 2, none⟩ u).cell? ⟨p, 0, none⟩ = some (.pointer (some ⟨q, 0, none⟩)) from fun W v u hb => (((HX9.out.later hb).set_1 v).set_2 u).cells.1)
  go_region_held3 (fun W => W.cell? ⟨p, 0, none⟩ = some (.pointer (some ⟨q, 0, none⟩)))
    ((first | (with_reducible exact HK.out _ HD9.out) | (with_reducible assumption) | (with_reducible exact HK.out _ HB4.out) | (with_reducible exact HK.out _ HB5.out) | (with_reducible exact HKS.out _ _ HB5.out) | (with_reducible exact HKT.out _ _ _ HB5.out)))
    (first
      | (go_at_call 211; refine (HPR.out _ (HB.out.trans (HD9.out.mono HB.out.size))).mono ?_; rintro e w4 ⟨A1, n1, c1, rfl, hn1, r1, g1, hb⟩; have HB4 := Lib.hid (HD9.out.trans (hb.mono HD9.out.size)); have H4 := Lib.hid (And.intro hn1 (And.intro r1 g1)); clear hn1 r1 g1 hb)
      | (go_at_call 212; refine (HSU.out _ (HB.out.trans (HB4.out.mono HB.out.size))).mono ?_; rintro e w5 ⟨A2, n2, c2, rfl, hn2, r2, g2, hb⟩; have HB5 := Lib.hid (HB4.out.trans (hb.mono HB4.out.size)); have H5 := Lib.hid (And.intro hn2 (And.intro (H4.out.2.1.later hb) (And.intro r2 g2))); have HX5 := Lib.hid (HX9.out.later HB5.out); obtain ⟨-, a1, a2, -⟩ := HX5.out.cells; have t1 := HX5.out.thawed 1; have t2 := fun u => (HX5.out.set_1 u).thawed 2; clear hn2 r2 g2 hb))
  have HO5 := Lib.hid (show Only (fun k => k = p) w ((w5.setCell ⟨p, 1, none⟩ (.slice A1 n1 c1)).setCell ⟨p, 2, none⟩ (.slice A2 n2 c2)) from ((only_below _ (HB.out.trans (HB5.out.mono HB.out.size))).trans (only_set w5 p 1 (.slice A1 n1 c1))).trans (only_set _ p 2 (.slice A2 n2 c2)))
  have HS5 := Lib.hid (show Only (fun k => k = p) w5 ((w5.setCell ⟨p, 1, none⟩ (.slice A1 n1 c1)).setCell ⟨p, 2, none⟩ (.slice A2 n2 c2)) from (only_set w5 p 1 (.slice A1 n1 c1)).trans (only_set _ p 2 (.slice A2 n2 c2)))
  have HG := Lib.hid (HGO.out _ _ _ ((HX5.out.set_1 (.slice A1 n1 c1)).set_2 (.slice A2 n2 c2)))
  clear a1 a2 t1 t2
  go_wp2_with fail
  refine HG.out.mono ?_
  rintro e w6 ⟨rfl, h6, o6⟩
  have HA := Lib.hid (show ∀ a, A1 = some a → w.heap.size ≤ a.block from fun a e => Nat.le_trans HB.out.size (H4.out.2.2 a e).1)
  have HC := Lib.hid (show ∀ a, A2 = some a → w.heap.size ≤ a.block from fun a e => Nat.le_trans HB.out.size (Nat.le_trans HB4.out.size (H5.out.2.2.2 a e).1))
  have HE := Lib.hid (show Only (fun k => k = p) w w6 ∧ Row w6 w6.heap.size A1 (flat (encZ .u64) s.ps.reverse) ∧ Row w6 w6.heap.size A2 (flat (encZ .u64) s.ss.reverse) from ⟨HO5.out.trans o6,
    (HS5.out.trans o6).row H5.out.2.1 (fun _ a e q => by have h1 := HA.out a e; omega), (HS5.out.trans o6).row H5.out.2.2.1 (fun _ a e q => by have h1 := HC.out a e; omega)⟩)
  have H6 := Lib.hid h6
  clear h6 o6
  go_wp2
  refine bodyPost_end (results_none rfl _ _ _) rfl ?_
  exact ⟨rfl, A1, n1, c1, A2, n2, c2, H6.out, HSK.out _ HE.out.1, by rw [H4.out.1, List.length_reverse], by rw [H5.out.1, List.length_reverse], HE.out.2.1, HE.out.2.2, HA.out, HC.out, HE.out.1⟩

end Go.Proofs.YtlagghghbpbcbaaGreatDoor.Link

/- A linker (package link, layer 20): what it asks for, and what it becomes when it is told a word; a new one. -/
namespace Go.Proofs.YtlagghghbpbcbaaGreatDoor.Link
set_option maxRecDepth 20000
open Go.ChangeShapes Go.WideShapes Go.RowKit CM DM PM KM LiM Lay Ints Plan Go.Proofs.YtlagghghbpbcbaaGreatDoor.Task
open Go.Proofs.YtlagghghbpbcbaaGreatDoor.Seek (Seeks Seek_any Next_any Tell_any Preds_any Succs_any only_set)
set_option linter.unusedVariables false
set_option linter.unusedSimpArgs false

/-- A linker in block p, all of whose own blocks are of S, told k words at most. -/
def Links (w : World) (p : Nat) (S : Nat → Prop) (T N L G r dl sq tall : Int) (k : Nat) (s : LiM.St) : Prop :=
  LiM.Ok L tall k s ∧ (1 ≤ L ∧ L ≤ 9223372036854775807 ∧ Word r) ∧ S p ∧ (∀ j, S j → j < w.heap.size) ∧ ∃ q Q A1 c1 A2 c2, Raw w p (.pointer (some ⟨q, 0, none⟩)) (.slice A1 s.ps.length c1) (.slice A2 s.ss.length c2) T N L G r dl sq tall s.st s.lv ∧ Seeks w q Q T N L G dl sq k s.sk ∧ (∀ j, Q j → S j ∧ j ≠ p) ∧
    Row w w.heap.size A1 (flat (encZ .u64) s.ps) ∧ Row w w.heap.size A2 (flat (encZ .u64) s.ss) ∧ (∀ a, A1 = some a → flat (encZ .u64) s.ps ≠ [] → S a.block ∧ a.block ≠ p) ∧ (∀ a, A2 = some a → flat (encZ .u64) s.ss ≠ [] → S a.block ∧ a.block ≠ p)
theorem Links.only {w w' : World} {p k : Nat} {S R : Nat → Prop} {T N L G r dl sq tall : Int} {s : LiM.St} (h : Links w p S T N L G r dl sq tall k s) (ho : Only R w w') (hR : ∀ j, S j → ¬ R j) : Links w' p S T N L G r dl sq tall k s := by
  obtain ⟨h1, h2, h3, h4, q, Q, A1, c1, A2, c2, k1, k2, k3, k4, k5, k6, k7⟩ := h
  exact ⟨h1, h2, h3, fun j hj => Nat.lt_of_lt_of_le (h4 j hj) ho.size, q, Q, A1, c1, A2, c2, k1.only ho (hR p h3), seeks_only k2 ho (fun j hj => hR j (k3 j hj).1), k3, ho.row k4 (fun hn a e => hR _ (k6 a e hn).1), ho.row k5 (fun hn a e => hR _ (k7 a e hn).1), k6, k7⟩
theorem Links.later {w w' : World} {p k : Nat} {S : Nat → Prop} {T N L G r dl sq tall : Int} {s : LiM.St} (h : Links w p S T N L G r dl sq tall k s) (hb : Below w.heap.size w w') : Links w' p S T N L G r dl sq tall k s := h.only (only_below (fun _ => False) hb) (fun _ _ => id)
theorem next_0 {w : World} {p : Nat} {V0 V1 V2 : Value} {T N L G r dl sq tall lv : Int} (h : Raw w p V0 V1 V2 T N L G r dl sq tall 0 lv) : Calls Tryz.prog 197 #[.pointer (some ⟨p, 0, none⟩)] w (Seek.Told w none) := by
  have K11 := fun o => cell_later (box_below w o) h.cells.2.2.2.2.2.2.2.2.2.2.2.1
  have HB := Lib.hid (box_below w)
  clear h
  go_enter Tryz.func197, Tryz.ntmps197
  go_wp2
  exact bodyPost_ret (v := .tuple #[.agg #[.int .i64 0, .int .i64 0, .int .u64 0, .int .u64 0, .int .u64 0], .bool false]) (by simp [results, Tryz.results197, go_sem]) rfl ⟨rfl, HB.out _⟩
theorem next_1 {w : World} {p : Nat} {V0 V1 V2 : Value} {T N L G r dl sq tall lv : Int} {q k : Nat} {S : Nat → Prop} {s : KM.St} (h : Raw w p (.pointer (some ⟨q, 0, none⟩)) V1 V2 T N L G r dl sq tall 1 lv) (hs : Seeks w q S T N L G dl sq k s) : Calls Tryz.prog 197 #[.pointer (some ⟨p, 0, none⟩)] w (Seek.Told w (seekA T L s)) := by
  have h1 := h.later (box_below w (.cells #[.int .i64 0, .int .i64 0, .int .u64 0, .int .u64 0, .int .u64 0] 63))
  obtain ⟨e0, -, -, -, -, -, -, -, -, -, -, e11, -⟩ := h1.cells
  have HN := Lib.hid (Next_any (seeks_only hs (only_below (fun _ => False) (box_below w (.cells #[.int .i64 0, .int .i64 0, .int .u64 0, .int .u64 0, .int .u64 0] 63))) (fun _ _ => id)))
  unfold Seek.Told at HN ⊢
  generalize (seekA T L s).isSome = bo at HN ⊢
  generalize (seekA T L s).getD (0, 0, 0, 0, 0) = d at HN ⊢
  clear h h1 hs
  go_enter Tryz.func197, Tryz.ntmps197
  go_wp2_with fail
  refine HN.out.mono ?_
  rintro e w1 ⟨rfl, hb⟩
  obtain ⟨⟨r0, r1, r2, r3, r4⟩, g0, g1, g2, g3, g4⟩ := res5 hb
  obtain ⟨⟨s0, s1, s2, s3, s4⟩, hB⟩ := set5 hb (.int .i64 d.1) (.int .i64 d.2.1) (.int .u64 d.2.2.1) (.int .u64 d.2.2.2.1) (.int .u64 d.2.2.2.2)
  have HB := Lib.hid hB
  clear hB hb
  go_wp2
  exact bodyPost_ret (v := .tuple #[.agg #[.int .i64 d.1, .int .i64 d.2.1, .int .u64 d.2.2.1, .int .u64 d.2.2.2.1, .int .u64 d.2.2.2.2], .bool bo]) (by simp [results, Tryz.results197, go_sem, s0, s1, s2, s3, s4]) rfl ⟨rfl, HB.out⟩
theorem next_2 {w : World} {p : Nat} {V0 V1 V2 : Value} {T N L G r dl sq tall lv : Int} {A2 : Option Addr} {n2 c2 g : Nat} {ss : List Int} (h : Raw w p V0 V1 (.slice A2 n2 c2) T N L G r dl sq tall 2 (g : Int)) (hr : Word r) (hR : Row w w.heap.size A2 (flat (encZ .u64) ss)) (hn : n2 = ss.length) (hg : g < n2) : Calls Tryz.prog 197 #[.pointer (some ⟨p, 0, none⟩)] w (Seek.Told w (some (2, nextI T L (idx r) g, ss.getD g 0, 0, r))) := by
  obtain ⟨b0, o0, rfl, hbl, hc0⟩ := int_at hR (show g < ss.length by omega)
  obtain ⟨x, hx⟩ : ∃ x, ss[g]? = some x := ⟨_, List.getElem?_eq_getElem (by omega)⟩
  have q0 := hc0 g x hx
  rw [show ss.getD g 0 = x by rw [List.getD_eq_getElem?_getD, hx]; rfl]
  obtain ⟨-, -, e2, -, -, -, -, e7, -, -, -, e11, e12⟩ := h.cells
  have K11 := fun o => cell_later (box_below w o) e11
  have HK := Lib.hid (show ∀ W, Below w.heap.size w W → W.cell? ⟨p, 2, none⟩ = some (.slice (some ⟨b0, o0, none⟩) n2 c2) ∧ W.cell? ⟨p, 7, none⟩ = some (.int .u64 r) ∧ W.cell? ⟨p, 12, none⟩ = some (.int .i64 (g : Int)) ∧ W.cell? ⟨b0, o0 + g, none⟩ = some (.int .u64 x) from fun W hb => ⟨cell_later hb e2, cell_later hb e7, cell_later hb e12, cell_later hb q0⟩)
  have HW := Lib.hid (show ∀ W, Below w.heap.size w W → Calls Tryz.prog 200 #[.pointer (some ⟨p, 0, none⟩), .int .u64 r, .int .i64 (g : Int)] W fun e w' => e = .returned (.int .i64 (nextI T L (idx r) g)) ∧ Below W.heap.size W w' from fun W hb => wayOn_any (h.later hb) hr g)
  have HS := Lib.hid (show Below w.heap.size w (w.alloc (.cells #[.int .i64 0, .int .i64 0, .int .u64 0, .int .u64 0, .int .u64 0] 63)).drew from (box_below w _).drew)
  have hgn : (g : Int) < (n2 : Int) := by omega
  generalize nextI T L (idx r) g = i at HW ⊢
  clear h hR hx hc0 hr e2 e7 e11 e12 q0 hn
  go_enter Tryz.func197, Tryz.ntmps197
  go_wp2
  go_region_held3 (fun W => W.cell? ⟨p, 2, none⟩ = some (.slice (some ⟨b0, o0, none⟩) n2 c2) ∧ W.cell? ⟨p, 7, none⟩ = some (.int .u64 r) ∧ W.cell? ⟨p, 12, none⟩ = some (.int .i64 (g : Int)) ∧ W.cell? ⟨b0, o0 + g, none⟩ = some (.int .u64 x))
    ((first | (with_reducible exact HK.out _ HS.out) | (with_reducible assumption) | (with_reducible exact HK.out _ HP2.out) | (with_reducible exact HK.out _ (set5 HB2.out _ _ _ _ _).2)))
    ((go_at_call 200; refine (HW.out _ HS.out).mono ?_; rintro e w2 ⟨rfl, hb⟩; have HB2 := Lib.hid (show Below (w.alloc (.cells #[.int .i64 0, .int .i64 0, .int .u64 0, .int .u64 0, .int .u64 0] 63)).heap.size (w.alloc (.cells #[.int .i64 0, .int .i64 0, .int .u64 0, .int .u64 0, .int .u64 0] 63)) w2 from (Below.refl _ _).drew.trans hb); have HP2 := Lib.hid ((box_below w (.cells #[.int .i64 0, .int .i64 0, .int .u64 0, .int .u64 0, .int .u64 0] 63)).trans (HB2.out.mono (by simp))); obtain ⟨⟨r0, r1, r2, r3, r4⟩, g0, g1, g2, g3, g4⟩ := res5 HB2.out; clear hb))
  obtain ⟨⟨s0, s1, s2, s3, s4⟩, hB⟩ := set5 HB2.out (.int .i64 2) (.int .i64 i) (.int .u64 x) (.int .u64 0) (.int .u64 r)
  have HB := Lib.hid hB
  clear hB r0 r1 r2 r3 r4 g0 g1 g2 g3 g4
  go_wp2
  exact bodyPost_ret (v := .tuple #[.agg #[.int .i64 2, .int .i64 i, .int .u64 x, .int .u64 0, .int .u64 r], .bool true]) (by simp [results, Tryz.results197, go_sem, s0, s1, s2, s3, s4]) rfl ⟨rfl, HB.out⟩
theorem next_3 {w : World} {p : Nat} {V0 V1 V2 : Value} {T N L G r dl sq tall lv : Int} {A1 A2 : Option Addr} {n1 c1 n2 c2 : Nat} {ps ss : List Int} (h : Raw w p V0 (.slice A1 n1 c1) (.slice A2 n2 c2) T N L G r dl sq tall 3 lv) (hp : ∀ x ∈ ps, Word x) (hQ : Row w w.heap.size A1 (flat (encZ .u64) ps)) (hR : Row w w.heap.size A2 (flat (encZ .u64) ss)) (hm : n1 = ps.length) (hn : n2 = ss.length) (h1 : 0 < n1) (h2 : 0 < n2) :
    Calls Tryz.prog 197 #[.pointer (some ⟨p, 0, none⟩)] w (Seek.Told w (some (3, nextI T L (idx (ps.getD 0 0)) 0, ss.getD 0 0, r, ps.getD 0 0))) := by
  obtain ⟨b0, o0, rfl, hbl, hc0⟩ := int_at hR (show 0 < ss.length by omega)
  obtain ⟨x, hx⟩ : ∃ x, ss[0]? = some x := ⟨_, List.getElem?_eq_getElem (by omega)⟩
  obtain ⟨b1, o1, rfl, hbl1, hc1⟩ := int_at hQ (show 0 < ps.length by omega)
  obtain ⟨y, hy⟩ : ∃ y, ps[0]? = some y := ⟨_, List.getElem?_eq_getElem (by omega)⟩
  have q0 := hc0 0 x hx
  have q1 := hc1 0 y hy
  rw [Nat.add_zero] at q0 q1
  have hyw := hp y (List.mem_of_getElem? hy)
  rw [show ss.getD 0 0 = x by rw [List.getD_eq_getElem?_getD, hx]; rfl, show ps.getD 0 0 = y by rw [List.getD_eq_getElem?_getD, hy]; rfl]
  obtain ⟨-, e1, e2, -, -, -, -, e7, -, -, -, e11, -⟩ := h.cells
  have K11 := fun o => cell_later (box_below w o) e11
  have K1 := fun o => cell_later (box_below w o) e1
  have Q1 := fun o => cell_later (box_below w o) q1
  have HK := Lib.hid (show ∀ W, Below w.heap.size w W → W.cell? ⟨p, 2, none⟩ = some (.slice (some ⟨b0, o0, none⟩) n2 c2) ∧ W.cell? ⟨p, 7, none⟩ = some (.int .u64 r) ∧ W.cell? ⟨b0, o0, none⟩ = some (.int .u64 x) from fun W hb => ⟨cell_later hb e2, cell_later hb e7, cell_later hb q0⟩)
  have HW := Lib.hid (show ∀ W, Below w.heap.size w W → Calls Tryz.prog 200 #[.pointer (some ⟨p, 0, none⟩), .int .u64 y, .int .i64 0] W fun e w' => e = .returned (.int .i64 (nextI T L (idx y) 0)) ∧ Below W.heap.size W w' from fun W hb => wayOn_any (h.later hb) hyw 0)
  have HS := Lib.hid (show Below w.heap.size w (w.alloc (.cells #[.int .i64 0, .int .i64 0, .int .u64 0, .int .u64 0, .int .u64 0] 63)).drew from (box_below w _).drew)
  have hgn : (0 : Int) < (n2 : Int) := by omega
  have hgm : (0 : Int) < (n1 : Int) := by omega
  generalize nextI T L (idx y) 0 = i at HW ⊢
  clear h hR hQ hx hy hc0 hc1 hp hyw e1 e2 e7 e11 q0 q1 hn hm
  go_enter Tryz.func197, Tryz.ntmps197
  go_wp2
  go_region_held3 (fun W => W.cell? ⟨p, 2, none⟩ = some (.slice (some ⟨b0, o0, none⟩) n2 c2) ∧ W.cell? ⟨p, 7, none⟩ = some (.int .u64 r) ∧ W.cell? ⟨b0, o0, none⟩ = some (.int .u64 x))
    ((first | (with_reducible exact HK.out _ HS.out) | (with_reducible assumption) | (with_reducible exact HK.out _ HP2.out) | (with_reducible exact HK.out _ (set5 HB2.out _ _ _ _ _).2)))
    ((go_at_call 200; refine (HW.out _ HS.out).mono ?_; rintro e w2 ⟨rfl, hb⟩; have HB2 := Lib.hid (show Below (w.alloc (.cells #[.int .i64 0, .int .i64 0, .int .u64 0, .int .u64 0, .int .u64 0] 63)).heap.size (w.alloc (.cells #[.int .i64 0, .int .i64 0, .int .u64 0, .int .u64 0, .int .u64 0] 63)) w2 from (Below.refl _ _).drew.trans hb); have HP2 := Lib.hid ((box_below w (.cells #[.int .i64 0, .int .i64 0, .int .u64 0, .int .u64 0, .int .u64 0] 63)).trans (HB2.out.mono (by simp))); obtain ⟨⟨r0, r1, r2, r3, r4⟩, g0, g1, g2, g3, g4⟩ := res5 HB2.out; clear hb))
  obtain ⟨⟨s0, s1, s2, s3, s4⟩, hB⟩ := set5 HB2.out (.int .i64 3) (.int .i64 i) (.int .u64 x) (.int .u64 r) (.int .u64 y)
  have HB := Lib.hid hB
  clear hB r0 r1 r2 r3 r4 g0 g1 g2 g3 g4
  go_wp2
  exact bodyPost_ret (v := .tuple #[.agg #[.int .i64 3, .int .i64 i, .int .u64 x, .int .u64 r, .int .u64 y], .bool true]) (by simp [results, Tryz.results197, go_sem, s0, s1, s2, s3, s4]) rfl ⟨rfl, HB.out⟩
theorem Link_next {w : World} {p k : Nat} {S : Nat → Prop} {T N L G r dl sq tall : Int} {s : LiM.St} (h : Links w p S T N L G r dl sq tall k s) : Calls Tryz.prog 197 #[.pointer (some ⟨p, 0, none⟩)] w (Seek.Told w (linkA T L r s)) := by
  obtain ⟨ho, ⟨hL1, -, hr⟩, -, -, q, Q, A1, c1, A2, c2, k1, k2, -, k4, k5, -⟩ := h
  obtain ⟨st, lv, sk, ps, ss⟩ := s
  have h0 := ho.st
  simp only at h0 k1 k2 k4 k5
  rcases h0 with rfl | rfl | rfl | rfl
  · rw [linkA_0]; exact next_0 k1
  · rw [linkA_1]; exact next_1 (V0 := .bool false) k1 k2
  · rw [linkA_2]
    obtain ⟨a, b⟩ := ho.lead rfl
    have c := (ho.len (by simp)).2
    have d := ho.lv.1
    simp only at a b c d
    obtain ⟨g, rfl⟩ := Int.eq_ofNat_of_zero_le d
    rw [Int.toNat_natCast]
    exact next_2 (lv := 0) (V2 := .bool false) k1 hr k5 rfl (by omega)
  · rw [linkA_3]
    obtain ⟨a, b⟩ := ho.len (by simp)
    simp only at a b
    exact next_3 (V1 := .bool false) (V2 := .bool false) k1 ho.ps k4 k5 rfl rfl (by omega) (by omega)
end Go.Proofs.YtlagghghbpbcbaaGreatDoor.Link

/- A linker (package link, layer 20): what it becomes when it is told a word; a new one. -/
namespace Go.Proofs.YtlagghghbpbcbaaGreatDoor.Link
set_option maxRecDepth 20000
open Go.ChangeShapes Go.WideShapes Go.RowKit CM DM PM KM LiM Lay Ints Plan Go.Proofs.YtlagghghbpbcbaaGreatDoor.Task
open Go.Proofs.YtlagghghbpbcbaaGreatDoor.Seek (Seeks Seek_any Next_any Tell_any only_set)
set_option linter.unusedVariables false
set_option linter.unusedSimpArgs false

theorem tell_0 {w : World} {p : Nat} {V0 V1 V2 : Value} {T N L G r dl sq tall lv f : Int} (h : Raw w p V0 V1 V2 T N L G r dl sq tall 0 lv) : Calls Tryz.prog 198 #[.pointer (some ⟨p, 0, none⟩), .int .u64 f] w fun e w' => e = .returned (.tuple #[]) ∧ w = w' := by
  obtain ⟨-, -, -, -, -, -, -, -, -, -, -, e11, -⟩ := h.cells
  clear h
  go_enter Tryz.func198, Tryz.ntmps198
  go_wp2
  exact bodyPost_end (results_none rfl _ _ _) rfl ⟨rfl, rfl⟩
theorem tell_2 {w : World} {p : Nat} {V0 V1 V2 : Value} {T N L G r dl sq tall lv f : Int} (h : Raw w p V0 V1 V2 T N L G r dl sq tall 2 lv) (hl : 0 ≤ lv ∧ lv < 9223372036854775807) : Calls Tryz.prog 198 #[.pointer (some ⟨p, 0, none⟩), .int .u64 f] w fun e w' => e = .returned (.tuple #[]) ∧ Raw w' p V0 V1 V2 T N L G r dl sq tall (if lv + 1 < min tall L then 2 else 3) (lv + 1) ∧ Only (fun k => k = p) w w' := by
  obtain ⟨-, -, -, -, -, -, -, -, -, -, -, e11, e12⟩ := h.cells
  have HG := Lib.hid (goOn_any h (lv + 1))
  have hw : IntKind.i64.wrap (lv + 1) = lv + 1 := IntWalk.i64_in _ ⟨by omega, by omega⟩
  generalize (if lv + 1 < min tall L then (2 : Int) else 3) = u at HG ⊢
  clear h
  go_enter Tryz.func198, Tryz.ntmps198
  go_wp2_with fail
  refine HG.out.mono ?_
  rintro e w1 ⟨rfl, h1, h2⟩
  have HE := Lib.hid (And.intro h1 h2)
  clear h1 h2
  go_wp2
  exact bodyPost_end (results_none rfl _ _ _) rfl ⟨rfl, HE.out⟩
theorem tell_3 {w : World} {p : Nat} {V0 V1 V2 : Value} {T N L G r dl sq tall lv f : Int} {A2 : Option Addr} {n2 c2 : Nat} {ss : List Int} (h : Raw w p V0 V1 (.slice A2 n2 c2) T N L G r dl sq tall 3 lv) (hR : Row w w.heap.size A2 (flat (encZ .u64) ss)) (hn : n2 = ss.length) (h2 : 0 < n2) (h0 : f = ss.getD 0 0) : Calls Tryz.prog 198 #[.pointer (some ⟨p, 0, none⟩), .int .u64 f] w fun e w' => e = .returned (.tuple #[]) ∧ Raw w' p V0 V1 (.slice A2 n2 c2) T N L G r dl sq tall 0 lv ∧ Only (fun k => k = p) w w' := by
  obtain ⟨b0, o0, rfl, hbl, hc0⟩ := int_at hR (show 0 < ss.length by omega)
  obtain ⟨x, hx⟩ : ∃ x, ss[0]? = some x := ⟨_, List.getElem?_eq_getElem (by omega)⟩
  have q0 := hc0 0 x hx
  rw [Nat.add_zero] at q0
  rw [show ss.getD 0 0 = x by rw [List.getD_eq_getElem?_getD, hx]; rfl] at h0
  subst h0
  obtain ⟨-, -, e2, -, -, -, -, -, -, -, -, e11, -⟩ := h.cells
  have f11 := h.thawed 11
  have HE := Lib.hid (And.intro (h.set_st 0) (only_set w p 11 (.int .i64 0)))
  have hgn : (0 : Int) < (n2 : Int) := by omega
  have hq : (f != f) = false := by simp
  clear h hR hx hc0 hn
  go_enter Tryz.func198, Tryz.ntmps198
  go_wp2
  exact bodyPost_end (results_none rfl _ _ _) rfl ⟨rfl, HE.out⟩
theorem tell_3n {w : World} {p : Nat} {V0 V1 V2 : Value} {T N L G r dl sq tall lv f : Int} {A2 : Option Addr} {n2 c2 : Nat} {ss : List Int} (h : Raw w p V0 V1 (.slice A2 n2 c2) T N L G r dl sq tall 3 lv) (hL : L ≤ 9223372036854775807) (hR : Row w w.heap.size A2 (flat (encZ .u64) ss)) (hn : n2 = ss.length) (h2 : 0 < n2) (h0 : ¬ f = ss.getD 0 0) : Calls Tryz.prog 198 #[.pointer (some ⟨p, 0, none⟩), .int .u64 f] w fun e w' => e = .returned (.tuple #[]) ∧ ∃ q S, Raw w' p (.pointer (some ⟨q, 0, none⟩)) (.slice none 0 0) (.slice none 0 0) T N L G r dl sq tall 1 lv ∧ Seeks w' q S T N L G dl sq 0 (anew L 0 0) ∧ (∀ k, S k → w.heap.size ≤ k ∧ k < w'.heap.size) ∧ Only (fun k => k = p) w w' := by
  obtain ⟨b0, o0, rfl, hbl, hc0⟩ := int_at hR (show 0 < ss.length by omega)
  obtain ⟨x, hx⟩ : ∃ x, ss[0]? = some x := ⟨_, List.getElem?_eq_getElem (by omega)⟩
  have q0 := hc0 0 x hx
  rw [Nat.add_zero] at q0
  rw [show ss.getD 0 0 = x by rw [List.getD_eq_getElem?_getD, hx]; rfl] at h0
  obtain ⟨-, -, e2, -, -, -, -, -, -, -, -, e11, -⟩ := h.cells
  have HB := Lib.hid (begin_any h hL)
  have hgn : (0 : Int) < (n2 : Int) := by omega
  have hq : (f != x) = true := by simpa using h0
  clear h hR hx hc0 hn h0
  go_enter Tryz.func198, Tryz.ntmps198
  go_wp2_with fail
  refine HB.out.mono ?_
  rintro e w1 ⟨rfl, h1⟩
  have HE := Lib.hid h1
  clear h1
  go_wp2
  exact bodyPost_ret (v := .tuple #[]) (results_none rfl _ _ _) rfl ⟨rfl, HE.out⟩
/-- What a linker that seeks becomes. -/
def Kept (w : World) (p : Nat) (Q : Nat → Prop) (T N L G r dl sq tall lv : Int) (q k : Nat) (s : KM.St) (e : Ending) (w' : World) : Prop :=
  e = .returned (.tuple #[]) ∧ ∃ Q' A1 c1 A2 c2, Raw w' p (.pointer (some ⟨q, 0, none⟩)) (.slice A1 (keep tall L lv s [] []).ps.length c1) (.slice A2 (keep tall L lv s [] []).ss.length c2) T N L G r dl sq tall (keep tall L lv s [] []).st (keep tall L lv s [] []).lv ∧ Seeks w' q Q' T N L G dl sq k s ∧ (∀ j, Q' j → Q j ∨ (w.heap.size ≤ j ∧ j < w'.heap.size)) ∧
    Row w' w'.heap.size A1 (flat (encZ .u64) (keep tall L lv s [] []).ps) ∧ Row w' w'.heap.size A2 (flat (encZ .u64) (keep tall L lv s [] []).ss) ∧ (∀ a, A1 = some a → flat (encZ .u64) (keep tall L lv s [] []).ps ≠ [] → w.heap.size ≤ a.block) ∧ (∀ a, A2 = some a → flat (encZ .u64) (keep tall L lv s [] []).ss ≠ [] → w.heap.size ≤ a.block) ∧ Only (fun j => j = p ∨ Q j) w w'
theorem tell_1 {w : World} {p : Nat} {V0 V1 V2 : Value} {T N L G r dl sq tall lv f : Int} {q k a1 a2 : Nat} {B1 B2 : Option Addr} {Q : Nat → Prop} {s : KM.St} (h : Raw w p (.pointer (some ⟨q, 0, none⟩)) (.slice B1 0 a1) (.slice B2 0 a2) T N L G r dl sq tall 1 lv) (hs : Seeks w q Q T N L G dl sq k s) (hQ : ∀ j, Q j → j ≠ p) (hlt : ∀ j, Q j → j < w.heap.size) (hk : k + 1 ≤ 1000000) (hf : Word f) : Calls Tryz.prog 198 #[.pointer (some ⟨p, 0, none⟩), .int .u64 f] w (Kept w p Q T N L G r dl sq tall lv q (k + 1) (seekT L dl sq s f)) := by
  obtain ⟨e0, -, -, -, -, -, -, -, -, -, -, e11, -⟩ := h.cells
  have HX := Lib.hid h
  have HQ := Lib.hid (And.intro hQ hlt)
  have HT := Lib.hid (Tell_any hs (by omega) hf)
  have hp := h.lt
  generalize seekT L dl sq s f = s1 at HT ⊢
  clear h hs hQ hlt hf
  by_cases h0 : s1.st = 0
  · have H0 := Lib.hid h0
    clear h0
    go_enter Tryz.func198, Tryz.ntmps198
    go_wp2_with fail
    refine HT.out.mono ?_
    rintro e w1 ⟨rfl, Q1, h1, o1, k1⟩
    have hX1 := HX.out.only o1 (fun e => HQ.out.1 p e rfl)
    have HZ := Lib.hid o1.size
    have HO1 := Lib.hid (o1.wide (R' := fun j => j = p ∨ Q j) fun j e => .inl (.inr e))
    have HQ1 := Lib.hid k1
    have hq1 : ∀ j, Q1 j → j ≠ p := fun j e => (k1 j e).elim (HQ.out.1 j) (fun e => by omega)
    have HS1 := Lib.hid h1
    have HKE := Lib.hid (keep_done hX1 h1 hk H0.out hq1)
    have HU := Lib.hid (show ∃ u, u = (if 0 < min tall L then (2 : Int) else 3) from ⟨_, rfl⟩)
    obtain ⟨u, hu⟩ := HU.out
    rw [← hu] at HKE
    have HU2 := Lib.hid hu
    clear h1 o1 k1 hX1 hq1 hu HU
    go_wp2_with fail
    refine HKE.out.mono ?_
    rintro e w2 ⟨rfl, A1, n1, c1, A2, n2, c2, g1, g2, g3, g4, g5, g6, g7, g8, g9⟩
    have HE := Lib.hid (show Kept w p Q T N L G r dl sq tall lv q (k + 1) s1 (.returned (.tuple #[])) w2 from by
      unfold Kept
      rw [LiM.keep_done H0.out]
      unfold goOn
      rw [← HU2.out]
      exact ⟨rfl, Q1, A1, c1, A2, c2, by rw [List.length_reverse, List.length_reverse, ← g3, ← g4]; exact g1, g2, fun j z => (HQ1.out j z).imp id fun z => ⟨z.1, Nat.lt_of_lt_of_le z.2 g9.size⟩, g5, g6, fun a z _ => Nat.le_trans HZ.out (g7 a z), fun a z _ => Nat.le_trans HZ.out (g8 a z), HO1.out.trans (g9.wide fun j z => .inl (.inl z))⟩)
    clear g1 g2 g3 g4 g5 g6 g7 g8 g9
    go_wp2
    exact bodyPost_end (results_none rfl _ _ _) rfl HE.out
  · have H0 := Lib.hid h0
    clear h0
    go_enter Tryz.func198, Tryz.ntmps198
    go_wp2_with fail
    refine HT.out.mono ?_
    rintro e w1 ⟨rfl, Q1, h1, o1, k1⟩
    have hX1 := HX.out.only o1 (fun e => HQ.out.1 p e rfl)
    have HZ := Lib.hid o1.size
    have HO1 := Lib.hid (o1.wide (R' := fun j => j = p ∨ Q j) fun j e => .inl (.inr e))
    have HQ1 := Lib.hid k1
    have hq1 : ∀ j, Q1 j → j ≠ p := fun j e => (k1 j e).elim (HQ.out.1 j) (fun e => by omega)
    have HS1 := Lib.hid h1
    have HKE := Lib.hid (keep_more hX1 h1 H0.out)
    clear h1 o1 k1 hq1
    go_wp2_with fail
    refine HKE.out.mono ?_
    rintro e w2 ⟨rfl, b2⟩
    have HE := Lib.hid (show Kept w p Q T N L G r dl sq tall lv q (k + 1) s1 (.returned (.tuple #[])) w2 from by
      unfold Kept
      rw [LiM.keep_more H0.out]
      exact ⟨rfl, Q1, B1, a1, B2, a2, hX1.later b2, seeks_only HS1.out (only_below (fun _ => False) b2) (fun _ _ => id), fun j z => (HQ1.out j z).imp id fun z => ⟨z.1, Nat.lt_of_lt_of_le z.2 b2.size⟩, fun h => absurd rfl h, fun h => absurd rfl h, fun a z h => absurd rfl h, fun a z h => absurd rfl h, HO1.out.then_below b2⟩)
    clear b2 hX1
    go_wp2
    exact bodyPost_end (results_none rfl _ _ _) rfl HE.out
theorem Link_tell {w : World} {p k : Nat} {S : Nat → Prop} {T N L G r dl sq tall f : Int} {s : LiM.St} (h : Links w p S T N L G r dl sq tall k s) (hk : k + 1 ≤ 1000000) (hf : Word f) : Calls Tryz.prog 198 #[.pointer (some ⟨p, 0, none⟩), .int .u64 f] w fun e w' =>
    e = .returned (.tuple #[]) ∧ ∃ S', Links w' p S' T N L G r dl sq tall (k + 1) (linkT L dl sq tall s f) ∧ Only S w w' ∧ ∀ j, S' j → S j ∨ (w.heap.size ≤ j ∧ j < w'.heap.size) := by
  obtain ⟨ho, ⟨hL1, hL2, hr⟩, hp, hlt, q, Q, A1, c1, A2, c2, k1, k2, k3, k4, k5, k6, k7⟩ := h
  have hok := linkT_ok (dl := dl) (sq := sq) ho hL1 hL2 hf
  have hu : ∀ {w' : World} {s' : KM.St}, Seeks w' q Q T N L G dl sq k s' → Seeks w' q Q T N L G dl sq (k + 1) s' := fun z => ⟨z.1.up (Nat.le_succ _), z.2⟩
  have hone : ∀ {w' : World}, Only (fun j => j = p) w w' → Only S w w' := fun z => z.wide fun j e => .inl (e ▸ hp)
  have hpw := k1.lt
  obtain ⟨st, lv, sk, ps, ss⟩ := s
  have h0 := ho.st
  simp only at h0 k1 k2 k4 k5 k6 k7
  rcases h0 with rfl | rfl | rfl | rfl
  · rw [linkT_0] at hok ⊢
    refine (tell_0 k1).mono ?_
    rintro e w' ⟨rfl, rfl⟩
    exact ⟨rfl, S, ⟨hok, ⟨hL1, hL2, hr⟩, hp, hlt, q, Q, A1, c1, A2, c2, k1, hu k2, k3, k4, k5, k6, k7⟩, Only.refl _ _, fun j e => .inl e⟩
  · obtain ⟨-, rfl, rfl⟩ := ho.look rfl
    rw [linkT_1] at hok ⊢
    refine (tell_1 (V0 := .bool false) (V1 := .bool false) (V2 := .bool false) k1 k2 (fun j e => (k3 j e).2) (fun j e => hlt j (k3 j e).1) hk hf).mono ?_
    rintro e w' ⟨rfl, Q', B1, d1, B2, d2, g1, g2, g3, g4, g5, g6, g7, g8⟩
    have hz := g8.size
    have hq2 : ∀ j, Q' j → (S j ∨ (w.heap.size ≤ j ∧ j < w'.heap.size)) ∧ j ≠ p := fun j e => (g3 j e).elim (fun e => ⟨.inl (k3 j e).1, (k3 j e).2⟩) (fun e => ⟨.inr e, by omega⟩)
    have hin : ∀ {A : Option Addr} {l : List Int} (a : Addr), Row w' w'.heap.size A (flat (encZ .u64) l) → A = some a → flat (encZ .u64) l ≠ [] → a.block < w'.heap.size := fun a hr e hn => by
      obtain ⟨g, o, e2, hb, -⟩ := hr hn
      rw [e] at e2
      cases e2
      exact hb
    have hsk : (keep tall L lv (seekT L dl sq sk f) [] []).sk = seekT L dl sq sk f := by
      unfold keep goOn
      split <;> rfl
    exact ⟨rfl, fun j => S j ∨ (w.heap.size ≤ j ∧ j < w'.heap.size), ⟨hok, ⟨hL1, hL2, hr⟩, .inl hp, fun j e => e.elim (fun e => Nat.lt_of_lt_of_le (hlt j e) hz) And.right, q, Q', B1, d1, B2, d2, g1, by rw [hsk]; exact g2, hq2, g4, g5,
      fun a e hn => ⟨.inr ⟨g6 a e hn, hin a g4 e hn⟩, by have := g6 a e hn; omega⟩, fun a e hn => ⟨.inr ⟨g7 a e hn, hin a g5 e hn⟩, by have := g7 a e hn; omega⟩⟩, g8.wide fun j e => .inl (e.elim (fun e => e ▸ hp) fun e => (k3 j e).1), fun j e => e⟩
  · rw [linkT_2] at hok ⊢
    obtain ⟨a, b⟩ := ho.lead rfl
    have c := ho.lv.1
    simp only at a b c
    refine (tell_2 k1 ⟨c, by omega⟩).mono ?_
    rintro e w' ⟨rfl, g1, g2⟩
    have hz := g2.size
    exact ⟨rfl, S, ⟨hok, ⟨hL1, hL2, hr⟩, hp, fun j e => Nat.lt_of_lt_of_le (hlt j e) hz, q, Q, A1, c1, A2, c2, g1, hu (seeks_only k2 g2 fun j e => (k3 j e).2), k3, g2.row k4 fun hn a e => (k6 a e hn).2, g2.row k5 fun hn a e => (k7 a e hn).2, k6, k7⟩, hone g2, fun j e => .inl e⟩
  · obtain ⟨a, b⟩ := ho.len (by simp)
    simp only at a b
    by_cases e : f = ss.getD 0 0
    · rw [linkT_3 e] at hok ⊢
      refine (tell_3 (V2 := .bool false) k1 k5 rfl (by omega) e).mono ?_
      rintro e w' ⟨rfl, g1, g2⟩
      have hz := g2.size
      exact ⟨rfl, S, ⟨hok, ⟨hL1, hL2, hr⟩, hp, fun j e => Nat.lt_of_lt_of_le (hlt j e) hz, q, Q, A1, c1, A2, c2, g1, hu (seeks_only k2 g2 fun j e => (k3 j e).2), k3, g2.row k4 fun hn a e => (k6 a e hn).2, g2.row k5 fun hn a e => (k7 a e hn).2, k6, k7⟩, hone g2, fun j e => .inl e⟩
    · rw [linkT_3n e] at hok ⊢
      refine (tell_3n (V2 := .bool false) k1 hL2 k5 rfl (by omega) e).mono ?_
      rintro e w' ⟨rfl, q', Q', g1, g2, g3, g4⟩
      have hz := g4.size
      exact ⟨rfl, fun j => S j ∨ (w.heap.size ≤ j ∧ j < w'.heap.size), ⟨hok, ⟨hL1, hL2, hr⟩, .inl hp, fun j e => e.elim (fun e => Nat.lt_of_lt_of_le (hlt j e) hz) And.right, q', Q', none, 0, none, 0, g1, ⟨g2.1.up (Nat.zero_le _), g2.2⟩, fun j e => ⟨.inr (g3 j e), by have := (g3 j e).1; omega⟩, Row.none_, Row.none_, fun a e => (by cases e), fun a e => (by cases e)⟩, hone g4, fun j e => e⟩
theorem Link_any (T N L G r dl sq tall : Int) (hL : 1 ≤ L ∧ L ≤ 9223372036854775807) (hr : Word r) (w : World) : Calls Tryz.prog 128 #[.agg #[.int .i64 T, .int .i64 N, .int .i64 L, .int .u64 G], .int .u64 r, .agg #[.int .i64 dl, .int .u64 sq], .int .i64 tall] w fun e w' => ∃ p S, e = .returned (.pointer (some ⟨p, 0, none⟩)) ∧ Links w' p S T N L G r dl sq tall 0 (LiM.begin L 0) ∧ (∀ k, S k → w.heap.size ≤ k ∧ k < w'.heap.size) ∧ Below w.heap.size w w' := by
  have HE := Lib.hid (show Raw (((w.alloc (.cells #[.int .i64 T, .int .i64 N, .int .i64 L, .int .u64 G] 24)).alloc (.cells #[.int .i64 dl, .int .u64 sq] 58)).alloc (.cells #[.pointer none, .slice none 0 0, .slice none 0 0, .int .i64 T, .int .i64 N, .int .i64 L, .int .u64 G, .int .u64 r, .int .i64 dl, .int .u64 sq, .int .i64 tall, .int .i64 0, .int .i64 0] 179)) (w.heap.size + 2) (.pointer none) (.slice none 0 0) (.slice none 0 0) T N L G r dl sq tall 0 0 from by
    have h := new_heap ((w.alloc (.cells #[.int .i64 T, .int .i64 N, .int .i64 L, .int .u64 G] 24)).alloc (.cells #[.int .i64 dl, .int .u64 sq] 58)) (.cells #[.pointer none, .slice none 0 0, .slice none 0 0, .int .i64 T, .int .i64 N, .int .i64 L, .int .u64 G, .int .u64 r, .int .i64 dl, .int .u64 sq, .int .i64 tall, .int .i64 0, .int .i64 0] 179)
    simp only [World.size_alloc] at h
    exact h)
  have HB := Lib.hid (show ∀ o1 o2 o3, Below w.heap.size w (((w.alloc o1).alloc o2).alloc o3) from fun o1 o2 o3 => (((Below.refl _ _).alloc (Nat.le_refl _) _).alloc (by simp) _).alloc (by simp; omega) _)
  obtain ⟨c_0, c_1, c_2, c_3⟩ := box4 w (.int .i64 T) (.int .i64 N) (.int .i64 L) (.int .u64 G) 24
  have HBE := Lib.hid (begin_any HE.out hL.2)
  have HH := Lib.hid (And.intro hL hr)
  have hpos : (0 : Int) < L := by omega
  clear hL hr
  go_enter Tryz.func128, Tryz.ntmps128
  go_wp2_with fail
  refine HBE.out.mono ?_
  rintro e w1 ⟨rfl, q, Q, h1, h2, h3, h4⟩
  have H1 := Lib.hid (show ∃ S, Links w1 (w.heap.size + 2) S T N L G r dl sq tall 0 (LiM.begin L 0) ∧ (∀ k, S k → w.heap.size ≤ k ∧ k < w1.heap.size) ∧ Below w.heap.size w w1 from by
    have hz := h4.size
    have hb := HB.out (.cells #[.int .i64 T, .int .i64 N, .int .i64 L, .int .u64 G] 24) (.cells #[.int .i64 dl, .int .u64 sq] 58) (.cells #[.pointer none, .slice none 0 0, .slice none 0 0, .int .i64 T, .int .i64 N, .int .i64 L, .int .u64 G, .int .u64 r, .int .i64 dl, .int .u64 sq, .int .i64 tall, .int .i64 0, .int .i64 0] 179)
    simp only [World.size_alloc] at h3 hz
    refine ⟨fun j => w.heap.size + 2 ≤ j ∧ j < w1.heap.size, ⟨begin_ok HH.out.1.1 HH.out.1.2 ⟨Int.le_refl _, by have := HH.out.1; omega⟩, ⟨HH.out.1.1, HH.out.1.2, HH.out.2⟩, ⟨Nat.le_refl _, by omega⟩, fun j e => e.2, q, Q, none, 0, none, 0, h1, h2, fun j e => ⟨⟨by have := (h3 j e).1; omega, (h3 j e).2⟩, by have := (h3 j e).1; omega⟩, Row.none_, Row.none_, fun a e => (by cases e), fun a e => (by cases e)⟩, fun k e => ⟨by have := e.1; omega, e.2⟩, hb.trans (h4.below hb.size fun k e => by omega)⟩)
  clear h1 h2 h3 h4 c_0 c_1 c_2 c_3
  go_wp2
  go_ret
  obtain ⟨S, hS⟩ := H1.out
  exact ⟨_, S, rfl, hS⟩
end Go.Proofs.YtlagghghbpbcbaaGreatDoor.Link

/- Package lift (layer 21), held to plain arithmetic: what a lifter asks for, what it becomes; all else in memory stays as it was. -/
namespace Go.Proofs.YtlagghghbpbcbaaGreatDoor.Lift
set_option maxRecDepth 20000
open Go.ChangeShapes Go.WideShapes Go.RowKit CM DM PM KM LfM Lay Ints Plan Go.Proofs.YtlagghghbpbcbaaGreatDoor.Task
open Go.Proofs.YtlagghghbpbcbaaGreatDoor.Seek (Seeks Seek_any Next_any Tell_any Preds_any Succs_any Told ToldD only_set)
set_option linter.unusedVariables false
set_option linter.unusedSimpArgs false

/-- A lifter in block p, word by word: V1 and V2 are its rows, U the seek that is under way. -/
def Raw (w : World) (p : Nat) (V1 V2 U : Value) (T N L G r dl sq tall st lv wy : Int) : Prop := w.heap[p]? = some (.cells #[.int .i64 T, .int .i64 N, .int .i64 L, .int .u64 G, .int .u64 r, .int .i64 dl, .int .u64 sq, .int .i64 tall, V1, V2, .int .i64 st, .int .i64 lv, .int .u64 wy, U] 204 (0, 0))
section
variable {w w' : World} {p : Nat} {V1 V2 U : Value} {T N L G r dl sq tall st lv wy : Int}
theorem Raw.lt (h : Raw w p V1 V2 U T N L G r dl sq tall st lv wy) : p < w.heap.size := (Array.getElem?_eq_some_iff.1 h).1
theorem Raw.only {R : Nat → Prop} (h : Raw w p V1 V2 U T N L G r dl sq tall st lv wy) (ho : Only R w w') (hp : ¬ R p) : Raw w' p V1 V2 U T N L G r dl sq tall st lv wy := ho.heap h hp
theorem Raw.later (h : Raw w p V1 V2 U T N L G r dl sq tall st lv wy) (hb : Below w.heap.size w w') : Raw w' p V1 V2 U T N L G r dl sq tall st lv wy := h.only (only_below (fun _ => False) hb) id
theorem Raw.cells (h : Raw w p V1 V2 U T N L G r dl sq tall st lv wy) : w.cell? ⟨p, 0, none⟩ = some (.int .i64 T) ∧ w.cell? ⟨p, 1, none⟩ = some (.int .i64 N) ∧ w.cell? ⟨p, 2, none⟩ = some (.int .i64 L) ∧ w.cell? ⟨p, 3, none⟩ = some (.int .u64 G) ∧
    w.cell? ⟨p, 4, none⟩ = some (.int .u64 r) ∧ w.cell? ⟨p, 5, none⟩ = some (.int .i64 dl) ∧ w.cell? ⟨p, 6, none⟩ = some (.int .u64 sq) ∧ w.cell? ⟨p, 7, none⟩ = some (.int .i64 tall) ∧ w.cell? ⟨p, 8, none⟩ = some V1 ∧ w.cell? ⟨p, 9, none⟩ = some V2 ∧
    w.cell? ⟨p, 10, none⟩ = some (.int .i64 st) ∧ w.cell? ⟨p, 11, none⟩ = some (.int .i64 lv) ∧ w.cell? ⟨p, 12, none⟩ = some (.int .u64 wy) ∧ w.cell? ⟨p, 13, none⟩ = some U := by
  have hc := fun j => (cell_heap h j).1
  exact ⟨hc 0, hc 1, hc 2, hc 3, hc 4, hc 5, hc 6, hc 7, hc 8, hc 9, hc 10, hc 11, hc 12, hc 13⟩
theorem Raw.thawed (h : Raw w p V1 V2 U T N L G r dl sq tall st lv wy) (j : Nat) : w.frozen? ⟨p, j, none⟩ = false := (cell_heap h j).2
theorem Raw.set_1 (h : Raw w p V1 V2 U T N L G r dl sq tall st lv wy) (v : Value) : Raw (w.setCell ⟨p, 8, none⟩ v) p v V2 U T N L G r dl sq tall st lv wy := set_heap (j := 8) h v
theorem Raw.set_2 (h : Raw w p V1 V2 U T N L G r dl sq tall st lv wy) (v : Value) : Raw (w.setCell ⟨p, 9, none⟩ v) p V1 v U T N L G r dl sq tall st lv wy := set_heap (j := 9) h v
theorem Raw.set_st (h : Raw w p V1 V2 U T N L G r dl sq tall st lv wy) (v : Int) : Raw (w.setCell ⟨p, 10, none⟩ (.int .i64 v)) p V1 V2 U T N L G r dl sq tall v lv wy := set_heap (j := 10) h (.int .i64 v)
theorem Raw.set_lv (h : Raw w p V1 V2 U T N L G r dl sq tall st lv wy) (v : Int) : Raw (w.setCell ⟨p, 11, none⟩ (.int .i64 v)) p V1 V2 U T N L G r dl sq tall st v wy := set_heap (j := 11) h (.int .i64 v)
theorem Raw.set_wy (h : Raw w p V1 V2 U T N L G r dl sq tall st lv wy) (v : Int) : Raw (w.setCell ⟨p, 12, none⟩ (.int .u64 v)) p V1 V2 U T N L G r dl sq tall st lv v := set_heap (j := 12) h (.int .u64 v)
theorem Raw.set_u (h : Raw w p V1 V2 U T N L G r dl sq tall st lv wy) (v : Value) : Raw (w.setCell ⟨p, 13, none⟩ v) p V1 V2 v T N L G r dl sq tall st lv wy := set_heap (j := 13) h v
theorem Raw.drew (h : Raw w p V1 V2 U T N L G r dl sq tall st lv wy) : Raw w.drew p V1 V2 U T N L G r dl sq tall st lv wy := h
end
theorem seeks_only {w w' : World} {q k : Nat} {S R : Nat → Prop} {T N L G dl sq : Int} {s : KM.St} (h : Seeks w q S T N L G dl sq k s) (ho : Only R w w') (hR : ∀ j, S j → ¬ R j) : Seeks w' q S T N L G dl sq k s := by
  obtain ⟨h1, h2, A1, c1, A2, c2, h3⟩ := h
  exact ⟨h1, h2, A1, c1, A2, c2, h3.only ho hR⟩
theorem run_min3 (w : World) (ts : Array TypeId) (t : TypeId) (k k' k2 : IntKind) (x y z : Int) : (Builtin.min_ ts t #[.int k x, .int k' y, .int k2 z]).run Tryz.prog w = .ok (.int k (min x (min y z))) w := by
  have e1 : ∀ x y : Int, (if y < x then y else x) = min x y := fun x y => by
    rw [Int.min_def]
    split <;> split <;> omega
  simp [Builtin.min_, Builtin.min2, e1]

theorem wayOn_any {w : World} {p : Nat} {V1 V2 U : Value} {T N L G r dl sq tall st lv wy : Int} (h : Raw w p V1 V2 U T N L G r dl sq tall st lv wy) {x : Int} (hx : Word x) : Calls Tryz.prog 230 #[.pointer (some ⟨p, 0, none⟩), .int .u64 x] w fun e w' =>
    e = .returned (.int .i64 (nextI T L (idx x) lv)) ∧ Below w.heap.size w w' := by
  obtain ⟨e0, e1, e2, e3, -, -, -, -, -, -, -, e11, -⟩ := h.cells
  have K0 := fun p : After w => p.cell e0
  have K1 := fun p : After w => p.cell e1
  have K2 := fun p : After w => p.cell e2
  have K3 := fun p : After w => p.cell e3
  have K11 := fun p : After w => p.cell e11
  have HI := Lib.hid fun W => Refer.Index_any x hx.1 hx.2 W
  have HN := Lib.hid fun W => Plan.Next_any T N L G (idx x) lv W
  unfold idx at HN ⊢
  generalize x % 4294967296 / 2 = i at HI HN ⊢
  clear h hx e0 e1 e2 e3 e11
  go_enter Tryz.func230, Tryz.ntmps230
  go_wp2
  refine wp_region_after mixed (by kernel_rfl) ?_
  repeat (first | go_big_quiet_step ((first | (with_reducible exact calls_after_same (HI.out _)) | exact calls_after (HN.out _))) | quiet_step ((first | (with_reducible exact calls_after_same (HI.out _)) | exact calls_after (HN.out _))))
  refine wpQuiet_nil ?_
  intro _ hw'
  obtain ⟨pq, hw''⟩ := hw'
  subst hw''
  go_wp2
  go_ret
  exact ⟨rfl, pq.ok⟩
theorem reach_any {w : World} {p n1 c1 n2 c2 : Nat} {A1 A2 : Option Addr} {U : Value} {T N L G r dl sq tall st lv wy : Int} (h : Raw w p (.slice A1 n1 c1) (.slice A2 n2 c2) U T N L G r dl sq tall st lv wy) (v : Int) : Calls Tryz.prog 157 #[.pointer (some ⟨p, 0, none⟩), .int .i64 v] w fun e w' =>
    e = .returned (.tuple #[]) ∧ Raw w' p (.slice A1 n1 c1) (.slice A2 n2 c2) U T N L G r dl sq tall (if v < min tall (min (n1 : Int) n2) then (1 : Int) else 0) v wy ∧ Only (fun k => k = p) w w' := by
  obtain ⟨-, -, -, -, -, -, -, e7, e8, e9, e10, e11, -⟩ := h.cells
  have f11 := h.thawed 11
  have f10 := fun u => (h.set_lv u).thawed 10
  have g10 := fun u s => ((h.set_lv u).set_st s).thawed 10
  have hO := ((only_set w p 11 (.int .i64 v)).trans (only_set _ p 10 (.int .i64 0)))
  have h3 := (h.set_lv v).set_st 0
  have hm3 := fun W : World => run_min3 W #[3, 3, 3] 3 .i64 .i64 .i64 tall n1 n2
  obtain ⟨m, hm⟩ : ∃ m, m = min tall (min (n1 : Int) n2) := ⟨_, rfl⟩
  rw [← hm]
  simp only [← hm] at hm3
  by_cases hv : v < m
  · rw [if_pos hv]
    have HE := Lib.hid (And.intro (h3.drew.set_st 1) (hO.drew.trans (only_set _ p 10 (.int .i64 1))))
    have hd : decide (v < m) = true := decide_eq_true hv
    clear h h3 hO hm
    go_enter Tryz.func157, Tryz.ntmps157
    go_wp2
    go_region
    go_wp2
    refine bodyPost_end (results_none rfl _ _ _) rfl ?_
    exact ⟨rfl, HE.out⟩
  · rw [if_neg hv]
    have HE := Lib.hid (And.intro h3.drew hO.drew)
    have hd : decide (v < m) = false := decide_eq_false hv
    clear h h3 hO hm
    go_enter Tryz.func157, Tryz.ntmps157
    go_wp2
    go_region
    go_wp2
    refine bodyPost_end (results_none rfl _ _ _) rfl ?_
    exact ⟨rfl, HE.out⟩
end Go.Proofs.YtlagghghbpbcbaaGreatDoor.Lift

/- A lifter (package lift, layer 21): what it asks for. -/
namespace Go.Proofs.YtlagghghbpbcbaaGreatDoor.Lift
set_option maxRecDepth 20000
open Go.ChangeShapes Go.WideShapes Go.RowKit CM DM PM KM LfM Lay Ints Plan Go.Proofs.YtlagghghbpbcbaaGreatDoor.Task
open Go.Proofs.YtlagghghbpbcbaaGreatDoor.Seek (Seeks Seek_any Next_any Tell_any Preds_any Succs_any only_set)
set_option linter.unusedVariables false
set_option linter.unusedSimpArgs false

/-- The seek that is under way, as a task. -/
abbrev seekV (q : Nat) : Value := .iface 175 (.pointer (some ⟨q, 0, none⟩))
theorem methods_task : Tryz.prog.underlying 120 = some (.interface (Tryz.prog.methodsAt 120)) := by kernel_rfl
theorem seek_held (q : Nat) (w : World) : (binOp .eql 120 (seekV q) .nilIface).run Tryz.prog w = .ok (.bool false) w := run_eql_held_nil w _ _ _ methods_task
theorem method_next (q : Nat) (n : Nat) (w : World) : (method (n + 1) 175 (.pointer (some ⟨q, 0, none⟩)) "Next").run Tryz.prog w = .ok (199, .pointer (some ⟨q, 0, none⟩)) w := by kernel_rfl
theorem assert_seek (q : Nat) (w : World) : (Instr.typeAssert (seekV q) 120 175 true).run Tryz.prog w = .ok (.tuple #[.pointer (some ⟨q, 0, none⟩), .bool true]) w := by kernel_rfl
theorem assert_none (w : World) : (Instr.typeAssert .nilIface 120 175 true).run Tryz.prog w = .ok (.tuple #[.pointer none, .bool false]) w := by kernel_rfl
/-- A lifter in block p, all of whose own blocks are of S, told k words at most. -/
def Lifts (w : World) (p : Nat) (S : Nat → Prop) (T N L G r dl sq tall : Int) (k : Nat) (s : LfM.St) : Prop :=
  LfM.Ok L tall k s ∧ (1 ≤ L ∧ L ≤ 9223372036854775807 ∧ Word r) ∧ S p ∧ (∀ j, S j → j < w.heap.size) ∧ ∃ A1 c1 A2 c2, Row w w.heap.size A1 (flat (encZ .u64) s.ps) ∧ Row w w.heap.size A2 (flat (encZ .u64) s.ss) ∧ (∀ a, A1 = some a → flat (encZ .u64) s.ps ≠ [] → S a.block ∧ a.block ≠ p) ∧ (∀ a, A2 = some a → flat (encZ .u64) s.ss ≠ [] → S a.block ∧ a.block ≠ p) ∧
    ((s.un = none ∧ Raw w p (.slice A1 s.ps.length c1) (.slice A2 s.ss.length c2) .nilIface T N L G r dl sq tall s.st s.lv s.wy) ∨ ∃ q sk Q, s.un = some sk ∧ Raw w p (.slice A1 s.ps.length c1) (.slice A2 s.ss.length c2) (seekV q) T N L G r dl sq tall s.st s.lv s.wy ∧ Seeks w q Q T N L G dl sq k sk ∧ ∀ j, Q j → S j ∧ j ≠ p ∧ (∀ a, A1 = some a → flat (encZ .u64) s.ps ≠ [] → a.block ≠ j) ∧ ∀ a, A2 = some a → flat (encZ .u64) s.ss ≠ [] → a.block ≠ j)
theorem Lifts.only {w w' : World} {p k : Nat} {S R : Nat → Prop} {T N L G r dl sq tall : Int} {s : LfM.St} (h : Lifts w p S T N L G r dl sq tall k s) (ho : Only R w w') (hR : ∀ j, S j → ¬ R j) : Lifts w' p S T N L G r dl sq tall k s := by
  obtain ⟨h1, h2, h3, h4, A1, c1, A2, c2, k1, k2, k3, k4, k5⟩ := h
  refine ⟨h1, h2, h3, fun j hj => Nat.lt_of_lt_of_le (h4 j hj) ho.size, A1, c1, A2, c2, ho.row k1 (fun hn a e => hR _ (k3 a e hn).1), ho.row k2 (fun hn a e => hR _ (k4 a e hn).1), k3, k4, ?_⟩
  rcases k5 with ⟨e, k5⟩ | ⟨q, sk, Q, e, k5, k6, k7⟩
  · exact .inl ⟨e, k5.only ho (hR p h3)⟩
  · exact .inr ⟨q, sk, Q, e, k5.only ho (hR p h3), seeks_only k6 ho (fun j hj => hR j (k7 j hj).1), k7⟩
theorem Lifts.later {w w' : World} {p k : Nat} {S : Nat → Prop} {T N L G r dl sq tall : Int} {s : LfM.St} (h : Lifts w p S T N L G r dl sq tall k s) (hb : Below w.heap.size w w') : Lifts w' p S T N L G r dl sq tall k s := h.only (only_below (fun _ => False) hb) (fun _ _ => id)
theorem ask_0 {w : World} {p : Nat} {V1 V2 U : Value} {T N L G r dl sq tall lv wy : Int} (h : Raw w p V1 V2 U T N L G r dl sq tall 0 lv wy) : Calls Tryz.prog 227 #[.pointer (some ⟨p, 0, none⟩)] w (Seek.Told w none) := by
  have K10 := fun o => cell_later (box_below w o) h.cells.2.2.2.2.2.2.2.2.2.2.1
  have HB := Lib.hid (box_below w)
  clear h
  go_enter Tryz.func227, Tryz.ntmps227
  go_wp2
  exact bodyPost_ret (v := .tuple #[.agg #[.int .i64 0, .int .i64 0, .int .u64 0, .int .u64 0, .int .u64 0], .bool false]) (by simp [results, Tryz.results227, go_sem]) rfl ⟨rfl, HB.out _⟩
theorem ask_1 {w : World} {p : Nat} {V1 V2 U : Value} {T N L G r dl sq tall lv wy : Int} (h : Raw w p V1 V2 U T N L G r dl sq tall 1 lv wy) (hr : Word r) : Calls Tryz.prog 227 #[.pointer (some ⟨p, 0, none⟩)] w (Seek.Told w (some (1, nextI T L (idx r) lv, 0, 0, r))) := by
  obtain ⟨-, -, -, -, e4, -, -, -, -, -, e10, -⟩ := h.cells
  have K10 := fun o => cell_later (box_below w o) e10
  have HK := Lib.hid (show ∀ W, Below w.heap.size w W → W.cell? ⟨p, 4, none⟩ = some (.int .u64 r) from fun W hb => cell_later hb e4)
  have HW := Lib.hid (show ∀ W, Below w.heap.size w W → Calls Tryz.prog 230 #[.pointer (some ⟨p, 0, none⟩), .int .u64 r] W fun e w' => e = .returned (.int .i64 (nextI T L (idx r) lv)) ∧ Below W.heap.size W w' from fun W hb => wayOn_any (h.later hb) hr)
  have HS := Lib.hid (show Below w.heap.size w (w.alloc (.cells #[.int .i64 0, .int .i64 0, .int .u64 0, .int .u64 0, .int .u64 0] 63)).drew from (box_below w _).drew)
  generalize nextI T L (idx r) lv = i at HW ⊢
  clear h hr e4 e10
  go_enter Tryz.func227, Tryz.ntmps227
  go_wp2
  go_region_held3 (fun W => W.cell? ⟨p, 4, none⟩ = some (.int .u64 r))
    ((first | (with_reducible exact HK.out _ HS.out) | (with_reducible assumption) | (with_reducible exact HK.out _ HP2.out) | (with_reducible exact HK.out _ (set5 HB2.out _ _ _ _ _).2)))
    ((go_at_call 230; refine (HW.out _ HS.out).mono ?_; rintro e w2 ⟨rfl, hb⟩; have HB2 := Lib.hid (show Below (w.alloc (.cells #[.int .i64 0, .int .i64 0, .int .u64 0, .int .u64 0, .int .u64 0] 63)).heap.size (w.alloc (.cells #[.int .i64 0, .int .i64 0, .int .u64 0, .int .u64 0, .int .u64 0] 63)) w2 from (Below.refl _ _).drew.trans hb); have HP2 := Lib.hid ((box_below w (.cells #[.int .i64 0, .int .i64 0, .int .u64 0, .int .u64 0, .int .u64 0] 63)).trans (HB2.out.mono (by simp))); obtain ⟨⟨r0, r1, r2, r3, r4⟩, g0, g1, g2, g3, g4⟩ := res5 HB2.out; clear hb))
  obtain ⟨⟨s0, s1, s2, s3, s4⟩, hB⟩ := set5 HB2.out (.int .i64 1) (.int .i64 i) (.int .u64 0) (.int .u64 0) (.int .u64 r)
  have HB := Lib.hid hB
  clear hB r0 r1 r2 r3 r4 g0 g1 g2 g3 g4
  go_wp2
  exact bodyPost_ret (v := .tuple #[.agg #[.int .i64 1, .int .i64 i, .int .u64 0, .int .u64 0, .int .u64 r], .bool true]) (by simp [results, Tryz.results227, go_sem, s0, s1, s2, s3, s4]) rfl ⟨rfl, HB.out⟩
theorem ask_2 {w : World} {p : Nat} {V1 V2 U : Value} {T N L G r dl sq tall lv wy : Int} {A2 : Option Addr} {n2 c2 g : Nat} {ss : List Int} (h : Raw w p V1 (.slice A2 n2 c2) U T N L G r dl sq tall 2 (g : Int) wy) (hr : Word r) (hR : Row w w.heap.size A2 (flat (encZ .u64) ss)) (hn : n2 = ss.length) (hg : g < n2) : Calls Tryz.prog 227 #[.pointer (some ⟨p, 0, none⟩)] w (Seek.Told w (some (3, nextI T L (idx r) g, wy, ss.getD g 0, r))) := by
  obtain ⟨b0, o0, rfl, hbl, hc0⟩ := int_at hR (show g < ss.length by omega)
  obtain ⟨x, hx⟩ : ∃ x, ss[g]? = some x := ⟨_, List.getElem?_eq_getElem (by omega)⟩
  have q0 := hc0 g x hx
  rw [show ss.getD g 0 = x by rw [List.getD_eq_getElem?_getD, hx]; rfl]
  obtain ⟨-, -, -, -, e4, -, -, -, -, e9, e10, e11, e12, -⟩ := h.cells
  have K10 := fun o => cell_later (box_below w o) e10
  have HK := Lib.hid (show ∀ W, Below w.heap.size w W → W.cell? ⟨p, 9, none⟩ = some (.slice (some ⟨b0, o0, none⟩) n2 c2) ∧ W.cell? ⟨p, 4, none⟩ = some (.int .u64 r) ∧ W.cell? ⟨p, 11, none⟩ = some (.int .i64 (g : Int)) ∧ W.cell? ⟨p, 12, none⟩ = some (.int .u64 wy) ∧ W.cell? ⟨b0, o0 + g, none⟩ = some (.int .u64 x) from fun W hb => ⟨cell_later hb e9, cell_later hb e4, cell_later hb e11, cell_later hb e12, cell_later hb q0⟩)
  have HW := Lib.hid (show ∀ W, Below w.heap.size w W → Calls Tryz.prog 230 #[.pointer (some ⟨p, 0, none⟩), .int .u64 r] W fun e w' => e = .returned (.int .i64 (nextI T L (idx r) g)) ∧ Below W.heap.size W w' from fun W hb => wayOn_any (h.later hb) hr)
  have HS := Lib.hid (show Below w.heap.size w (w.alloc (.cells #[.int .i64 0, .int .i64 0, .int .u64 0, .int .u64 0, .int .u64 0] 63)).drew from (box_below w _).drew)
  have hgn : (g : Int) < (n2 : Int) := by omega
  generalize nextI T L (idx r) g = i at HW ⊢
  clear h hR hx hc0 hr e4 e9 e10 e11 e12 q0 hn
  go_enter Tryz.func227, Tryz.ntmps227
  go_wp2
  go_region_held3 (fun W => W.cell? ⟨p, 9, none⟩ = some (.slice (some ⟨b0, o0, none⟩) n2 c2) ∧ W.cell? ⟨p, 4, none⟩ = some (.int .u64 r) ∧ W.cell? ⟨p, 11, none⟩ = some (.int .i64 (g : Int)) ∧ W.cell? ⟨p, 12, none⟩ = some (.int .u64 wy) ∧ W.cell? ⟨b0, o0 + g, none⟩ = some (.int .u64 x))
    ((first | (with_reducible exact HK.out _ HS.out) | (with_reducible assumption) | (with_reducible exact HK.out _ HP2.out) | (with_reducible exact HK.out _ (set5 HB2.out _ _ _ _ _).2)))
    ((go_at_call 230; refine (HW.out _ HS.out).mono ?_; rintro e w2 ⟨rfl, hb⟩; have HB2 := Lib.hid (show Below (w.alloc (.cells #[.int .i64 0, .int .i64 0, .int .u64 0, .int .u64 0, .int .u64 0] 63)).heap.size (w.alloc (.cells #[.int .i64 0, .int .i64 0, .int .u64 0, .int .u64 0, .int .u64 0] 63)) w2 from (Below.refl _ _).drew.trans hb); have HP2 := Lib.hid ((box_below w (.cells #[.int .i64 0, .int .i64 0, .int .u64 0, .int .u64 0, .int .u64 0] 63)).trans (HB2.out.mono (by simp))); obtain ⟨⟨r0, r1, r2, r3, r4⟩, g0, g1, g2, g3, g4⟩ := res5 HB2.out; clear hb))
  obtain ⟨⟨s0, s1, s2, s3, s4⟩, hB⟩ := set5 HB2.out (.int .i64 3) (.int .i64 i) (.int .u64 wy) (.int .u64 x) (.int .u64 r)
  have HB := Lib.hid hB
  clear hB r0 r1 r2 r3 r4 g0 g1 g2 g3 g4
  go_wp2
  exact bodyPost_ret (v := .tuple #[.agg #[.int .i64 3, .int .i64 i, .int .u64 wy, .int .u64 x, .int .u64 r], .bool true]) (by simp [results, Tryz.results227, go_sem, s0, s1, s2, s3, s4]) rfl ⟨rfl, HB.out⟩
theorem ask_3 {w : World} {p : Nat} {V1 V2 U : Value} {T N L G r dl sq tall lv wy : Int} {A1 A2 : Option Addr} {n1 c1 n2 c2 g : Nat} {ps ss : List Int} (h : Raw w p (.slice A1 n1 c1) (.slice A2 n2 c2) U T N L G r dl sq tall 3 (g : Int) wy) (hp : ∀ x ∈ ps, Word x) (hQ : Row w w.heap.size A1 (flat (encZ .u64) ps)) (hR : Row w w.heap.size A2 (flat (encZ .u64) ss)) (hm : n1 = ps.length) (hn : n2 = ss.length) (h1 : g < n1) (h2 : g < n2) :
    Calls Tryz.prog 227 #[.pointer (some ⟨p, 0, none⟩)] w (Seek.Told w (some (3, nextI T L (idx (ps.getD g 0)) g, ss.getD g 0, r, ps.getD g 0))) := by
  obtain ⟨b0, o0, rfl, hbl, hc0⟩ := int_at hR (show g < ss.length by omega)
  obtain ⟨x, hx⟩ : ∃ x, ss[g]? = some x := ⟨_, List.getElem?_eq_getElem (by omega)⟩
  obtain ⟨b1, o1, rfl, hbl1, hc1⟩ := int_at hQ (show g < ps.length by omega)
  obtain ⟨y, hy⟩ : ∃ y, ps[g]? = some y := ⟨_, List.getElem?_eq_getElem (by omega)⟩
  have q0 := hc0 g x hx
  have q1 := hc1 g y hy
  have hyw := hp y (List.mem_of_getElem? hy)
  rw [show ss.getD g 0 = x by rw [List.getD_eq_getElem?_getD, hx]; rfl, show ps.getD g 0 = y by rw [List.getD_eq_getElem?_getD, hy]; rfl]
  obtain ⟨-, -, -, -, e4, -, -, -, e8, e9, e10, e11, -, -⟩ := h.cells
  have K10 := fun o => cell_later (box_below w o) e10
  have K8 := fun p : After (w.alloc (.cells #[.int .i64 0, .int .i64 0, .int .u64 0, .int .u64 0, .int .u64 0] 63)) => p.cell (cell_later (box_below w _) e8)
  have K11 := fun p : After (w.alloc (.cells #[.int .i64 0, .int .i64 0, .int .u64 0, .int .u64 0, .int .u64 0] 63)) => p.cell (cell_later (box_below w _) e11)
  have Q1 := fun p : After (w.alloc (.cells #[.int .i64 0, .int .i64 0, .int .u64 0, .int .u64 0, .int .u64 0] 63)) => p.cell (cell_later (box_below w _) q1)
  have HK := Lib.hid (show ∀ W, Below w.heap.size w W → W.cell? ⟨p, 9, none⟩ = some (.slice (some ⟨b0, o0, none⟩) n2 c2) ∧ W.cell? ⟨p, 4, none⟩ = some (.int .u64 r) ∧ W.cell? ⟨p, 11, none⟩ = some (.int .i64 (g : Int)) ∧ W.cell? ⟨b0, o0 + g, none⟩ = some (.int .u64 x) from fun W hb => ⟨cell_later hb e9, cell_later hb e4, cell_later hb e11, cell_later hb q0⟩)
  have HW := Lib.hid (show ∀ W, Below w.heap.size w W → Calls Tryz.prog 230 #[.pointer (some ⟨p, 0, none⟩), .int .u64 y] W fun e w' => e = .returned (.int .i64 (nextI T L (idx y) g)) ∧ Below W.heap.size W w' from fun W hb => wayOn_any (h.later hb) hyw)
  have hgn : (g : Int) < (n2 : Int) := by omega
  have hgm : (g : Int) < (n1 : Int) := by omega
  generalize nextI T L (idx y) g = i at HW ⊢
  clear h hR hQ hx hy hc0 hc1 hp hyw e4 e8 e9 e10 e11 q0 q1 hn hm
  go_enter Tryz.func227, Tryz.ntmps227
  go_wp2
  refine wp_region_after mixed (by kernel_rfl) ?_
  repeat (first | go_big_quiet_step (fail) | quiet_step (fail))
  refine wpQuiet_nil ?_
  intro _ hw'
  obtain ⟨pq, hw''⟩ := hw'
  subst hw''
  have HQ := Lib.hid (show Below (w.alloc (.cells #[.int .i64 0, .int .i64 0, .int .u64 0, .int .u64 0, .int .u64 0] 63)).heap.size (w.alloc (.cells #[.int .i64 0, .int .i64 0, .int .u64 0, .int .u64 0, .int .u64 0] 63)) pq.x.drew from pq.ok.drew)
  generalize pq.x = wq at HQ ⊢
  have HS := Lib.hid (show Below w.heap.size w wq.drew from (box_below w (.cells #[.int .i64 0, .int .i64 0, .int .u64 0, .int .u64 0, .int .u64 0] 63)).trans (HQ.out.mono (by simp)))
  clear K8 K11 Q1
  go_wp2
  go_region_held3 (fun W => W.cell? ⟨p, 9, none⟩ = some (.slice (some ⟨b0, o0, none⟩) n2 c2) ∧ W.cell? ⟨p, 4, none⟩ = some (.int .u64 r) ∧ W.cell? ⟨p, 11, none⟩ = some (.int .i64 (g : Int)) ∧ W.cell? ⟨b0, o0 + g, none⟩ = some (.int .u64 x))
    ((first | (with_reducible exact HK.out _ HS.out) | (with_reducible assumption) | (with_reducible exact HK.out _ HP2.out) | (with_reducible exact HK.out _ (set5 HB2.out _ _ _ _ _).2)))
    ((go_at_call 230; refine (HW.out _ HS.out).mono ?_; rintro e w2 ⟨rfl, hb⟩; have HB2 := Lib.hid (show Below (w.alloc (.cells #[.int .i64 0, .int .i64 0, .int .u64 0, .int .u64 0, .int .u64 0] 63)).heap.size (w.alloc (.cells #[.int .i64 0, .int .i64 0, .int .u64 0, .int .u64 0, .int .u64 0] 63)) w2 from HQ.out.trans (hb.mono HQ.out.size)); have HP2 := Lib.hid ((box_below w (.cells #[.int .i64 0, .int .i64 0, .int .u64 0, .int .u64 0, .int .u64 0] 63)).trans (HB2.out.mono (by simp))); obtain ⟨⟨r0, r1, r2, r3, r4⟩, g0, g1, g2, g3, g4⟩ := res5 HB2.out; clear hb))
  obtain ⟨⟨s0, s1, s2, s3, s4⟩, hB⟩ := set5 HB2.out (.int .i64 3) (.int .i64 i) (.int .u64 x) (.int .u64 r) (.int .u64 y)
  have HB := Lib.hid hB
  clear hB r0 r1 r2 r3 r4 g0 g1 g2 g3 g4
  go_wp2
  exact bodyPost_ret (v := .tuple #[.agg #[.int .i64 3, .int .i64 i, .int .u64 x, .int .u64 r, .int .u64 y], .bool true]) (by simp [results, Tryz.results227, go_sem, s0, s1, s2, s3, s4]) rfl ⟨rfl, HB.out⟩
theorem ask_any {w : World} {p : Nat} {U : Value} {T N L G r dl sq tall lv wy st : Int} {A1 A2 : Option Addr} {c1 c2 k : Nat} {ps ss : List Int} (ho : LfM.Ok L tall k ⟨st, lv, wy, none, ps, ss⟩) (hr : Word r) (h : Raw w p (.slice A1 ps.length c1) (.slice A2 ss.length c2) U T N L G r dl sq tall st lv wy) (hQ : Row w w.heap.size A1 (flat (encZ .u64) ps)) (hR : Row w w.heap.size A2 (flat (encZ .u64) ss)) : Calls Tryz.prog 227 #[.pointer (some ⟨p, 0, none⟩)] w (Seek.Told w (askL T L r st lv wy ps ss)) := by
  have h0 := ho.st
  have h1 := ho.lv.1
  have h2 := ho.amid
  simp only at h0 h1 h2
  obtain ⟨g, rfl⟩ := Int.eq_ofNat_of_zero_le h1
  rcases h0 with e | e | e | e
  · rw [e] at h ⊢
    exact ask_0 h
  · rw [e] at h ⊢
    exact ask_1 h hr
  · rw [e] at h h2 ⊢
    have h2 := h2 (by decide)
    show Calls Tryz.prog 227 #[.pointer (some ⟨p, 0, none⟩)] w (Seek.Told w (some (3, nextI T L (idx r) g, wy, ss.getD g 0, r)))
    exact ask_2 (V2 := .bool false) (lv := 0) h hr hR rfl (by omega)
  · rw [e] at h h2 ⊢
    have h2 := h2 (by decide)
    show Calls Tryz.prog 227 #[.pointer (some ⟨p, 0, none⟩)] w (Seek.Told w (some (3, nextI T L (idx (ps.getD g 0)) g, ss.getD g 0, r, ps.getD g 0)))
    exact ask_3 (V1 := .bool false) (V2 := .bool false) (lv := 0) h ho.ps hQ hR rfl rfl (by omega) (by omega)
theorem next_none {w : World} {p : Nat} {T N L G r dl sq tall lv wy st : Int} {A1 A2 : Option Addr} {c1 c2 k : Nat} {ps ss : List Int} (ho : LfM.Ok L tall k ⟨st, lv, wy, none, ps, ss⟩) (hr : Word r) (h : Raw w p (.slice A1 ps.length c1) (.slice A2 ss.length c2) .nilIface T N L G r dl sq tall st lv wy) (hQ : Row w w.heap.size A1 (flat (encZ .u64) ps)) (hR : Row w w.heap.size A2 (flat (encZ .u64) ss)) : Calls Tryz.prog 225 #[.pointer (some ⟨p, 0, none⟩)] w (Seek.Told w (askL T L r st lv wy ps ss)) := by
  have h1 := h.later (box_below w (.cells #[.int .i64 0, .int .i64 0, .int .u64 0, .int .u64 0, .int .u64 0] 63))
  obtain ⟨-, -, -, -, -, -, -, -, -, -, -, -, -, e13⟩ := h1.cells
  have HN := Lib.hid (ask_any ho hr h1 (hQ.later (box_below w (.cells #[.int .i64 0, .int .i64 0, .int .u64 0, .int .u64 0, .int .u64 0] 63))) (hR.later (box_below w (.cells #[.int .i64 0, .int .i64 0, .int .u64 0, .int .u64 0, .int .u64 0] 63))))
  unfold Seek.Told at HN ⊢
  generalize (askL T L r st lv wy ps ss).isSome = bo at HN ⊢
  generalize (askL T L r st lv wy ps ss).getD (0, 0, 0, 0, 0) = d at HN ⊢
  clear h h1 hQ hR ho
  go_enter Tryz.func225, Tryz.ntmps225
  go_wp2_with fail
  refine HN.out.mono ?_
  rintro e w1 ⟨rfl, hb⟩
  obtain ⟨⟨r0, r1, r2, r3, r4⟩, g0, g1, g2, g3, g4⟩ := res5 hb
  obtain ⟨⟨s0, s1, s2, s3, s4⟩, hB⟩ := set5 hb (.int .i64 d.1) (.int .i64 d.2.1) (.int .u64 d.2.2.1) (.int .u64 d.2.2.2.1) (.int .u64 d.2.2.2.2)
  have HB := Lib.hid hB
  clear hB hb
  go_wp2
  exact bodyPost_ret (v := .tuple #[.agg #[.int .i64 d.1, .int .i64 d.2.1, .int .u64 d.2.2.1, .int .u64 d.2.2.2.1, .int .u64 d.2.2.2.2], .bool bo]) (by simp [results, Tryz.results225, go_sem, s0, s1, s2, s3, s4]) rfl ⟨rfl, HB.out⟩
theorem next_some {w : World} {p : Nat} {V1 V2 : Value} {T N L G r dl sq tall lv wy : Int} {q k : Nat} {st : Int} {Q : Nat → Prop} {sk : KM.St} (h : Raw w p V1 V2 (seekV q) T N L G r dl sq tall st lv wy) (hs : Seeks w q Q T N L G dl sq k sk) : Calls Tryz.prog 225 #[.pointer (some ⟨p, 0, none⟩)] w (Seek.Told w (seekA T L sk)) := by
  have h1 := h.later (box_below w (.cells #[.int .i64 0, .int .i64 0, .int .u64 0, .int .u64 0, .int .u64 0] 63))
  obtain ⟨-, -, -, -, -, -, -, -, -, -, -, -, -, e13⟩ := h1.cells
  have HN := Lib.hid (Next_any (seeks_only hs (only_below (fun _ => False) (box_below w (.cells #[.int .i64 0, .int .i64 0, .int .u64 0, .int .u64 0, .int .u64 0] 63))) (fun _ _ => id)))
  unfold Seek.Told at HN ⊢
  generalize (seekA T L sk).isSome = bo at HN ⊢
  generalize (seekA T L sk).getD (0, 0, 0, 0, 0) = d at HN ⊢
  have hh := seek_held q
  have hm := method_next q
  clear h h1 hs
  go_enter Tryz.func225, Tryz.ntmps225
  go_wp2_with fail
  refine HN.out.mono ?_
  rintro e w1 ⟨rfl, hb⟩
  obtain ⟨⟨r0, r1, r2, r3, r4⟩, g0, g1, g2, g3, g4⟩ := res5 hb
  obtain ⟨⟨s0, s1, s2, s3, s4⟩, hB⟩ := set5 hb (.int .i64 d.1) (.int .i64 d.2.1) (.int .u64 d.2.2.1) (.int .u64 d.2.2.2.1) (.int .u64 d.2.2.2.2)
  have HB := Lib.hid hB
  clear hB hb
  go_wp2
  exact bodyPost_ret (v := .tuple #[.agg #[.int .i64 d.1, .int .i64 d.2.1, .int .u64 d.2.2.1, .int .u64 d.2.2.2.1, .int .u64 d.2.2.2.2], .bool bo]) (by simp [results, Tryz.results225, go_sem, s0, s1, s2, s3, s4]) rfl ⟨rfl, HB.out⟩
theorem Lift_next {w : World} {p k : Nat} {S : Nat → Prop} {T N L G r dl sq tall : Int} {s : LfM.St} (h : Lifts w p S T N L G r dl sq tall k s) : Calls Tryz.prog 225 #[.pointer (some ⟨p, 0, none⟩)] w (Seek.Told w (liftA T L r s)) := by
  obtain ⟨ho, ⟨-, -, hr⟩, -, -, A1, c1, A2, c2, k1, k2, -, -, k5⟩ := h
  obtain ⟨st, lv, wy, un, ps, ss⟩ := s
  rcases k5 with ⟨e, k5⟩ | ⟨q, sk, Q, e, k5, k6, -⟩
  · obtain rfl : un = none := e
    exact next_none ho hr k5 k1 k2
  · obtain rfl : un = some sk := e
    exact next_some k5 k6
end Go.Proofs.YtlagghghbpbcbaaGreatDoor.Lift

/- A lifter (package lift, layer 21): what it becomes when it is told a word; a new one. -/
namespace Go.Proofs.YtlagghghbpbcbaaGreatDoor.Lift
set_option maxRecDepth 20000
open Go.ChangeShapes Go.WideShapes Go.RowKit CM DM PM KM LfM Lay Ints Plan Go.Proofs.YtlagghghbpbcbaaGreatDoor.Task
open Go.Proofs.YtlagghghbpbcbaaGreatDoor.Seek (Seeks Seek_any Next_any Tell_any Preds_any Succs_any only_set)
set_option linter.unusedVariables false
set_option linter.unusedSimpArgs false

theorem turn_mark {w : World} {p : Nat} {V1 V2 U : Value} {T N L G r dl sq tall lv wy f : Int} {st : Int} (h : Raw w p V1 V2 U T N L G r dl sq tall st lv wy) (hf : Word f) (hm : f % 2 = 1) : Calls Tryz.prog 231 #[.pointer (some ⟨p, 0, none⟩), .int .u64 f] w fun e w' => e = .returned (.tuple #[]) ∧ Raw w' p V1 V2 U T N L G r dl sq tall 0 lv f ∧ Only (fun k => k = p) w w' := by
  obtain ⟨-, -, -, -, -, -, -, -, -, -, e10, -, e12, -⟩ := h.cells
  have f12 := h.thawed 12
  have f10 := (h.set_wy f).thawed 10
  have HE := Lib.hid (And.intro ((h.set_wy f).set_st 0) ((only_set w p 12 (.int .u64 f)).trans (only_set _ p 10 (.int .i64 0))))
  have HMK := Lib.hid (show ∀ W : World, Calls Tryz.prog 207 #[.int .u64 f] W fun e w' => e = .returned (.bool (decide (f % 2 = 1))) ∧ W = w' from fun W => Refer.Marked_any f hf.1 hf.2 W)
  rw [decide_eq_true hm] at HMK
  clear h hf hm
  go_enter Tryz.func231, Tryz.ntmps231
  go_wp2_with fail
  refine (HMK.out _).mono ?_
  rintro e w' ⟨rfl, rfl⟩
  go_wp2
  exact bodyPost_end (results_none rfl _ _ _) rfl ⟨rfl, HE.out⟩
theorem turn_same {w : World} {p : Nat} {V1 V2 U : Value} {T N L G r dl sq tall lv wy f : Int} {st : Int} {A2 : Option Addr} {n2 c2 g : Nat} {ss : List Int} (h : Raw w p V1 (.slice A2 n2 c2) U T N L G r dl sq tall st (g : Int) wy) (hf : Word f) (hm : ¬ f % 2 = 1) (hR : Row w w.heap.size A2 (flat (encZ .u64) ss)) (hn : n2 = ss.length) (hg : g < n2) (hA : ∀ a, A2 = some a → flat (encZ .u64) ss ≠ [] → a.block ≠ p) (he : f = ss.getD g 0) : Calls Tryz.prog 231 #[.pointer (some ⟨p, 0, none⟩), .int .u64 f] w fun e w' => e = .returned (.tuple #[]) ∧ Raw w' p V1 (.slice A2 n2 c2) U T N L G r dl sq tall 3 (g : Int) f ∧ Only (fun k => k = p) w w' := by
  have hR1 := (only_set w p 12 (.int .u64 f)).row hR (fun hn a e q => hA a e hn q)
  have h1 := h.set_wy f
  have HO := Lib.hid (only_set w p 12 (.int .u64 f))
  obtain ⟨-, -, -, -, -, -, -, -, -, -, -, -, e12, -⟩ := h.cells
  have f12 := h.thawed 12
  have HMK := Lib.hid (show ∀ W : World, Calls Tryz.prog 207 #[.int .u64 f] W fun e w' => e = .returned (.bool (decide (f % 2 = 1))) ∧ W = w' from fun W => Refer.Marked_any f hf.1 hf.2 W)
  rw [decide_eq_false hm] at HMK
  have H1 := Lib.hid (And.intro h1 hR1)
  obtain ⟨x, hx⟩ : ∃ x, ss[g]? = some x := ⟨_, List.getElem?_eq_getElem (by omega)⟩
  rw [show ss.getD g 0 = x by rw [List.getD_eq_getElem?_getD, hx]; rfl] at he
  have HX := Lib.hid hx
  have hq : (f == x) = true := by simpa using he
  have hgl : g < ss.length := by omega
  have hgn : (g : Int) < (n2 : Int) := by omega
  clear h hf hm h1 hR1 hR he hx hA hn
  go_enter Tryz.func231, Tryz.ntmps231
  go_wp2_with fail
  refine (HMK.out _).mono ?_
  rintro e w' ⟨rfl, rfl⟩
  obtain ⟨w1, hw1⟩ : ∃ w1, w1 = w.setCell ⟨p, 12, none⟩ (.int .u64 f) := ⟨_, rfl⟩
  rw [← hw1] at H1 HO ⊢
  clear hw1 f12 e12
  obtain ⟨b0, o0, ha, hbl, hc0⟩ := int_at H1.out.2 hgl
  subst ha
  have q0 := hc0 g x HX.out
  obtain ⟨-, -, -, -, -, -, -, -, -, e9, -, e11, -, -⟩ := H1.out.1.cells
  have K9 := fun p : After w1 => p.cell e9
  have K11 := fun p : After w1 => p.cell e11
  have Q0 := fun p : After w1 => p.cell q0
  clear hc0 e9 e11 q0 hgl
  go_wp2
  refine wp_region_after mixed (by kernel_rfl) ?_
  repeat (first | go_big_quiet_step (fail) | quiet_step (fail))
  refine wpQuiet_nil ?_
  intro _ hw'
  obtain ⟨pq, hw''⟩ := hw'
  subst hw''
  have HQ := Lib.hid pq.ok
  generalize pq.x = wq at HQ ⊢
  have h2 := H1.out.1.later HQ.out
  obtain ⟨-, -, -, -, -, -, -, -, -, -, e10, -⟩ := h2.cells
  have f10 := h2.thawed 10
  have HE := Lib.hid (And.intro (h2.set_st 3) ((HO.out.then_below HQ.out).trans (only_set wq p 10 (.int .i64 3))))
  clear h2 K9 K11 Q0
  go_wp2
  exact bodyPost_end (results_none rfl _ _ _) rfl ⟨rfl, HE.out⟩
theorem turn_other {w : World} {p : Nat} {V1 V2 U : Value} {T N L G r dl sq tall lv wy f : Int} {st : Int} {A2 : Option Addr} {n2 c2 g : Nat} {ss : List Int} (h : Raw w p V1 (.slice A2 n2 c2) U T N L G r dl sq tall st (g : Int) wy) (hf : Word f) (hm : ¬ f % 2 = 1) (hR : Row w w.heap.size A2 (flat (encZ .u64) ss)) (hn : n2 = ss.length) (hg : g < n2) (hA : ∀ a, A2 = some a → flat (encZ .u64) ss ≠ [] → a.block ≠ p) (he : ¬ f = ss.getD g 0) : Calls Tryz.prog 231 #[.pointer (some ⟨p, 0, none⟩), .int .u64 f] w fun e w' => e = .returned (.tuple #[]) ∧ Raw w' p V1 (.slice A2 n2 c2) U T N L G r dl sq tall 2 (g : Int) f ∧ Only (fun k => k = p) w w' := by
  have hR1 := (only_set w p 12 (.int .u64 f)).row hR (fun hn a e q => hA a e hn q)
  have h1 := h.set_wy f
  have HO := Lib.hid (only_set w p 12 (.int .u64 f))
  obtain ⟨-, -, -, -, -, -, -, -, -, -, -, -, e12, -⟩ := h.cells
  have f12 := h.thawed 12
  have HMK := Lib.hid (show ∀ W : World, Calls Tryz.prog 207 #[.int .u64 f] W fun e w' => e = .returned (.bool (decide (f % 2 = 1))) ∧ W = w' from fun W => Refer.Marked_any f hf.1 hf.2 W)
  rw [decide_eq_false hm] at HMK
  have H1 := Lib.hid (And.intro h1 hR1)
  obtain ⟨x, hx⟩ : ∃ x, ss[g]? = some x := ⟨_, List.getElem?_eq_getElem (by omega)⟩
  rw [show ss.getD g 0 = x by rw [List.getD_eq_getElem?_getD, hx]; rfl] at he
  have HX := Lib.hid hx
  have hq : (f == x) = false := by simpa using he
  have hgl : g < ss.length := by omega
  have hgn : (g : Int) < (n2 : Int) := by omega
  clear h hf hm h1 hR1 hR he hx hA hn
  go_enter Tryz.func231, Tryz.ntmps231
  go_wp2_with fail
  refine (HMK.out _).mono ?_
  rintro e w' ⟨rfl, rfl⟩
  obtain ⟨w1, hw1⟩ : ∃ w1, w1 = w.setCell ⟨p, 12, none⟩ (.int .u64 f) := ⟨_, rfl⟩
  rw [← hw1] at H1 HO ⊢
  clear hw1 f12 e12
  obtain ⟨b0, o0, ha, hbl, hc0⟩ := int_at H1.out.2 hgl
  subst ha
  have q0 := hc0 g x HX.out
  obtain ⟨-, -, -, -, -, -, -, -, -, e9, -, e11, -, -⟩ := H1.out.1.cells
  have K9 := fun p : After w1 => p.cell e9
  have K11 := fun p : After w1 => p.cell e11
  have Q0 := fun p : After w1 => p.cell q0
  clear hc0 e9 e11 q0 hgl
  go_wp2
  refine wp_region_after mixed (by kernel_rfl) ?_
  repeat (first | go_big_quiet_step (fail) | quiet_step (fail))
  refine wpQuiet_nil ?_
  intro _ hw'
  obtain ⟨pq, hw''⟩ := hw'
  subst hw''
  have HQ := Lib.hid pq.ok
  generalize pq.x = wq at HQ ⊢
  have h2 := H1.out.1.later HQ.out
  obtain ⟨-, -, -, -, -, -, -, -, -, -, e10, -⟩ := h2.cells
  have f10 := h2.thawed 10
  have HE := Lib.hid (And.intro (h2.set_st 2) ((HO.out.then_below HQ.out).trans (only_set wq p 10 (.int .i64 2))))
  clear h2 K9 K11 Q0
  go_wp2
  exact bodyPost_end (results_none rfl _ _ _) rfl ⟨rfl, HE.out⟩
theorem turn_any {w : World} {p : Nat} {V1 V2 U : Value} {T N L G r dl sq tall lv wy f : Int} {st : Int} {A2 : Option Addr} {n2 c2 g : Nat} {ss : List Int} (h : Raw w p V1 (.slice A2 n2 c2) U T N L G r dl sq tall st (g : Int) wy) (hf : Word f) (hR : Row w w.heap.size A2 (flat (encZ .u64) ss)) (hn : n2 = ss.length) (hg : g < n2) (hA : ∀ a, A2 = some a → flat (encZ .u64) ss ≠ [] → a.block ≠ p) :
    Calls Tryz.prog 231 #[.pointer (some ⟨p, 0, none⟩), .int .u64 f] w fun e w' => e = .returned (.tuple #[]) ∧ Raw w' p V1 (.slice A2 n2 c2) U T N L G r dl sq tall (if f % 2 = 1 then 0 else if f = ss.getD g 0 then 3 else 2) (g : Int) f ∧ Only (fun k => k = p) w w' := by
  by_cases hm : f % 2 = 1
  · rw [if_pos hm]
    exact turn_mark h hf hm
  · rw [if_neg hm]
    by_cases he : f = ss.getD g 0
    · rw [if_pos he]
      exact turn_same (V2 := .bool false) (lv := 0) h hf hm hR hn hg hA he
    · rw [if_neg he]
      exact turn_other (V2 := .bool false) (lv := 0) h hf hm hR hn hg hA he
theorem goOn_0 {w : World} {p : Nat} {V1 V2 U : Value} {T N L G r dl sq tall lv wy f : Int} (h : Raw w p V1 V2 U T N L G r dl sq tall 0 lv wy) : Calls Tryz.prog 229 #[.pointer (some ⟨p, 0, none⟩), .int .u64 f] w fun e w' => e = .returned (.tuple #[]) ∧ w = w' := by
  obtain ⟨-, -, -, -, -, -, -, -, -, -, e10, -⟩ := h.cells
  clear h
  go_enter Tryz.func229, Tryz.ntmps229
  go_wp2
  exact bodyPost_end (results_none rfl _ _ _) rfl ⟨rfl, rfl⟩
theorem goOn_1 {w : World} {p : Nat} {V1 V2 U : Value} {T N L G r dl sq tall lv wy f : Int} {A2 : Option Addr} {n2 c2 g : Nat} {ss : List Int} (h : Raw w p V1 (.slice A2 n2 c2) U T N L G r dl sq tall 1 (g : Int) wy) (hf : Word f) (hR : Row w w.heap.size A2 (flat (encZ .u64) ss)) (hn : n2 = ss.length) (hg : g < n2) (hA : ∀ a, A2 = some a → flat (encZ .u64) ss ≠ [] → a.block ≠ p) :
    Calls Tryz.prog 229 #[.pointer (some ⟨p, 0, none⟩), .int .u64 f] w fun e w' => e = .returned (.tuple #[]) ∧ Raw w' p V1 (.slice A2 n2 c2) U T N L G r dl sq tall (if f % 2 = 1 then 0 else if f = ss.getD g 0 then 3 else 2) (g : Int) f ∧ Only (fun k => k = p) w w' := by
  obtain ⟨-, -, -, -, -, -, -, -, -, -, e10, -⟩ := h.cells
  have HT := Lib.hid (turn_any (V2 := .bool false) (lv := 0) h hf hR hn hg hA)
  generalize (if f % 2 = 1 then (0 : Int) else if f = ss.getD g 0 then 3 else 2) = u at HT ⊢
  clear h hR hn hA hf
  go_enter Tryz.func229, Tryz.ntmps229
  go_wp2_with fail
  refine HT.out.mono ?_
  rintro e w1 ⟨rfl, h1⟩
  have HE := Lib.hid h1
  clear h1
  go_wp2
  exact bodyPost_end (results_none rfl _ _ _) rfl ⟨rfl, HE.out⟩
theorem goOn_2 {w : World} {p : Nat} {V1 V2 U : Value} {T N L G r dl sq tall lv wy f : Int} (h : Raw w p V1 V2 U T N L G r dl sq tall 2 lv wy) : Calls Tryz.prog 229 #[.pointer (some ⟨p, 0, none⟩), .int .u64 f] w fun e w' => e = .returned (.tuple #[]) ∧ Raw w' p V1 V2 U T N L G r dl sq tall (if f = wy then 3 else 0) lv wy ∧ Only (fun k => k = p) w w' := by
  obtain ⟨-, -, -, -, -, -, -, -, -, -, e10, -, e12, -⟩ := h.cells
  have f10 := h.thawed 10
  have g10 := (h.set_st 3).thawed 10
  by_cases hf : f = wy
  · rw [if_pos hf]
    have hq : (f != wy) = false := by simpa using hf
    have HE := Lib.hid (And.intro (h.set_st 3) (only_set w p 10 (.int .i64 3)))
    clear h hf
    go_enter Tryz.func229, Tryz.ntmps229
    go_wp2
    exact bodyPost_end (results_none rfl _ _ _) rfl ⟨rfl, HE.out⟩
  · rw [if_neg hf]
    have hq : (f != wy) = true := by simpa using hf
    have HE := Lib.hid (And.intro ((h.set_st 3).set_st 0) ((only_set w p 10 (.int .i64 3)).trans (only_set _ p 10 (.int .i64 0))))
    clear h hf
    go_enter Tryz.func229, Tryz.ntmps229
    go_wp2
    exact bodyPost_end (results_none rfl _ _ _) rfl ⟨rfl, HE.out⟩
theorem goOn_3 {w : World} {p : Nat} {V1 V2 U : Value} {T N L G r dl sq tall lv wy f : Int} {A1 A2 : Option Addr} {n1 c1 n2 c2 g : Nat} {ss : List Int} (h : Raw w p (.slice A1 n1 c1) (.slice A2 n2 c2) U T N L G r dl sq tall 3 (g : Int) wy) (hR : Row w w.heap.size A2 (flat (encZ .u64) ss)) (hn : n2 = ss.length) (hg : g < n2) (hgm : g < 9223372036854775807) (he : f = ss.getD g 0) :
    Calls Tryz.prog 229 #[.pointer (some ⟨p, 0, none⟩), .int .u64 f] w fun e w' => e = .returned (.tuple #[]) ∧ Raw w' p (.slice A1 n1 c1) (.slice A2 n2 c2) U T N L G r dl sq tall (if (g : Int) + 1 < min tall (min (n1 : Int) n2) then (1 : Int) else 0) ((g : Int) + 1) wy ∧ Only (fun k => k = p) w w' := by
  obtain ⟨b0, o0, rfl, hbl, hc0⟩ := int_at hR (show g < ss.length by omega)
  obtain ⟨x, hx⟩ : ∃ x, ss[g]? = some x := ⟨_, List.getElem?_eq_getElem (by omega)⟩
  have q0 := hc0 g x hx
  rw [show ss.getD g 0 = x by rw [List.getD_eq_getElem?_getD, hx]; rfl] at he
  obtain ⟨-, -, -, -, -, -, -, -, -, e9, e10, e11, -, -⟩ := h.cells
  have K9 := fun p : After w => p.cell e9
  have K11 := fun p : After w => p.cell e11
  have Q0 := fun p : After w => p.cell q0
  have HX := Lib.hid h
  have hgn : (g : Int) < (n2 : Int) := by omega
  have hq : (f != x) = false := by simpa using he
  have hw : IntKind.i64.wrap ((g : Int) + 1) = (g : Int) + 1 := IntWalk.i64_in _ ⟨by omega, by omega⟩
  have HGA := Lib.hid (show ∀ W, Below w.heap.size w W → Calls Tryz.prog 157 #[.pointer (some ⟨p, 0, none⟩), .int .i64 ((g : Int) + 1)] W fun e w' => e = .returned (.tuple #[]) ∧ Raw w' p (.slice A1 n1 c1) (.slice (some ⟨b0, o0, none⟩) n2 c2) U T N L G r dl sq tall (if (g : Int) + 1 < min tall (min (n1 : Int) n2) then (1 : Int) else 0) ((g : Int) + 1) wy ∧ Only (fun k => k = p) W w' from fun W hb => reach_any (h.later hb) ((g : Int) + 1))
  generalize (if (g : Int) + 1 < min tall (min (n1 : Int) n2) then (1 : Int) else 0) = u at HGA ⊢
  clear h hR hx hc0 hn e9 q0 he
  go_enter Tryz.func229, Tryz.ntmps229
  go_wp2
  refine wp_region_after mixed (by kernel_rfl) ?_
  repeat (first | go_big_quiet_step (fail) | quiet_step (fail))
  refine wpQuiet_nil ?_
  intro _ hw'
  obtain ⟨pq, hw''⟩ := hw'
  subst hw''
  have HQ := Lib.hid pq.ok
  have k11 := K11 pq
  generalize pq.x = wq at HQ k11 ⊢
  have HG := Lib.hid (HGA.out _ HQ.out)
  clear K9 K11 Q0 e11 e10
  go_wp2_with fail
  refine HG.out.mono ?_
  rintro e w1 ⟨rfl, h1, h2⟩
  have HE := Lib.hid (And.intro h1 ((only_below _ HQ.out).trans h2))
  clear h1 h2
  go_wp2
  exact bodyPost_end (results_none rfl _ _ _) rfl ⟨rfl, HE.out⟩
theorem begun {w : World} {p : Nat} {V1 V2 U : Value} {T N L G r dl sq tall lv wy f : Int} {w1 wq : World} {q : Nat} {st : Int} {S1 : Nat → Prop} (h : Raw w p V1 V2 U T N L G r dl sq tall st lv wy) (hq : Below w.heap.size w wq) (hs : Seeks w1 q S1 T N L G dl sq 0 (anew L 0 0)) (hk : ∀ k, S1 k → wq.heap.size ≤ k ∧ k < w1.heap.size) (hb : Below wq.heap.size wq w1) :
    ∃ q' S, Raw (w1.setCell ⟨p, 13, none⟩ (seekV q)) p V1 V2 (seekV q') T N L G r dl sq tall st lv wy ∧ Seeks (w1.setCell ⟨p, 13, none⟩ (seekV q)) q' S T N L G dl sq 0 (anew L 0 0) ∧ (∀ k, S k → w.heap.size ≤ k ∧ k < (w1.setCell ⟨p, 13, none⟩ (seekV q)).heap.size) ∧ Only (fun k => k = p) w (w1.setCell ⟨p, 13, none⟩ (seekV q)) := by
  have hp := h.lt
  have hz := hq.size
  have hb2 : Below w.heap.size w w1 := hq.trans (hb.mono hz)
  have h1 := h.later hb2
  have ho : Only (fun k => k = p) w1 (w1.setCell ⟨p, 13, none⟩ (seekV q)) := only_set w1 p 13 (seekV q)
  exact ⟨q, S1, h1.set_u (seekV q), seeks_only hs ho (fun k z e => by have h2 := (hk k z).1; omega), fun k z => ⟨by have := (hk k z).1; omega, Nat.lt_of_lt_of_le (hk k z).2 ho.size⟩, (only_below _ hb2).trans ho⟩
theorem goOn_3n {w : World} {p : Nat} {V1 V2 U : Value} {T N L G r dl sq tall lv wy f : Int} {A2 : Option Addr} {n2 c2 g : Nat} {ss : List Int} (h : Raw w p V1 (.slice A2 n2 c2) U T N L G r dl sq tall 3 (g : Int) wy) (hL : L ≤ 9223372036854775807) (hR : Row w w.heap.size A2 (flat (encZ .u64) ss)) (hn : n2 = ss.length) (hg : g < n2) (he : ¬ f = ss.getD g 0) :
    Calls Tryz.prog 229 #[.pointer (some ⟨p, 0, none⟩), .int .u64 f] w fun e w' => e = .returned (.tuple #[]) ∧ ∃ q S, Raw w' p V1 (.slice A2 n2 c2) (seekV q) T N L G r dl sq tall 3 (g : Int) wy ∧ Seeks w' q S T N L G dl sq 0 (anew L 0 0) ∧ (∀ k, S k → w.heap.size ≤ k ∧ k < w'.heap.size) ∧ Only (fun k => k = p) w w' := by
  obtain ⟨b0, o0, rfl, hbl, hc0⟩ := int_at hR (show g < ss.length by omega)
  obtain ⟨x, hx⟩ : ∃ x, ss[g]? = some x := ⟨_, List.getElem?_eq_getElem (by omega)⟩
  have q0 := hc0 g x hx
  rw [show ss.getD g 0 = x by rw [List.getD_eq_getElem?_getD, hx]; rfl] at he
  obtain ⟨-, -, -, -, -, -, -, -, -, e9, e10, e11, -, -⟩ := h.cells
  have K9 := fun p : After w => p.cell e9
  have K11 := fun p : After w => p.cell e11
  have Q0 := fun p : After w => p.cell q0
  have HX := Lib.hid h
  have HS := Lib.hid fun W => Seek_any T N L G dl sq hL W
  have hgn : (g : Int) < (n2 : Int) := by omega
  have hq : (f != x) = true := by simpa using he
  clear h hR hx hc0 hn e9 q0 he hL
  go_enter Tryz.func229, Tryz.ntmps229
  go_wp2
  refine wp_region_after mixed (by kernel_rfl) ?_
  repeat (first | go_big_quiet_step (fail) | quiet_step (fail))
  refine wpQuiet_nil ?_
  intro _ hw'
  obtain ⟨pq, hw''⟩ := hw'
  subst hw''
  have HQ := Lib.hid pq.ok
  generalize pq.x = wq at HQ ⊢
  clear K9 K11 Q0 e11 e10
  have HQD := Lib.hid (show Below w.heap.size w wq.drew from HQ.out.drew)
  obtain ⟨e0, e1, e2, e3, -, e5, e6, -⟩ := (HX.out.later HQ.out).cells
  go_wp2
  go_region_with (go_at_call 144; refine (HS.out _).mono ?_; rintro e w1 ⟨q, S1, rfl, s1, k1, b1⟩; have h1 := HX.out.later (HQD.out.trans (b1.mono HQD.out.size)); obtain ⟨-, -, -, -, -, -, -, -, -, -, -, -, -, a13⟩ := h1.cells; have t13 := h1.thawed 13; have HE := Lib.hid (begun (f := 0) HX.out HQD.out s1 k1 b1); clear s1 k1 b1 h1)
  all_goals go_wp2
  all_goals refine bodyPost_ret (v := .tuple #[]) (results_none rfl _ _ _) rfl ?_
  all_goals exact ⟨rfl, HE.out⟩
/-- Where the seeker stands behind a word: amid its steps, or at its end, where all that it found is kept. -/
theorem keep_more {w : World} {p q k : Nat} {S : Nat → Prop} {T N L G dl sq : Int} {s : KM.St} (hs : Seeks w q S T N L G dl sq k s) (h0 : ¬ s.st = 0) : Calls Tryz.prog 228 #[.pointer (some ⟨p, 0, none⟩), .pointer (some ⟨q, 0, none⟩)] w fun e w' => e = .returned (.tuple #[]) ∧ Below w.heap.size w w' := by
  have HN := Lib.hid (Next_any hs)
  have hx : ∃ d, seekA T L s = some d := by
    cases e : seekA T L s with
    | none => exact absurd ((seekA_none hs.1).1 e) h0
    | some d => exact ⟨d, rfl⟩
  obtain ⟨d, hd⟩ := hx
  rw [hd] at HN
  clear hs h0 hd
  go_enter Tryz.func228, Tryz.ntmps228
  go_wp2_with fail
  refine HN.out.mono ?_
  rintro e w1 ⟨rfl, b1⟩
  simp only [Option.getD_some, Option.isSome_some]
  have HB := Lib.hid b1
  have HO := Lib.hid (box_below w1)
  clear b1
  go_wp2
  refine bodyPost_ret (v := .tuple #[]) (results_none rfl _ _ _) rfl ?_
  exact ⟨rfl, HB.out.trans ((HO.out _).mono HB.out.size)⟩
theorem keep_done {w : World} {p q k : Nat} {V1 V2 U : Value} {S : Nat → Prop} {T N L G r dl sq tall st lv wy : Int} {s : KM.St} (h : Raw w p V1 V2 U T N L G r dl sq tall st lv wy) (hs : Seeks w q S T N L G dl sq k s) (hk : k ≤ 1000000) (h0 : s.st = 0) (hq : ∀ j, S j → j ≠ p) :
    Calls Tryz.prog 228 #[.pointer (some ⟨p, 0, none⟩), .pointer (some ⟨q, 0, none⟩)] w fun e w' => e = .returned (.tuple #[]) ∧ ∃ A1 n1 c1 A2 n2 c2, Raw w' p (.slice A1 n1 c1) (.slice A2 n2 c2) .nilIface T N L G r dl sq tall (if lv < min tall (min (s.ps.length : Int) s.ss.length) then (1 : Int) else 0) lv wy ∧ n1 = s.ps.length ∧ n2 = s.ss.length ∧ Row w' w'.heap.size A1 (flat (encZ .u64) s.ps.reverse) ∧ Row w' w'.heap.size A2 (flat (encZ .u64) s.ss.reverse) ∧
      (∀ a, A1 = some a → w.heap.size ≤ a.block ∧ a.block < w'.heap.size) ∧ (∀ a, A2 = some a → w.heap.size ≤ a.block ∧ a.block < w'.heap.size) ∧ Only (fun k => k = p) w w' := by
  have HX := Lib.hid h
  have HN := Lib.hid (Next_any hs)
  rw [(seekA_none hs.1).2 h0] at HN
  have HPR := Lib.hid (show ∀ W, Below w.heap.size w W → Calls Tryz.prog 211 #[.pointer (some ⟨q, 0, none⟩)] W (Seek.Listed W s.ps.reverse) from fun W hb => by
    have h1 := Preds_any (seeks_only hs (only_below (fun _ => False) hb) (fun _ _ => id)) hk
    rwa [if_pos h0] at h1)
  have HSU := Lib.hid (show ∀ W, Below w.heap.size w W → Calls Tryz.prog 212 #[.pointer (some ⟨q, 0, none⟩)] W (Seek.Listed W s.ss.reverse) from fun W hb => by
    have h1 := Succs_any (seeks_only hs (only_below (fun _ => False) hb) (fun _ _ => id)) hk
    rwa [if_pos h0] at h1)
  have hp := h.lt
  have HGO := Lib.hid (show ∀ (W : World) (A1 A2 : Option Addr) (n1 c1 n2 c2 : Nat), n1 = s.ps.reverse.length → n2 = s.ss.reverse.length → Raw W p (.slice A1 n1 c1) (.slice A2 n2 c2) .nilIface T N L G r dl sq tall st lv wy → Calls Tryz.prog 157 #[.pointer (some ⟨p, 0, none⟩), .int .i64 lv] W fun e w' => e = .returned (.tuple #[]) ∧ Raw w' p (.slice A1 n1 c1) (.slice A2 n2 c2) .nilIface T N L G r dl sq tall (if lv < min tall (min (s.ps.length : Int) s.ss.length) then (1 : Int) else 0) lv wy ∧ Only (fun k => k = p) W w' from fun W A1 A2 n1 c1 n2 c2 e1 e2 hw => by
    have h9 := reach_any hw lv
    rw [e1, e2, List.length_reverse, List.length_reverse] at h9 ⊢
    exact h9)
  generalize (if lv < min tall (min (s.ps.length : Int) s.ss.length) then (1 : Int) else 0) = u at HGO ⊢
  have HLE := Lib.hid (show s.ps.reverse.length = s.ps.length ∧ s.ss.reverse.length = s.ss.length from ⟨List.length_reverse, List.length_reverse⟩)
  generalize s.ps.reverse = pr at HPR HGO HLE ⊢
  generalize s.ss.reverse = sr at HSU HGO HLE ⊢
  generalize s.ps.length = m1 at HLE ⊢
  generalize s.ss.length = m2 at HLE ⊢
  clear h hs h0 hq hk
  go_enter Tryz.func228, Tryz.ntmps228
  go_wp2_with fail
  refine HN.out.mono ?_
  rintro e w1 ⟨rfl, b1⟩
  simp only [Option.getD_none, Option.isSome_none]
  have HB := Lib.hid (b1.trans ((box_below w1 (.cells #[.int .i64 0, .int .i64 0, .int .u64 0, .int .u64 0, .int .u64 0] 63)).mono b1.size))
  clear b1
  go_wp2_with fail
  have HX9 := Lib.hid (HX.out.later HB.out)
  generalize w1.alloc (.cells #[.int .i64 0, .int .i64 0, .int .u64 0, .int .u64 0, .int .u64 0] 63) = w9 at HB HX9 ⊢
  refine (HPR.out _ HB.out).mono ?_
  rintro e w4 ⟨A1, n1, c1, rfl, hn1, r1, g1, hb⟩
  have HB4 := Lib.hid hb
  have H4 := Lib.hid (And.intro hn1 (And.intro r1 g1))
  clear hn1 r1 g1 hb
  go_wp2_with fail
  refine (HSU.out _ (HB.out.trans (HB4.out.mono HB.out.size))).mono ?_
  rintro e w5 ⟨A2, n2, c2, rfl, hn2, r2, g2, hb⟩
  have HB5 := Lib.hid (HB4.out.trans (hb.mono HB4.out.size))
  have H5 := Lib.hid (And.intro hn2 (And.intro (H4.out.2.1.later hb) (And.intro r2 g2)))
  have HX5 := Lib.hid (HX9.out.later HB5.out)
  have HZ5 := Lib.hid hb.size
  have HG := Lib.hid (HGO.out ((((w5.setCell ⟨p, 8, none⟩ (.slice A1 n1 c1)).setCell ⟨p, 9, none⟩ (.slice A2 n2 c2)).setCell ⟨p, 13, none⟩ .nilIface)) A1 A2 n1 c1 n2 c2 H4.out.1 H5.out.1 (((HX5.out.set_1 (.slice A1 n1 c1)).set_2 (.slice A2 n2 c2)).set_u .nilIface))
  have HO5 := Lib.hid (show Only (fun k => k = p) w ((((w5.setCell ⟨p, 8, none⟩ (.slice A1 n1 c1)).setCell ⟨p, 9, none⟩ (.slice A2 n2 c2)).setCell ⟨p, 13, none⟩ .nilIface)) from (((only_below _ (HB.out.trans (HB5.out.mono HB.out.size))).trans (only_set w5 p 8 (.slice A1 n1 c1))).trans (only_set _ p 9 (.slice A2 n2 c2))).trans (only_set _ p 13 .nilIface))
  have HS5 := Lib.hid (show Only (fun k => k = p) w5 ((((w5.setCell ⟨p, 8, none⟩ (.slice A1 n1 c1)).setCell ⟨p, 9, none⟩ (.slice A2 n2 c2)).setCell ⟨p, 13, none⟩ .nilIface)) from ((only_set w5 p 8 (.slice A1 n1 c1)).trans (only_set _ p 9 (.slice A2 n2 c2))).trans (only_set _ p 13 .nilIface))
  obtain ⟨-, -, -, -, -, -, -, -, a8, a9, -, a11, -, a13⟩ := HX5.out.cells
  have t8 := HX5.out.thawed 8
  have t9 := fun u => (HX5.out.set_1 u).thawed 9
  have t13 := fun u v => ((HX5.out.set_1 u).set_2 v).thawed 13
  clear hn2 r2 g2 hb
  go_wp2_with fail
  refine HG.out.mono ?_
  rintro e w6 ⟨rfl, h6, o6⟩
  have HA := Lib.hid (show ∀ a, A1 = some a → w.heap.size ≤ a.block ∧ a.block < w6.heap.size from fun a e => by
    have h1 := H4.out.2.2 a e
    have h2 := HB.out.size
    have h3 := HZ5.out
    have h4 := (HS5.out.trans o6).size
    omega)
  have HC := Lib.hid (show ∀ a, A2 = some a → w.heap.size ≤ a.block ∧ a.block < w6.heap.size from fun a e => by
    have h1 := H5.out.2.2.2 a e
    have h2 := HB.out.size
    have h3 := HB4.out.size
    have h4 := (HS5.out.trans o6).size
    omega)
  have HE := Lib.hid (show Only (fun k => k = p) w w6 ∧ Row w6 w6.heap.size A1 (flat (encZ .u64) pr) ∧ Row w6 w6.heap.size A2 (flat (encZ .u64) sr) from ⟨HO5.out.trans o6,
    (HS5.out.trans o6).row H5.out.2.1 (fun _ a e q => by have h1 := HA.out a e; omega), (HS5.out.trans o6).row H5.out.2.2.1 (fun _ a e q => by have h1 := HC.out a e; omega)⟩)
  have H6 := Lib.hid h6
  clear h6 o6 a8 a9 a11 a13 t8 t9 t13
  go_wp2
  refine bodyPost_end (results_none rfl _ _ _) rfl ?_
  exact ⟨rfl, A1, n1, c1, A2, n2, c2, H6.out, H4.out.1.trans HLE.out.1, H5.out.1.trans HLE.out.2, HE.out.2.1, HE.out.2.2, HA.out, HC.out, HE.out.1⟩
theorem tell_none {K : World → Prop} {w : World} {p : Nat} {V1 V2 : Value} {T N L G r dl sq tall lv wy f st : Int} (h : Raw w p V1 V2 .nilIface T N L G r dl sq tall st lv wy) (hG : Calls Tryz.prog 229 #[.pointer (some ⟨p, 0, none⟩), .int .u64 f] w fun e w' => e = .returned (.tuple #[]) ∧ K w') : Calls Tryz.prog 226 #[.pointer (some ⟨p, 0, none⟩), .int .u64 f] w fun e w' => e = .returned (.tuple #[]) ∧ K w' := by
  obtain ⟨-, -, -, -, -, -, -, -, -, -, -, -, -, e13⟩ := h.cells
  have HG := Lib.hid hG
  have ha := assert_none
  clear h hG
  go_enter Tryz.func226, Tryz.ntmps226
  go_wp2_with fail
  refine HG.out.mono ?_
  rintro e w1 ⟨rfl, h1⟩
  have HE := Lib.hid h1
  clear h1
  go_wp2
  exact bodyPost_end (results_none rfl _ _ _) rfl ⟨rfl, HE.out⟩
theorem tell_more {w : World} {p : Nat} {V1 V2 U : Value} {T N L G r dl sq tall lv wy f : Int} {st : Int} {q k : Nat} {Q : Nat → Prop} {s : KM.St} (h : Raw w p V1 V2 (seekV q) T N L G r dl sq tall st lv wy) (hs : Seeks w q Q T N L G dl sq k s) (hQ : ∀ j, Q j → j ≠ p) (hk : k + 1 ≤ 1000000) (hf : Word f) (h0 : ¬ (seekT L dl sq s f).st = 0) : Calls Tryz.prog 226 #[.pointer (some ⟨p, 0, none⟩), .int .u64 f] w fun e w' =>
    e = .returned (.tuple #[]) ∧ ∃ Q', Raw w' p V1 V2 (seekV q) T N L G r dl sq tall st lv wy ∧ Seeks w' q Q' T N L G dl sq (k + 1) (seekT L dl sq s f) ∧ (∀ j, Q' j → Q j ∨ (w.heap.size ≤ j ∧ j < w'.heap.size)) ∧ Only (fun j => j = p ∨ Q j) w w' := by
  obtain ⟨-, -, -, -, -, -, -, -, -, -, -, -, -, e13⟩ := h.cells
  have HX := Lib.hid h
  have HQ := Lib.hid hQ
  have HT := Lib.hid (Tell_any hs (by omega) hf)
  have H0 := Lib.hid h0
  have ha := assert_seek q
  have hp := h.lt
  generalize seekT L dl sq s f = s1 at HT H0 ⊢
  clear h hs hQ h0 hf
  go_enter Tryz.func226, Tryz.ntmps226
  go_wp2_with fail
  refine HT.out.mono ?_
  rintro e w1 ⟨rfl, Q1, h1, o1, k1⟩
  have HO1 := Lib.hid (o1.wide (R' := fun j => j = p ∨ Q j) fun j e => .inl (.inr e))
  have HQ1 := Lib.hid k1
  have HX1 := Lib.hid (HX.out.only o1 (fun e => HQ.out p e rfl))
  have HS1 := Lib.hid h1
  have HKE := Lib.hid (keep_more (p := p) h1 H0.out)
  clear h1 o1 k1
  go_wp2_with fail
  refine HKE.out.mono ?_
  rintro e w2 ⟨rfl, b2⟩
  have HB2 := Lib.hid b2
  clear b2
  go_wp2
  exact bodyPost_end (results_none rfl _ _ _) rfl ⟨rfl, Q1, HX1.out.later HB2.out, seeks_only HS1.out (only_below (fun _ => False) HB2.out) (fun _ _ => id), fun j z => (HQ1.out j z).imp id fun z => ⟨z.1, Nat.lt_of_lt_of_le z.2 HB2.out.size⟩, HO1.out.then_below HB2.out⟩
theorem tell_end {w : World} {p : Nat} {V1 V2 U : Value} {T N L G r dl sq tall lv wy f : Int} {st : Int} {q k : Nat} {Q : Nat → Prop} {s s1 : KM.St} (h : Raw w p V1 V2 (seekV q) T N L G r dl sq tall st lv wy) (hs : Seeks w q Q T N L G dl sq k s) (hQ : ∀ j, Q j → j ≠ p) (hlt : ∀ j, Q j → j < w.heap.size) (hk : k + 1 ≤ 1000000) (hf : Word f) (he : seekT L dl sq s f = s1) (h0 : s1.st = 0) : Calls Tryz.prog 226 #[.pointer (some ⟨p, 0, none⟩), .int .u64 f] w fun e w' =>
    e = .returned (.tuple #[]) ∧ ∃ A1 n1 c1 A2 n2 c2, Raw w' p (.slice A1 n1 c1) (.slice A2 n2 c2) .nilIface T N L G r dl sq tall (if lv < min tall (min (s1.ps.length : Int) s1.ss.length) then (1 : Int) else 0) lv wy ∧ n1 = s1.ps.length ∧ n2 = s1.ss.length ∧ Row w' w'.heap.size A1 (flat (encZ .u64) s1.ps.reverse) ∧ Row w' w'.heap.size A2 (flat (encZ .u64) s1.ss.reverse) ∧
      (∀ a, A1 = some a → w.heap.size ≤ a.block ∧ a.block < w'.heap.size) ∧ (∀ a, A2 = some a → w.heap.size ≤ a.block ∧ a.block < w'.heap.size) ∧ Only (fun j => j = p ∨ Q j) w w' := by
  obtain ⟨-, -, -, -, -, -, -, -, -, -, -, -, -, e13⟩ := h.cells
  have HX := Lib.hid h
  have HQ := Lib.hid (And.intro hQ hlt)
  have HT := Lib.hid (Tell_any hs (by omega) hf)
  have H0 := Lib.hid h0
  have ha := assert_seek q
  have hp := h.lt
  rw [he] at HT
  have HKA := Lib.hid (show ∀ (W : World) (Q1 : Nat → Prop), Raw W p V1 V2 (seekV q) T N L G r dl sq tall st lv wy → Seeks W q Q1 T N L G dl sq (k + 1) s1 → (∀ j, Q1 j → j ≠ p) → Calls Tryz.prog 228 #[.pointer (some ⟨p, 0, none⟩), .pointer (some ⟨q, 0, none⟩)] W fun e w' => e = .returned (.tuple #[]) ∧ ∃ A1 n1 c1 A2 n2 c2, Raw w' p (.slice A1 n1 c1) (.slice A2 n2 c2) .nilIface T N L G r dl sq tall (if lv < min tall (min (s1.ps.length : Int) s1.ss.length) then (1 : Int) else 0) lv wy ∧ n1 = s1.ps.length ∧ n2 = s1.ss.length ∧ Row w' w'.heap.size A1 (flat (encZ .u64) s1.ps.reverse) ∧ Row w' w'.heap.size A2 (flat (encZ .u64) s1.ss.reverse) ∧
      (∀ a, A1 = some a → W.heap.size ≤ a.block ∧ a.block < w'.heap.size) ∧ (∀ a, A2 = some a → W.heap.size ≤ a.block ∧ a.block < w'.heap.size) ∧ Only (fun k => k = p) W w' from fun W Q1 h1 h2 h3 => keep_done h1 h2 hk H0.out h3)
  generalize (if lv < min tall (min (s1.ps.length : Int) s1.ss.length) then (1 : Int) else 0) = u at HKA ⊢
  generalize s1.ps.length = m1 at HKA ⊢
  generalize s1.ss.length = m2 at HKA ⊢
  generalize s1.ps.reverse = pr at HKA ⊢
  generalize s1.ss.reverse = sr at HKA ⊢
  clear h hs hQ hlt h0 hf he
  go_enter Tryz.func226, Tryz.ntmps226
  go_wp2_with fail
  refine HT.out.mono ?_
  rintro e w1 ⟨rfl, Q1, h1, o1, k1⟩
  have HZ := Lib.hid o1.size
  have HO1 := Lib.hid (o1.wide (R' := fun j => j = p ∨ Q j) fun j e => .inl (.inr e))
  have HKE := Lib.hid (HKA.out _ Q1 (HX.out.only o1 (fun e => HQ.out.1 p e rfl)) h1 (fun j e => (k1 j e).elim (HQ.out.1 j) (fun e => by omega)))
  clear h1 o1 k1
  go_wp2_with fail
  refine HKE.out.mono ?_
  rintro e w2 ⟨rfl, A1, n1, c1, A2, n2, c2, g1, g2, g3, g4, g5, g6, g7, g8⟩
  have HE := Lib.hid (And.intro g1 (And.intro g2 (And.intro g3 (And.intro g4 (And.intro g5 (And.intro g6 (And.intro g7 g8)))))))
  clear g1 g2 g3 g4 g5 g6 g7 g8
  go_wp2
  obtain ⟨g1, g2, g3, g4, g5, g6, g7, g8⟩ := HE.out
  exact bodyPost_end (results_none rfl _ _ _) rfl ⟨rfl, A1, n1, c1, A2, n2, c2, g1, g2, g3, g4, g5, fun a e => ⟨Nat.le_trans HZ.out (g6 a e).1, (g6 a e).2⟩, fun a e => ⟨Nat.le_trans HZ.out (g7 a e).1, (g7 a e).2⟩, HO1.out.trans (g8.wide fun j z => .inl (.inl z))⟩
theorem row_lt {w : World} {A : Option Addr} {xs : List Value} (h : Row w w.heap.size A xs) {a : Addr} (e : A = some a) (hn : xs ≠ []) : a.block < w.heap.size := by
  obtain ⟨g, o, e2, hb, -⟩ := h hn
  rw [e] at e2
  cases e2
  exact hb
theorem Lift_tell {w : World} {p k : Nat} {S : Nat → Prop} {T N L G r dl sq tall f : Int} {s : LfM.St} (h : Lifts w p S T N L G r dl sq tall k s) (hk : k + 1 ≤ 1000000) (hf : Word f) : Calls Tryz.prog 226 #[.pointer (some ⟨p, 0, none⟩), .int .u64 f] w fun e w' =>
    e = .returned (.tuple #[]) ∧ ∃ S', Lifts w' p S' T N L G r dl sq tall (k + 1) (liftT L dl sq tall s f) ∧ Only S w w' ∧ ∀ j, S' j → S j ∨ (w.heap.size ≤ j ∧ j < w'.heap.size) := by
  obtain ⟨ho, ⟨hL1, hL2, hr⟩, hp, hlt, A1, c1, A2, c2, k1, k2, k3, k4, k5⟩ := h
  have hok := liftT_ok (dl := dl) (sq := sq) ho hL1 hL2 hk hf
  have hone : ∀ {w' : World}, Only (fun j => j = p) w w' → Only S w w' := fun z => z.wide fun j e => .inl (e ▸ hp)
  obtain ⟨st, lv, wy, un, ps, ss⟩ := s
  have h0 := ho.st
  have hlv := ho.lv
  have ham := ho.amid
  simp only at h0 hlv ham k1 k2 k3 k4 k5
  obtain ⟨g, rfl⟩ := Int.eq_ofNat_of_zero_le hlv.1
  rcases k5 with ⟨rfl, k5⟩ | ⟨q, sk, Q, rfl, k5, k6, k7⟩
  · -- one step of its own, by which just its own words are turned
    have hstay : ∀ {w' : World} {st' lv' wy' : Int}, LfM.Ok L tall (k + 1) ⟨st', lv', wy', none, ps, ss⟩ → Raw w' p (.slice A1 ps.length c1) (.slice A2 ss.length c2) .nilIface T N L G r dl sq tall st' lv' wy' → Only (fun j => j = p) w w' →
        ∃ S', Lifts w' p S' T N L G r dl sq tall (k + 1) ⟨st', lv', wy', none, ps, ss⟩ ∧ Only S w w' ∧ ∀ j, S' j → S j ∨ (w.heap.size ≤ j ∧ j < w'.heap.size) := fun a b c =>
      ⟨S, ⟨a, ⟨hL1, hL2, hr⟩, hp, fun j e => Nat.lt_of_lt_of_le (hlt j e) c.size, A1, c1, A2, c2, c.row k1 fun hn a e => (k3 a e hn).2, c.row k2 fun hn a e => (k4 a e hn).2, k3, k4, .inl ⟨rfl, b⟩⟩, hone c, fun j e => .inl e⟩
    rcases h0 with e | e | e | e
    · subst e
      rw [liftT_0] at hok ⊢
      refine (tell_none (K := fun w' => w = w') k5 (goOn_0 k5)).mono ?_
      rintro e w' ⟨rfl, rfl⟩
      exact ⟨rfl, hstay hok k5 (Only.refl _ _)⟩
    · subst e
      rw [liftT_1, Int.toNat_natCast] at hok ⊢
      have ham := ham (by decide)
      refine (tell_none k5 (goOn_1 (V2 := .bool false) (lv := 0) k5 hf k2 rfl (by omega) fun a e hn => (k4 a e hn).2)).mono ?_
      rintro e w' ⟨rfl, g1, g2⟩
      exact ⟨rfl, hstay hok g1 g2⟩
    · subst e
      rw [liftT_2] at hok ⊢
      refine (tell_none k5 (goOn_2 k5)).mono ?_
      rintro e w' ⟨rfl, g1, g2⟩
      exact ⟨rfl, hstay hok g1 g2⟩
    · subst e
      have ham := ham (by decide)
      by_cases e : f = ss.getD g 0
      · rw [liftT_3 (by rw [Int.toNat_natCast]; exact e)] at hok ⊢
        refine (tell_none k5 (goOn_3 (V1 := .bool false) (V2 := .bool false) (lv := 0) k5 k2 rfl (by omega) (by omega) e)).mono ?_
        rintro e w' ⟨rfl, g1, g2⟩
        exact ⟨rfl, hstay hok g1 g2⟩
      · rw [liftT_3n (by rw [Int.toNat_natCast]; exact e)] at hok ⊢
        refine (tell_none k5 (goOn_3n (V2 := .bool false) (lv := 0) k5 hL2 k2 rfl (by omega) e)).mono ?_
        rintro e w' ⟨rfl, q, Q, g1, g2, g3, g4⟩
        have hz := g4.size
        exact ⟨rfl, fun j => S j ∨ (w.heap.size ≤ j ∧ j < w'.heap.size), ⟨hok, ⟨hL1, hL2, hr⟩, .inl hp, fun j e => e.elim (fun e => Nat.lt_of_lt_of_le (hlt j e) hz) And.right, A1, c1, A2, c2, g4.row k1 (fun hn a e => (k3 a e hn).2), g4.row k2 (fun hn a e => (k4 a e hn).2), fun a e hn => ⟨.inl (k3 a e hn).1, (k3 a e hn).2⟩, fun a e hn => ⟨.inl (k4 a e hn).1, (k4 a e hn).2⟩,
          .inr ⟨q, _, Q, rfl, g1, ⟨g2.1.up (Nat.zero_le _), g2.2⟩, fun j e => ⟨.inr (g3 j e), by have := (g3 j e).1; have := hlt p hp; omega, fun a e2 hn => by have := row_lt k1 e2 hn; have := (g3 j e).1; omega, fun a e2 hn => by have := row_lt k2 e2 hn; have := (g3 j e).1; omega⟩⟩⟩, hone g4, fun j e => e⟩
  · -- one step of the seeker
    have hQp : ∀ j, Q j → j ≠ p := fun j e => (k7 j e).2.1
    have hQl : ∀ j, Q j → j < w.heap.size := fun j e => hlt j (k7 j e).1
    rw [liftT_s] at hok ⊢
    by_cases e : (seekT L dl sq sk f).st = 0
    · rw [LfM.keep_done e] at hok ⊢
      refine (tell_end (U := .bool false) (s1 := seekT L dl sq sk f) k5 k6 hQp hQl hk hf rfl e).mono ?_
      rintro e w' ⟨rfl, B1, n1, d1, B2, n2, d2, g1, g2, g3, g4, g5, g6, g7, g8⟩
      have hz := g8.size
      subst g2 g3
      refine ⟨rfl, fun j => S j ∨ (w.heap.size ≤ j ∧ j < w'.heap.size), ⟨hok, ⟨hL1, hL2, hr⟩, .inl hp, fun j e => e.elim (fun e => Nat.lt_of_lt_of_le (hlt j e) hz) And.right, B1, d1, B2, d2, g4, g5, fun a e hn => ⟨.inr (g6 a e), ?_⟩, fun a e hn => ⟨.inr (g7 a e), ?_⟩, .inl ⟨rfl, ?_⟩⟩, g8.wide fun j e => .inl (e.elim (fun e => e ▸ hp) fun e => (k7 j e).1), fun j e => e⟩
      · have := (g6 a e).1; have := hlt p hp; omega
      · have := (g7 a e).1; have := hlt p hp; omega
      · show Raw w' p (.slice B1 (LfM.reach tall g wy _ _).ps.length d1) (.slice B2 (LfM.reach tall g wy _ _).ss.length d2) .nilIface T N L G r dl sq tall (LfM.reach tall g wy _ _).st g wy
        unfold LfM.reach
        simp only [List.length_reverse]
        exact g1
    · rw [LfM.keep_more e] at hok ⊢
      refine (tell_more (U := .bool false) k5 k6 hQp hk hf e).mono ?_
      rintro e w' ⟨rfl, Q', g1, g2, g3, g4⟩
      have hz := g4.size
      have hrow : ∀ {A : Option Addr} {xs : List Value}, Row w w.heap.size A xs → (∀ a, A = some a → xs ≠ [] → a.block ≠ p ∧ ∀ j, Q j → a.block ≠ j) → Row w' w'.heap.size A xs := fun a b => g4.row a fun hn x e z => z.elim (b x e hn).1 fun z => (b x e hn).2 _ z rfl
      exact ⟨rfl, fun j => S j ∨ (w.heap.size ≤ j ∧ j < w'.heap.size), ⟨hok, ⟨hL1, hL2, hr⟩, .inl hp, fun j e => e.elim (fun e => Nat.lt_of_lt_of_le (hlt j e) hz) And.right, A1, c1, A2, c2, hrow k1 (fun a e hn => ⟨(k3 a e hn).2, fun j z => (k7 j z).2.2.1 a e hn⟩), hrow k2 (fun a e hn => ⟨(k4 a e hn).2, fun j z => (k7 j z).2.2.2 a e hn⟩), fun a e hn => ⟨.inl (k3 a e hn).1, (k3 a e hn).2⟩, fun a e hn => ⟨.inl (k4 a e hn).1, (k4 a e hn).2⟩,
        .inr ⟨q, _, Q', rfl, g1, g2, fun j e => (g3 j e).elim (fun e => ⟨.inl (k7 j e).1, (k7 j e).2⟩) fun e => ⟨.inr e, by have := hlt p hp; omega, fun a e2 hn => by have := row_lt k1 e2 hn; omega, fun a e2 hn => by have := row_lt k2 e2 hn; omega⟩⟩⟩, g4.wide fun j e => .inl (e.elim (fun e => e ▸ hp) fun e => (k7 j e).1), fun j e => e⟩
theorem Lift_any (T N L G r dl sq tall : Int) (hL : 1 ≤ L ∧ L ≤ 9223372036854775807) (hr : Word r) {A1 A2 : Option Addr} {n1 n2 : Nat} (c1 c2 : Nat) {ps ss : List Int} {w : World} (hQ : Row w w.heap.size A1 (flat (encZ .u64) ps)) (hR : Row w w.heap.size A2 (flat (encZ .u64) ss)) (hm : n1 = ps.length) (hn : n2 = ss.length) (h1 : n1 ≤ 1000000) (h2 : n2 ≤ 1000000) (hp : ∀ x ∈ ps, Word x) (hs : ∀ x ∈ ss, Word x) :
    Calls Tryz.prog 146 #[.agg #[.int .i64 T, .int .i64 N, .int .i64 L, .int .u64 G], .int .u64 r, .agg #[.int .i64 dl, .int .u64 sq], .int .i64 tall, .slice A1 n1 c1, .slice A2 n2 c2] w fun e w' => ∃ p S, e = .returned (.pointer (some ⟨p, 0, none⟩)) ∧ Lifts w' p S T N L G r dl sq tall 0 (LfM.reach tall 1 0 ps ss) ∧ (∀ k, S k → w.heap.size ≤ k ∧ k < w'.heap.size) ∧ Below w.heap.size w w' := by
  have HB0 := Lib.hid (show Below w.heap.size w (((w.alloc (.cells #[.int .i64 T, .int .i64 N, .int .i64 L, .int .u64 G] 24)).alloc (.cells #[.int .i64 dl, .int .u64 sq] 58))) from ((Below.refl _ _).alloc (Nat.le_refl _) _).alloc (by simp) _)
  have HS := Lib.hid (show ∀ W, Below (((w.alloc (.cells #[.int .i64 T, .int .i64 N, .int .i64 L, .int .u64 G] 24)).alloc (.cells #[.int .i64 dl, .int .u64 sq] 58))).heap.size (((w.alloc (.cells #[.int .i64 T, .int .i64 N, .int .i64 L, .int .u64 G] 24)).alloc (.cells #[.int .i64 dl, .int .u64 sq] 58))) W → (W.cell? ⟨w.heap.size, 0, none⟩ = some (.int .i64 T) ∧ W.cell? ⟨w.heap.size, 1, none⟩ = some (.int .i64 N) ∧ W.cell? ⟨w.heap.size, 2, none⟩ = some (.int .i64 L) ∧ W.cell? ⟨w.heap.size, 3, none⟩ = some (.int .u64 G)) ∧ W.cell? ⟨w.heap.size + 1, 0, none⟩ = some (.int .i64 dl) ∧ W.cell? ⟨w.heap.size + 1, 1, none⟩ = some (.int .u64 sq) from fun W hb => by
    have c := box4 w (.int .i64 T) (.int .i64 N) (.int .i64 L) (.int .u64 G) 24
    have k0 := (cell_heap (new_heap (w.alloc (.cells #[.int .i64 T, .int .i64 N, .int .i64 L, .int .u64 G] 24)) (.cells #[.int .i64 dl, .int .u64 sq] 58)) 0).1
    have k1 := (cell_heap (new_heap (w.alloc (.cells #[.int .i64 T, .int .i64 N, .int .i64 L, .int .u64 G] 24)) (.cells #[.int .i64 dl, .int .u64 sq] 58)) 1).1
    rw [World.size_alloc] at k0 k1
    have hb2 : Below (w.alloc (.cells #[.int .i64 T, .int .i64 N, .int .i64 L, .int .u64 G] 24)).heap.size (w.alloc (.cells #[.int .i64 T, .int .i64 N, .int .i64 L, .int .u64 G] 24)) W := (box_below _ _).trans (hb.mono (by simp))
    exact ⟨⟨cell_later hb2 c.1, cell_later hb2 c.2.1, cell_later hb2 c.2.2.1, cell_later hb2 c.2.2.2⟩, cell_later hb k0, cell_later hb k1⟩)
  have HC1 := Lib.hid (show ∀ W, Below (((w.alloc (.cells #[.int .i64 T, .int .i64 N, .int .i64 L, .int .u64 G] 24)).alloc (.cells #[.int .i64 dl, .int .u64 sq] 58))).heap.size (((w.alloc (.cells #[.int .i64 T, .int .i64 N, .int .i64 L, .int .u64 G] 24)).alloc (.cells #[.int .i64 dl, .int .u64 sq] 58))) W → Calls Tryz.prog 156 #[.slice A1 n1 c1] W fun e w' => ∃ B1 d1, e = .returned (.slice B1 n1 d1) ∧ w'.ownsRow W.heap.size 22 1 (.slice B1 n1 d1) n1 (flat (encZ .u64) ps) ∧ Below W.heap.size W w' from fun W hb => WordRows.Clone_any (hQ.later (HB0.out.trans (hb.mono HB0.out.size))) hm h1)
  have HC2 := Lib.hid (show ∀ W, Below (((w.alloc (.cells #[.int .i64 T, .int .i64 N, .int .i64 L, .int .u64 G] 24)).alloc (.cells #[.int .i64 dl, .int .u64 sq] 58))).heap.size (((w.alloc (.cells #[.int .i64 T, .int .i64 N, .int .i64 L, .int .u64 G] 24)).alloc (.cells #[.int .i64 dl, .int .u64 sq] 58))) W → Calls Tryz.prog 156 #[.slice A2 n2 c2] W fun e w' => ∃ B2 d2, e = .returned (.slice B2 n2 d2) ∧ w'.ownsRow W.heap.size 22 1 (.slice B2 n2 d2) n2 (flat (encZ .u64) ss) ∧ Below W.heap.size W w' from fun W hb => WordRows.Clone_any (hR.later (HB0.out.trans (hb.mono HB0.out.size))) hn h2)
  have HH := Lib.hid (show (1 ≤ L ∧ L ≤ 9223372036854775807 ∧ Word r) ∧ n1 = ps.length ∧ n2 = ss.length ∧ LfM.Ok L tall 0 (LfM.reach tall 1 0 ps ss) from ⟨⟨hL.1, hL.2, hr⟩, hm, hn, reach_ok (by omega) (by unfold Word; omega) hp hs (by omega) (by omega)⟩)
  have HD := Lib.hid (show Below (((w.alloc (.cells #[.int .i64 T, .int .i64 N, .int .i64 L, .int .u64 G] 24)).alloc (.cells #[.int .i64 dl, .int .u64 sq] 58))).heap.size (((w.alloc (.cells #[.int .i64 T, .int .i64 N, .int .i64 L, .int .u64 G] 24)).alloc (.cells #[.int .i64 dl, .int .u64 sq] 58))) (((w.alloc (.cells #[.int .i64 T, .int .i64 N, .int .i64 L, .int .u64 G] 24)).alloc (.cells #[.int .i64 dl, .int .u64 sq] 58))).drew from (Below.refl _ _).drew)
  obtain ⟨u, hu⟩ : ∃ u : Int, u = if (1 : Int) < min tall (min (n1 : Int) n2) then 1 else 0 := ⟨_, rfl⟩
  have HRE := Lib.hid (show ∀ (W : World) (p : Nat) (B1 B2 : Option Addr) (d1 d2 : Nat), Raw W p (.slice B1 n1 d1) (.slice B2 n2 d2) .nilIface T N L G r dl sq tall 0 0 0 → Calls Tryz.prog 157 #[.pointer (some ⟨p, 0, none⟩), .int .i64 1] W fun e w' => e = .returned (.tuple #[]) ∧ Raw w' p (.slice B1 n1 d1) (.slice B2 n2 d2) .nilIface T N L G r dl sq tall u 1 0 ∧ Only (fun k => k = p) W w' from fun W p B1 B2 d1 d2 h => by rw [hu]; exact reach_any h 1)
  have HU := Lib.hid hu
  clear hQ hR hm hn hp hs h1 h2 hL hr hu
  obtain ⟨⟨c_0, c_1, c_2, c_3⟩, k_0, k_1⟩ := HS.out _ (Below.refl _ _)
  go_enter Tryz.func146, Tryz.ntmps146
  go_upto_region 1 with fail
  go_region_held3 (fun W => (W.cell? ⟨w.heap.size, 0, none⟩ = some (.int .i64 T) ∧ W.cell? ⟨w.heap.size, 1, none⟩ = some (.int .i64 N) ∧ W.cell? ⟨w.heap.size, 2, none⟩ = some (.int .i64 L) ∧ W.cell? ⟨w.heap.size, 3, none⟩ = some (.int .u64 G)) ∧ W.cell? ⟨w.heap.size + 1, 0, none⟩ = some (.int .i64 dl) ∧ W.cell? ⟨w.heap.size + 1, 1, none⟩ = some (.int .u64 sq))
    ((first | (with_reducible exact HS.out _ HD.out) | (with_reducible assumption) | (with_reducible exact HS.out _ HB1.out) | (with_reducible exact HS.out _ HB2.out) | (with_reducible exact HS.out _ (HB2.out.trans ((box_below _ _).mono HB2.out.size)))))
    (first
      | (go_at_call 156; with_reducible refine (HC1.out _ HD.out).mono ?_; rintro e w1 ⟨B1, d1, rfl, o1, hb⟩; have HB1 := Lib.hid (HD.out.trans (hb.mono HD.out.size)); have HO1 := Lib.hid o1; clear o1 hb)
      | (go_at_call 156; with_reducible refine (HC2.out _ HB1.out).mono ?_; rintro e w2 ⟨B2, d2, rfl, o2, hb⟩; have HB2 := Lib.hid (HB1.out.trans (hb.mono HB1.out.size)); have HO2 := Lib.hid (And.intro o2 hb); clear o2 hb))
  have HX := Lib.hid (show Raw (w2.alloc (.cells #[.int .i64 T, .int .i64 N, .int .i64 L, .int .u64 G, .int .u64 r, .int .i64 dl, .int .u64 sq, .int .i64 tall, .slice B1 n1 d1, .slice B2 n2 d2, .int .i64 0, .int .i64 0, .int .u64 0, .nilIface] 204)) w2.heap.size (.slice B1 n1 d1) (.slice B2 n2 d2) .nilIface T N L G r dl sq tall 0 0 0 from new_heap w2 _)
  clear c_0 c_1 c_2 c_3 k_0 k_1
  go_wp2_with fail
  refine (HRE.out _ _ _ _ _ _ HX.out).mono ?_
  rintro e w3 ⟨rfl, h3, g3⟩
  have H3 := Lib.hid (And.intro h3 g3)
  clear h3 g3
  go_wp2
  go_ret
  obtain ⟨h3, g3⟩ := H3.out
  obtain ⟨o2, hb2⟩ := HO2.out
  obtain ⟨hl, e1, e2, hok⟩ := HH.out
  have z0 := HB0.out.size
  have z1 := HB1.out.size
  have z2 := hb2.size
  have z3 := g3.size
  have z4 := HD.out.size
  rw [World.size_alloc] at z3
  simp only [World.drew] at z4
  have hB2 : Below w.heap.size w w2 := HB0.out.trans (HB2.out.mono z0)
  have hB3 : Below w.heap.size w w3 := (hB2.alloc hB2.size _).trans (g3.below (by rw [World.size_alloc]; omega) fun k e => by subst e; exact hB2.size)
  have r1 : Row w2 w2.heap.size B1 (flat (encZ .u64) ps) := (Row.of_own HO1.out).later hb2
  have r2 : Row w2 w2.heap.size B2 (flat (encZ .u64) ss) := Row.of_own o2
  have hlt1 : ∀ a, B1 = some a → w.heap.size ≤ a.block ∧ a.block < w2.heap.size := fun a e => by
    have h5 := HO1.out.lt a.block (by rw [e]; rfl)
    have h6 : w.heap.size ≤ (((w.alloc (.cells #[.int .i64 T, .int .i64 N, .int .i64 L, .int .u64 G] 24)).alloc (.cells #[.int .i64 dl, .int .u64 sq] 58))).drew.heap.size := by simp only [World.drew]; exact z0
    exact ⟨Nat.le_trans h6 h5.1, Nat.lt_of_lt_of_le h5.2 z2⟩
  have hlt2 : ∀ a, B2 = some a → w.heap.size ≤ a.block ∧ a.block < w2.heap.size := fun a e => by
    have h5 := o2.lt a.block (by rw [e]; rfl)
    exact ⟨Nat.le_trans z0 (Nat.le_trans z1 h5.1), h5.2⟩
  have hz2 := hB2.size
  have hone : Only (fun k => k = w2.heap.size) w2 w3 := (only_alloc w2 _ _).trans g3
  refine ⟨_, fun j => w.heap.size ≤ j ∧ j < w3.heap.size, rfl, ⟨hok, hl, ⟨hz2, by omega⟩, fun j e => e.2, B1, d1, B2, d2, hone.row r1 (fun _ a e q => by have := (hlt1 a e).2; omega), hone.row r2 (fun _ a e q => by have := (hlt2 a e).2; omega), fun a e _ => ⟨⟨(hlt1 a e).1, by have := (hlt1 a e).2; omega⟩, by have := (hlt1 a e).2; omega⟩, fun a e _ => ⟨⟨(hlt2 a e).1, by have := (hlt2 a e).2; omega⟩, by have := (hlt2 a e).2; omega⟩, .inl ⟨rfl, ?_⟩⟩, fun k e => e, hB3⟩
  show Raw w3 w2.heap.size (.slice B1 ps.length d1) (.slice B2 ss.length d2) .nilIface T N L G r dl sq tall (LfM.reach tall 1 0 ps ss).st 1 0
  unfold LfM.reach
  rw [← e1, ← e2, ← HU.out]
  exact h3
end Go.Proofs.YtlagghghbpbcbaaGreatDoor.Lift
