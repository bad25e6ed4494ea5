/- The document's Kept and Find (package sundialref18), held to plain lists. -/
import Derived.Test.YtjefjkpomohpiaaGreatDoorSeekChain
namespace Go.Proofs.YtjefjkpomohpiaaGreatDoor.SeekRef
set_option maxRecDepth 20000
open Go.ChangeShapes Go.WideShapes Go.RowKit PM CM KM Lay Ints Plan
set_option linter.unusedVariables false
set_option linter.unusedSimpArgs false

/-- A list of words in new memory. -/
def Listed (w : World) (l : List Int) (e : Ending) (w' : World) : Prop := ∃ A n c, e = .returned (.slice A n c) ∧ n = l.length ∧ Row w' w'.heap.size A (flat (encZ .u64) l) ∧ (∀ a, A = some a → w.heap.size ≤ a.block) ∧ Below w.heap.size w w'
theorem take_filter {f : Int → Bool} {l : List Int} {j : Nat} {y : Int} (h : l[j]? = some y) : (l.take (j + 1)).filter f = (l.take j).filter f ++ (if f y = true then [y] else []) := by
  obtain ⟨hj, rfl⟩ := List.getElem?_eq_some_iff.1 h
  rw [List.take_add_one, List.getElem?_eq_getElem hj, List.filter_append]
  congr 1
  simp [List.filter_cons]
theorem kept_refs {T L : Int} {N : Nat} {l : List Int} (hf : BM.Fits l) (h : Int) : Refs N (keptL T L N l h) := fun c hc => (chain_refs hf h).1 c (List.mem_filter.1 hc).1
theorem kept_few {T L : Int} {N : Nat} {l : List Int} (hf : BM.Fits l) (h : Int) : (keptL T L N l h).length ≤ N := Nat.le_trans (List.length_filter_le _ _) (chain_few hf h)

set_option maxHeartbeats 2000000 in
theorem Kept_any {A : Option Addr} {l : List Int} {n : Nat} (c : Nat) {w : World} (hn : n = l.length) (hl : n ≤ 1000000) (hR : Row w w.heap.size A (flat (encZ .u64) l)) (hf : BM.Fits l) {T L G : Int} {N : Nat} (hN : N ≤ 64) (h : Int) :
    Calls Tryz.prog 19 #[.slice A n c, .agg #[.int .i64 T, .int .i64 (N : Int), .int .i64 L, .int .u64 G], .int .i64 h] w (Listed w (keptL T L N l h)) := by
  have HCH := Lib.hid (Chain_any c hn hl (hR.later (box_below w (.cells #[.int .i64 T, .int .i64 (N : Int), .int .i64 L, .int .u64 G] 24))) hf (T := T) (L := L) (G := G) hN h)
  have HOUT := Lib.hid (show ∀ (r : Int) W, (0 ≤ r ∧ r < 18446744073709551616) → Below (w.heap.size + 1) (w.alloc (.cells #[.int .i64 T, .int .i64 (N : Int), .int .i64 L, .int .u64 G] 24)) W → ∀ b, (!freeB T L l h r) = b → Calls Tryz.prog 25 #[.slice A n c, .agg #[.int .i64 T, .int .i64 (N : Int), .int .i64 L, .int .u64 G], .int .u64 r, .int .i64 h] W fun e w' => e = .returned (.bool b) ∧ Below W.heap.size W w' from fun r W hr hb b e => Out_is c hn hl (hR.later (below_past hb)) hf T N L G h hr e)
  have HRF := Lib.hid (chain_refs (T := T) (L := L) (N := N) hf h).1
  have HFW := Lib.hid (chain_few (T := T) (L := L) (N := N) hf h)
  unfold keptL
  obtain ⟨x, hx⟩ : ∃ x, x = chainI T L N l h := ⟨_, rfl⟩
  rw [← hx] at HCH HRF HFW ⊢
  obtain ⟨fr, hfr⟩ : ∃ fr, fr = freeB T L l h := ⟨_, rfl⟩
  rw [← hfr] at HOUT ⊢
  obtain ⟨c_0, c_1, c_2, c_3⟩ := box4 w (.int .i64 T) (.int .i64 N) (.int .i64 L) (.int .u64 G) 24
  obtain ⟨i0, hi0, hz0, hz1, hz2⟩ := info_parts WordRows.info_w
  clear hR hn hf hx hfr
  go_enter Tryz.func19, Tryz.ntmps19
  go_wp2_with fail
  refine HCH.out.mono ?_
  rintro e w1 ⟨A1, n1, c1, rfl, h1, r1, -, b1⟩
  have HB1 := Lib.hid (show Below (w.heap.size + 1) (w.alloc (.cells #[.int .i64 T, .int .i64 (N : Int), .int .i64 L, .int .u64 G] 24)) w1 from by have q := b1; rwa [World.size_alloc] at q)
  have HN1 := Lib.hid h1
  have hn1 : n1 ≤ 64 := by have := HFW.out; omega
  have HR1 := Lib.hid r1
  have HP := Lib.hid (show ∀ W, Below w1.heap.size w1 W → Below (w.heap.size + 1) (w.alloc (.cells #[.int .i64 T, .int .i64 (N : Int), .int .i64 L, .int .u64 G] 24)) W from fun W hb => HB1.out.trans (hb.mono (by have := HB1.out.size; rwa [World.size_alloc] at this)))
  clear h1 r1 b1 c_0 c_1 c_2 c_3 HCH
  go_wp2
  go_loopw [9, 10] (fun ov iv wr => ∃ (j m : Nat), j ≤ n1 ∧ m ≤ j ∧ iv = .int .i64 j ∧ m = ((x.1.take j).filter fr).length ∧ wr.ownsRow w1.heap.size 22 1 ov m (flat (encZ .u64) ((x.1.take j).filter fr)) ∧ Below w1.heap.size w1 wr)
    (fun _ iv _ => n1 - (intOf iv).toNat)
  case atStart => exact ⟨0, 0, Nat.zero_le _, Nat.le_refl _, rfl, by simp, by simpa [flat] using World.ownsRow_nil w1 w1.heap.size _ _, Below.refl _ _⟩
  case round =>
    obtain ⟨j, m, hj, hmj, rfl, hm, ho, hb⟩ := hrel
    obtain ⟨A2, c2, rfl, -⟩ := slice_of_own ho
    have HO := Lib.hid ho
    have HB := Lib.hid hb
    have HM := Lib.hid hm
    obtain ⟨c_0, c_1, c_2, c_3⟩ := box4_later (HP.out wr hb)
    by_cases hlt : j < n1
    · obtain ⟨y, hy⟩ : ∃ y, x.1[j]? = some y := ⟨_, List.getElem?_eq_getElem (by have := HN1.out; omega)⟩
      have HY := Lib.hid (HRF.out y (List.mem_of_getElem? hy)).1
      obtain ⟨b0, o0, rfl, -, hc0⟩ := int_at (HR1.out.later hb) (show j < x.1.length by have := HN1.out; omega)
      have q0 := hc0 j y hy
      have HTF := Lib.hid (take_filter (f := fr) hy)
      have C_0 := fun p : After wr => p.cell c_0
      have C_1 := fun p : After wr => p.cell c_1
      have C_2 := fun p : After wr => p.cell c_2
      have C_3 := fun p : After wr => p.cell c_3
      have Q_0 := fun p : After wr => p.cell q0
      have HPQ := Lib.hid (show ∀ p : After wr, Below w1.heap.size w1 p.x from fun p => HB.out.trans (p.ok.mono HB.out.size))
      have hil : (j : Int) < (n1 : Int) := by omega
      cases hfy : fr y with
      | false =>
        have HV := Lib.hid fun W hb => HOUT.out y W HY.out hb true (by rw [hfy]; rfl)
        have H4 := Lib.hid (show (x.1.take (j + 1)).filter fr = (x.1.take j).filter fr by rw [HTF.out, hfy]; simp)
        clear hc0 hy hb ho hm c_0 c_1 c_2 c_3 q0 hfy
        go_wp2
        refine wp_region_after mixed (by kernel_rfl) ?_
        repeat (first | go_big_quiet_step ((with_reducible exact calls_after (HV.out _ (HP.out _ (HPQ.out _))))) | quiet_step ((with_reducible exact calls_after (HV.out _ (HP.out _ (HPQ.out _))))))
        refine wpQuiet_nil ?_
        intro _ hw'
        obtain ⟨pq, hw''⟩ := hw'
        subst hw''
        have hq := HPQ.out pq
        have hq2 := pq.ok
        have d0 := Q_0 pq
        generalize pq.x = wq at hq hq2 d0 ⊢
        go_wp2
        go_roundw
        case rel => exact ⟨j + 1, m, by omega, by omega, by go_num, by rw [H4.out]; exact HM.out, by rw [H4.out]; exact own_later HO.out hq2, hq⟩
        case measure => simp [intOf]; omega
      | true =>
        have HV := Lib.hid fun W hb => HOUT.out y W HY.out hb false (by rw [hfy]; rfl)
        have H4 := Lib.hid (show (x.1.take (j + 1)).filter fr = (x.1.take j).filter fr ++ [y] by rw [HTF.out, hfy]; simp)
        clear hc0 hy hb ho hm c_0 c_1 c_2 c_3 q0 hfy
        go_wp2
        refine wp_region_after mixed (by kernel_rfl) ?_
        repeat (first | go_big_quiet_step ((with_reducible exact calls_after (HV.out _ (HP.out _ (HPQ.out _))))) | quiet_step ((with_reducible exact calls_after (HV.out _ (HP.out _ (HPQ.out _))))))
        refine wpQuiet_nil ?_
        intro _ hw'
        obtain ⟨pq, hw''⟩ := hw'
        subst hw''
        have hq := HPQ.out pq
        have hq2 := pq.ok
        have d0 := Q_0 pq
        generalize pq.x = wq at hq hq2 d0 ⊢
        have HQ := Lib.hid hq
        have HO2 := Lib.hid (own_later HO.out hq2)
        have K0 := fun o => cell_later (box_below wq o) d0
        clear hq hq2
        go_wp2_with (at_builtin; refine wpList_append_only _ rfl (.tmp 33) (.tmp 38) 25 rfl w1.heap.size 22 i0 _ 1 8 Tryz.underlying25 hi0 hz0 hz1 hz2 rfl (by decide) _ m _ rfl (HO2.out.alloc _) ⟨wq.heap.size, 0, none⟩ 1 1 (encZ .u64 y) rfl (by decide) rfl (cells_new _ _ _) (encZ_one _ _) (by simp only [maxLen]; omega) (by omega) (by have := HQ.out.size; simp; omega) ?_; intro g2 cap w3 ho3 hg3 hlt3 hor3 hon3; have HO3 := Lib.hid ho3; have HB3 := Lib.hid (show Below w1.heap.size w1 w3 from (HQ.out.alloc HQ.out.size _).trans (hon3.below (by have := HQ.out.size; simp; omega) (fun k hk => (HO2.out.lt k hk).1))); clear ho3 hg3 hlt3 hor3 hon3)
        go_roundw
        case rel => exact ⟨j + 1, m + 1, by omega, by omega, by go_num, by rw [H4.out, List.length_append, ← HM.out]; rfl, by rw [H4.out, flat_append, flat_one]; exact HO3.out, HB3.out⟩
        case measure => simp [intOf]; omega
    · obtain rfl : j = n1 := by omega
      have HALL := Lib.hid (show x.1.take j = x.1 from List.take_of_length_le (by have := HN1.out; omega))
      clear ho hb hm c_0 c_1 c_2 c_3
      go_wp2
      go_ret
      rw [HALL.out] at HM HO
      exact ⟨A2, m, c2, rfl, HM.out, Row.of_own HO.out, fun a e => by cases e; have h1 := (HO.out.lt a.block rfl).1; have h2 := HB1.out.size; rw [World.size_alloc] at h2; omega, below_past (HP.out _ HB.out)⟩
end Go.Proofs.YtjefjkpomohpiaaGreatDoor.SeekRef
