/- Package blank's Free, held to plain lists: the free slots that a memory's words tell, in a new list; all else in memory stays as it was. -/
import Derived.Test.YtcnbbflgccdfjaaDoorBlankWalks
namespace Go.Proofs.YtcnbbflgccdfjaaDoor.Blank
set_option maxRecDepth 20000
open Go.ChangeShapes Go.WideShapes Go.RowKit PM CM SM BM Lay Ints Plan
open Go.Proofs.YtcnbbflgccdfjaaDoor.Cells (Mem Makes Load_any)
set_option linter.unusedVariables false

/-- A new list of integers: its value, what it holds, and that nothing else has turned. -/
def Lists (w : World) (l : List Int) (e : Ending) (w' : World) : Prop := ∃ (A : Option Addr) (c : Nat), e = .returned (.slice A l.length c) ∧ Row w' w'.heap.size A (flat (encZ .i64) l) ∧ Below w.heap.size w w'
/-- How long a slice is. -/
def lenV : Value → Nat
  | .slice _ n _ => n
  | _ => 0

theorem ends {w wr : World} {o : Obj} {A : Option Addr} {k c base : Nat} {t : TypeId} {F out : List Int} (ho : wr.ownsRow base t 1 (.slice A k c) k (flat (encZ .i64) out)) (hl : k = out.length) (hF : F = out) (hb : Below (w.heap.size + 1) (w.alloc o) wr) : Lists w F (.returned (.slice A k c)) wr := by
  subst hF
  subst hl
  exact ⟨A, c, rfl, Row.of_own ho, below_past hb⟩

theorem infoInt : (Tryd.prog.info? 3).map (fun i => (i.zero, i.size, i.bytes)) = some (some (.int .i64 0), 1, 8) := by kernel_rfl
theorem Free_no {T S L G : Int} (h : rightB T S L G = false) (q : Option Addr) (w : World) : Calls Tryd.prog 12 #[.pointer q, .agg #[.int .i64 T, .int .i64 S, .int .i64 L, .int .u64 G]] w (Lists w []) := by
  obtain ⟨c_0, c_1, c_2, c_3⟩ := box4 w (.int .i64 T) (.int .i64 S) (.int .i64 L) (.int .u64 G) 24
  have H := Lib.hid h
  clear h
  go_enter Tryd.func12, Tryd.ntmps12
  go_wp2_with fail
  go_step3
  go_wp2_with fail
  refine (Right_no H.out _).mono ?_
  rintro e w' ⟨rfl, hb⟩
  go_wp2
  try rw [Exit.noGoto_ret]
  go_ret
  exact ⟨none, 0, rfl, Row.none_, (box_below _ _).trans (hb.mono (by simp))⟩

set_option maxHeartbeats 1000000 in
theorem Free_yes {T S L : Nat} {G : Int} (hr : rightB (T : Int) (S : Int) (L : Int) G = true) {p h n : Nat} {l : List Int} {w : World} (hM : Mem w p h n l) (hF : Fits l) : Calls Tryd.prog 12 #[.pointer (some ⟨p, 0, none⟩), .agg #[.int .i64 (T : Int), .int .i64 (S : Int), .int .i64 (L : Int), .int .u64 G]] w (Lists w (freeL T S L l)) := by
  obtain ⟨t1, t8, s1, s64, l1, l8⟩ := right_nat hr
  have HR := Lib.hid hr
  have HM := Lib.hid (hM.later (box_below w (.cells #[.int .i64 (T : Int), .int .i64 (S : Int), .int .i64 (L : Int), .int .u64 G] 24)))
  have HF := Lib.hid (fits_get hF)
  obtain ⟨i0, hi, hz0, hz1, hz2⟩ := info_parts infoInt
  obtain ⟨c_0, c_1, c_2, c_3⟩ := box4 w (.int .i64 (T : Int)) (.int .i64 (S : Int)) (.int .i64 (L : Int)) (.int .u64 G) 24
  have HL := Lib.hid fun (w : World) (hM : Mem w p h n l) => Load_any hM 3
  obtain ⟨x3, hx3⟩ : ∃ x, getI l 3 = x := ⟨_, rfl⟩
  have h3 := fits_get hF 3
  unfold freeL
  rw [hx3] at HL h3 ⊢
  obtain ⟨nx, hnx⟩ : ∃ f : Int → Int, f = fun i => getI l (atI T L i 5) := ⟨_, rfl⟩
  have HNX := Lib.hid (fun i => show getI l (atI T L i 5) = nx i by rw [hnx])
  rw [← hnx]
  have HN0 := Lib.hid (fun i => show 0 ≤ nx i by rw [hnx]; exact (fits_get hF _).1)
  obtain ⟨F, hFr⟩ : ∃ F, goF (S : Int) nx S [] (x3 % 4294967296) = F := ⟨_, rfl⟩
  rw [hFr]
  have HFR := Lib.hid hFr
  clear hr hM hF hx3 hnx hFr
  go_enter Tryd.func12, Tryd.ntmps12
  go_wp2_with fail
  go_step3
  go_wp2_with fail
  refine (Right_yes HR.out _).mono ?_
  rintro e w1 ⟨rfl, b1⟩
  simp only [World.size_alloc] at b1
  have B1 := Lib.hid (show Below (w.heap.size + 1) (w.alloc (.cells #[.int .i64 (T : Int), .int .i64 (S : Int), .int .i64 (L : Int), .int .u64 G] 24)) w1 from b1)
  have M1 := Lib.hid (HM.out.later (by simpa using B1.out))
  clear b1 c_0 c_1 c_2 c_3
  obtain ⟨c_0, c_1, c_2, c_3⟩ := box4_later B1.out
  go_wp2_with fail
  refine (HL.out _ M1.out).mono ?_
  rintro e w2 ⟨rfl, rfl⟩
  go_wp2_with fail
  refine (Field.Low_any x3 h3.1 h3.2 _).mono ?_
  rintro e w2 ⟨rfl, rfl⟩
  go_wp2_with fail
  go_step3
  have HX := Lib.hid (show 0 ≤ x3 % 4294967296 by omega)
  have hS64 := s64
  clear h3 t1 t8 s1 l1 l8 s64 c_0 c_1 c_2 c_3
  go_wp2
  go_loopw [5, 6] (fun lv bv wr => ∃ (k : Nat) (A : Option Addr) (c : Nat) (b : Int) (out : List Int), k ≤ S ∧ lv = .slice A k c ∧ bv = .int .u64 b ∧ 0 ≤ b ∧ wr.ownsRow (w.heap.size + 1) 3 1 (.slice A k c) k (flat (encZ .i64) out) ∧ k = out.length ∧ goF (S : Int) nx (S - k) out b = F ∧ Below (w.heap.size + 1) (w.alloc (.cells #[.int .i64 (T : Int), .int .i64 (S : Int), .int .i64 (L : Int), .int .u64 G] 24)) wr)
    (fun lv _ _ => S - lenV lv)
  case atStart => exact ⟨0, none, 0, _, [], Nat.zero_le _, rfl, rfl, HX.out, World.ownsRow_nil _ _ _ _, rfl, HFR.out, B1.out⟩
  case round =>
    obtain ⟨k, A, c, b, out, hk, rfl, rfl, hb0, ho, hlen, hgo, hb⟩ := hrel
    have HO := Lib.hid ho
    have HN := Lib.hid hlen
    have HG := Lib.hid hgo
    have HB := Lib.hid hb
    obtain ⟨c_0, c_1, c_2, c_3⟩ := box4_later hb
    clear ho hlen hgo hb
    by_cases hlt : k < S
    · by_cases hb1 : b = 0
      · have HE := Lib.hid (show F = out from HG.out.symm.trans (go_stop (by omega)))
        have hb2 : (b == 0) = true := by simpa using hb1
        go_wp2
        rw [Exit.noGoto_ret]
        go_ret
        exact ends HO.out HN.out HE.out HB.out
      · have hb2 : (b == 0) = false := by simpa using hb1
        by_cases hbS : (S : Int) < b
        · have HE := Lib.hid (show F = out from HG.out.symm.trans (go_stop (by omega)))
          go_wp2
          rw [Exit.noGoto_ret]
          go_ret
          exact ends HO.out HN.out HE.out HB.out
        · have hb3 : 1 ≤ b ∧ b ≤ 64 := by omega
          go_wp2
          clear c_0 c_1 c_2 c_3
          go_loopw [34] (fun jv wi => ∃ j : Nat, j ≤ k ∧ jv = .int .i64 j ∧ (∀ i, i < j → out[i]? ≠ some b) ∧ wr = wi)
            (fun jv _ => k - (intOf jv).toNat)
          case atStart => exact ⟨0, Nat.zero_le _, rfl, fun i h => by omega, rfl⟩
          case round =>
            obtain ⟨j, hj, rfl, hne, rfl⟩ := hrel
            have HNE := Lib.hid hne
            clear hne
            by_cases hjk : j < k
            · have hjl : j < out.length := by rw [← HN.out]; exact hjk
              obtain ⟨bl, o, rfl, _, hc⟩ := int_at (Row.of_own HO.out) hjl
              obtain ⟨y, hy⟩ : ∃ y, out[j]? = some y := ⟨_, List.getElem?_eq_getElem hjl⟩
              have c0 := hc j y hy
              have HY := Lib.hid hy
              clear hc hy hjl
              by_cases hyb : y = b
              · have hyb2 : (y == b) = true := by simpa using hyb
                have HE := Lib.hid (show F = out from HG.out.symm.trans (go_stop fun hh => hh.2.2 (hyb ▸ List.mem_of_getElem? HY.out)))
                clear hyb
                go_wp2
                rw [Exit.noGoto_ret]
                go_ret
                exact ends HO.out HN.out HE.out HB.out
              · have hyb2 : (y == b) = false := by simpa using hyb
                have HYB := Lib.hid hyb
                clear hyb
                go_wp2
                go_roundw
                case rel =>
                  refine ⟨j + 1, by omega, by go_num, fun i hi => ?_, trivial⟩
                  by_cases e : i = j
                  · subst e
                    rw [HY.out]
                    exact fun e => HYB.out (by simpa using e)
                  · exact HNE.out i (by omega)
                case measure => simp [intOf]; omega
            · have HJ := Lib.hid (show b ∉ out from fun hm => by
                obtain ⟨i, hi, e⟩ := List.mem_iff_getElem.1 hm
                have := HN.out
                exact HNE.out i (by omega) (by rw [List.getElem?_eq_getElem hi, e]))
              have HS := Lib.hid (show goF (S : Int) nx (S - (k + 1)) (out ++ [b]) (nx b) = F by
                rw [← HG.out, show S - k = (S - (k + 1)) + 1 by omega, go_step ⟨hb3.1, by omega, HJ.out⟩])
              clear HNE
              go_wp2_with (at_builtin; refine wpList_append_to _ (w.alloc (.cells #[.int .i64 (T : Int), .int .i64 (S : Int), .int .i64 (L : Int), .int .u64 G] 24)) rfl (.tmp 42) (.tmp 44) 40 rfl (w.heap.size + 1) 3 i0 _ 1 8 Tryd.underlying40 hi hz0 hz1 hz2 rfl (by decide) _ k _ rfl (HO.out.alloc _) ⟨wr.heap.size, 0, none⟩ 1 1 (flat (encZ .i64) [b]) rfl (by decide) rfl (cells_new _ _ _) (flat_oneCell (encZ_one _) _) (by simp only [maxLen]; omega) (by omega) (by have := size_past HB.out; simp; omega) ((HB.out).alloc (size_past HB.out) _) ?_; intro g2 cap2 w6 ho2 hg2 hlt2 hb2; have HO6 := Lib.hid ho2; have HP6 := Lib.hid (show Below (w.heap.size + 1) (w.alloc (.cells #[.int .i64 (T : Int), .int .i64 (S : Int), .int .i64 (L : Int), .int .u64 G] 24)) w6 from hb2); obtain ⟨c_0, c_1, c_2, c_3⟩ := box4_later HP6.out; clear ho2 hb2)
              refine (Plan.Succ_any T S L G b _).mono ?_
              rintro e w7 ⟨rfl, hb7⟩
              have HP7 := Lib.hid (past_later HP6.out hb7)
              have HO7 := Lib.hid (own_later HO6.out hb7)
              have HM7 := Lib.hid (HM.out.later (by simpa using HP7.out))
              clear hb7 c_0 c_1 c_2 c_3
              go_wp2_with fail
              refine (Load_any HM7.out _).mono ?_
              rintro e w8 ⟨rfl, rfl⟩
              rw [HNX.out]
              have HX2 := Lib.hid (HN0.out b)
              go_wp2
              go_roundw
              case rel => exact ⟨k + 1, _, cap2, nx b, out ++ [b], by omega, rfl, rfl, HX2.out, by rw [flat_append]; exact HO7.out, by rw [List.length_append, ← HN.out]; rfl, HS.out, HP7.out⟩
              case measure => simp [lenV]; omega
    · obtain rfl : k = S := by omega
      have HE := Lib.hid (show F = out by have := HG.out; rw [Nat.sub_self, go_zero] at this; exact this.symm)
      go_wp2
      try rw [Exit.noGoto_ret]
      go_ret
      exact ends HO.out HN.out HE.out HB.out
end Go.Proofs.YtcnbbflgccdfjaaDoor.Blank
