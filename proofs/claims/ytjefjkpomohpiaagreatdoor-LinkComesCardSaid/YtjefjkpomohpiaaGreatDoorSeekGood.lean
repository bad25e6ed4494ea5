/- The document's Good (package sundialref18): where it says yes, all chains rise, and whoever is in one without a mark is so in the one below. -/
import Derived.Test.YtjefjkpomohpiaaGreatDoorSeekKept
import Derived.Test.YtjefjkpomohpiaaGreatDoorSeekAloneMath
namespace Go.Proofs.YtjefjkpomohpiaaGreatDoor.SeekRef
set_option maxRecDepth 20000
open Go.ChangeShapes Go.WideShapes Go.RowKit PM CM KM Lay Ints Plan
set_option linter.unusedVariables false
set_option linter.unusedSimpArgs false

theorem right_nat {T N L : Nat} {G : Int} (h : rightB (T : Int) (N : Int) (L : Int) G = true) : 1 ≤ T ∧ T ≤ 8 ∧ 1 ≤ N ∧ N ≤ 64 ∧ 1 ≤ L ∧ L ≤ 8 := by
  have := right_is h
  omega
/-- One level is as it should be. -/
def Level (T L N : Int) (m : List Int) (h : Nat) : Prop := (chainI T L N m h).2 = true ∧ ∀ g : Nat, h = g + 1 → ∀ r ∈ (chainI T L N m h).1, freeB T L m h r = true → r ∈ (chainI T L N m g).1 ∧ freeB T L m g r = true
/-- What the document calls right, with the plan's numbers. -/
def Yes (T N L G : Int) (l : List Int) : Prop := ∃ T' N' L' : Nat, T = T' ∧ N = N' ∧ L = L' ∧ rightB T N L G = true ∧ l.length = wordsN T' N' L' ∧ GoodW T L N l
/-- The levels up to j are; the one below it is in the row. -/
def Levels (w1 : World) (T L N : Int) (l : List Int) (j : Nat) (bv : Value) (wr : World) : Prop :=
  ∃ (A : Option Addr) (n c : Nat) (bl : List Int), bv = .slice A n c ∧ n = bl.length ∧ n ≤ 1000000 ∧ Row wr wr.heap.size A (flat (encZ .u64) bl) ∧ (∀ g : Nat, j = g + 1 → bl = (chainI T L N l g).1) ∧ (∀ h : Nat, h < j → Level T L N l h)
/-- Done alone: what it finds at each level. -/
theorem finds_fun {T N L n : Nat} {dl sq : Int} (hn : 1544 ≤ n) (hT : T ≤ 8) (hN : N ≤ 64) (hL : L ≤ 8) {l : List Int} (hl : l.length = wordsN T N L) (hf : BM.Fits l) (hg : GoodW T L N l) :
    ∃ m s, ∃ R : Nat → Int × Int, Runs.alone (seekA T L) (seekT L dl sq) n l (anew L 0 0) = (m, s) ∧ s.st = 0 ∧ s.ps.reverse = (List.range L).map (fun h => (R h).1) ∧ s.ss.reverse = (List.range L).map (fun h => (R h).2) ∧ m.length = wordsN T N L ∧ BM.Fits m ∧
      (∀ g : Nat, findL (fun c => OM.ltK (keyI T L l c) (dl, sq)) (keptL T L N l g) 0 = R g) ∧ (∀ g : Nat, 0 ≤ (R g).1 ∧ (R g).1 < 18446744073709551616) ∧ ∀ g : Nat, g < L → wayI T L m (R g).1 g = (R g).2 ∧ keptL T L N m g = keptL T L N l g := by
  obtain ⟨m, s, h1, h2, h3, h4, h5, h6, h7⟩ := finds_all (n := n) (dl := dl) (sq := sq) hn hT hN hL hl hf hg
  have hw := fun g : Nat => find_where (fun c => OM.ltK (keyI T L l c) (dl, sq)) (keptL T L N l g) 0
  have hrf := fun g : Nat => kept_refs (T := (T : Int)) (L := (L : Int)) (N := N) hf (g : Int)
  have he : ∃ R : Nat → Int × Int, ∀ g : Nat, resL T L N (fun c => OM.ltK (keyI T L l c) (dl, sq)) l g = R g := ⟨_, fun g => rfl⟩
  obtain ⟨R, hR⟩ := he
  simp only [hR] at h3 h4 h7
  refine ⟨m, s, R, h1, h2, h3, h4, h5, h6, fun g => hR g, fun g => ?_, h7⟩
  rw [← hR g]
  rcases hw g with q | ⟨q, -⟩
  · show 0 ≤ (findL _ _ _).1 ∧ _
    rw [show (resL T L N (fun c => OM.ltK (keyI T L l c) (dl, sq)) l g).1 = 0 from q]
    exact ⟨by rw [q]; exact Int.le_refl _, by decide⟩
  · exact (hrf g _ q).1
theorem Good_wrong {T N L G : Int} (h : rightB T N L G = false) (A : Option Addr) (n c : Nat) (w : World) : Calls Tryz.prog 5 #[.slice A n c, .agg #[.int .i64 T, .int .i64 N, .int .i64 L, .int .u64 G]] w fun e w' => e = .returned (.bool false) ∧ Below w.heap.size w w' := by
  have HR := Lib.hid fun W => PlanRef.Right_no h W
  obtain ⟨c_0, c_1, c_2, c_3⟩ := box4 w (.int .i64 T) (.int .i64 N) (.int .i64 L) (.int .u64 G) 24
  clear h
  go_enter Tryz.func5, Tryz.ntmps5
  go_wp2_with fail
  refine (HR.out _).mono ?_
  rintro e w' ⟨rfl, b1⟩
  go_wp2
  go_ret
  exact ⟨rfl, (box_below _ _).trans (b1.mono (by simp))⟩
set_option maxHeartbeats 4000000 in
theorem Good_right {A : Option Addr} {l : List Int} {n : Nat} (c : Nat) {w : World} (hn : n = l.length) (hl : n ≤ 1000000) (hR : Row w w.heap.size A (flat (encZ .u64) l)) (hf : BM.Fits l) {T N L : Nat} {G : Int} (hr : rightB (T : Int) (N : Int) (L : Int) G = true) :
    Calls Tryz.prog 5 #[.slice A n c, .agg #[.int .i64 (T : Int), .int .i64 (N : Int), .int .i64 (L : Int), .int .u64 G]] w fun e w' => ∃ b, e = .returned (.bool b) ∧ Below w.heap.size w w' ∧ (b = true → l.length = wordsN T N L ∧ GoodW T L N l) := by
  obtain ⟨-, t8, -, s64, -, l8⟩ := right_nat hr
  have HRI := Lib.hid fun W => PlanRef.Right_yes hr W
  have HWD := Lib.hid (show ∀ W, Calls Tryz.prog 24 #[.agg #[.int .i64 (T : Int), .int .i64 (N : Int), .int .i64 (L : Int), .int .u64 G]] W fun e w' => e = .returned (.int .i64 ((wordsN T N L : Nat) : Int)) ∧ Below W.heap.size W w' from fun W => by rw [← words_cast (T := T) (S := N) (L := L) (by omega) (by omega) (by omega)]; exact PlanRef.Words_any T N L G W)
  have HCH := Lib.hid (show ∀ (j : Nat) W, Below (w.heap.size + 1) (w.alloc (.cells #[.int .i64 (T : Int), .int .i64 (N : Int), .int .i64 (L : Int), .int .u64 G] 24)) W → Calls Tryz.prog 8 #[.slice A n c, .agg #[.int .i64 (T : Int), .int .i64 (N : Int), .int .i64 (L : Int), .int .u64 G], .int .i64 j] W (Chained W (chainI T L N l j)) from fun j W hb => Chain_any c hn hl (hR.later (below_past hb)) hf s64 j)
  have HOUT := Lib.hid (show ∀ (j : Nat) (r : Int) W, (0 ≤ r ∧ r < 18446744073709551616) → Below (w.heap.size + 1) (w.alloc (.cells #[.int .i64 (T : Int), .int .i64 (N : Int), .int .i64 (L : Int), .int .u64 G] 24)) W → ∀ b, (!freeB T L l j r) = b → Calls Tryz.prog 25 #[.slice A n c, .agg #[.int .i64 (T : Int), .int .i64 (N : Int), .int .i64 (L : Int), .int .u64 G], .int .u64 r, .int .i64 j] W fun e w' => e = .returned (.bool b) ∧ Below W.heap.size W w' from fun j r W hr hb b e => Out_is c hn hl (hR.later (below_past hb)) hf T N L G j hr e)
  have HRF := Lib.hid (show ∀ j : Nat, Refs N (chainI T L N l j).1 ∧ (chainI T L N l j).1.length ≤ N from fun j => ⟨(chain_refs hf j).1, chain_few hf j⟩)
  have HEND := Lib.hid (show (∀ h : Nat, h < L → (chainI T L N l h).2 = true ∧ ∀ g : Nat, h = g + 1 → ∀ r ∈ (chainI T L N l h).1, freeB T L l h r = true → r ∈ (chainI T L N l g).1 ∧ freeB T L l g r = true) → GoodW T L N l from fun h k hk => h k (by omega))
  generalize chainI (T : Int) (L : Int) (N : Int) l = ch at HCH HRF HEND
  generalize freeB (T : Int) (L : Int) l = fr at HOUT HEND
  have HL := Lib.hid hn
  clear hr hR hf hn
  obtain ⟨c_0, c_1, c_2, c_3⟩ := box4 w (.int .i64 T) (.int .i64 N) (.int .i64 L) (.int .u64 G) 24
  go_enter Tryz.func5, Tryz.ntmps5
  go_wp2_with fail
  refine (HRI.out _).mono ?_
  rintro e w1 ⟨rfl, b1⟩
  have HB1 := Lib.hid (show Below (w.heap.size + 1) (w.alloc (.cells #[.int .i64 (T : Int), .int .i64 (N : Int), .int .i64 (L : Int), .int .u64 G] 24)) w1 from by rwa [World.size_alloc] at b1)
  clear b1 c_0 c_1 c_2 c_3
  obtain ⟨c_0, c_1, c_2, c_3⟩ := box4_later HB1.out
  go_wp2_with fail
  refine (HWD.out _).mono ?_
  rintro e w2 ⟨rfl, b2⟩
  have HB2 := Lib.hid (show Below (w.heap.size + 1) (w.alloc (.cells #[.int .i64 (T : Int), .int .i64 (N : Int), .int .i64 (L : Int), .int .u64 G] 24)) w2 from HB1.out.trans (b2.mono (by have := HB1.out.size; rwa [World.size_alloc] at this)))
  clear b2 c_0 c_1 c_2 c_3
  by_cases hw : n = wordsN T N L
  · have hw2 : ((n : Int) != ((wordsN T N L : Nat) : Int)) = false := by rw [hw]; simp
    have HWN := Lib.hid hw
    clear hw
    obtain ⟨WN, hWN⟩ : ∃ WN, WN = wordsN T N L := ⟨_, rfl⟩
    rw [← hWN] at hw2 ⊢
    clear hWN
    go_wp2
    go_loopw [5, 6] (fun bv jv wr => ∃ (j : Nat) (A1 : Option Addr) (n1 d1 : Nat) (bl : List Int), j ≤ L ∧ jv = .int .i64 j ∧ bv = .slice A1 n1 d1 ∧ n1 = bl.length ∧ n1 ≤ 1000000 ∧ Row wr wr.heap.size A1 (flat (encZ .u64) bl) ∧ (∀ g : Nat, j = g + 1 → bl = (ch g).1) ∧
        (∀ h : Nat, h < j → (ch h).2 = true ∧ ∀ g : Nat, h = g + 1 → ∀ r ∈ (ch h).1, fr h r = true → r ∈ (ch g).1 ∧ fr g r = true) ∧ Below (w.heap.size + 1) (w.alloc (.cells #[.int .i64 (T : Int), .int .i64 (N : Int), .int .i64 (L : Int), .int .u64 G] 24)) wr)
      (fun _ jv _ => L - (intOf jv).toNat)
    case atStart => exact ⟨0, none, 0, 0, [], Nat.zero_le _, rfl, rfl, rfl, by omega, Row.none_, fun g e => by omega, fun h e => by omega, HB2.out⟩
    case round =>
      obtain ⟨j, A1, n1, d1, bl, hj, rfl, rfl, hn1, hm1, hr1, hbl, hlv, hb⟩ := hrel
      have HB := Lib.hid hb
      have HV := Lib.hid hlv
      have HBL := Lib.hid (And.intro hn1 (And.intro hr1 hbl))
      obtain ⟨c_0, c_1, c_2, c_3⟩ := box4_later hb
      clear hn1 hr1 hbl hlv
      by_cases hlt : j < L
      · have hil : (j : Int) < (L : Int) := by omega
        clear hb
        go_wp2_with fail
        refine (HCH.out j _ HB.out).mono ?_
        rintro e w3 ⟨A2, n2, d2, rfl, h2, r2, -, b3⟩
        have HB3 := Lib.hid (show Below (w.heap.size + 1) (w.alloc (.cells #[.int .i64 (T : Int), .int .i64 (N : Int), .int .i64 (L : Int), .int .u64 G] 24)) w3 from HB.out.trans (b3.mono (by have := HB.out.size; rwa [World.size_alloc] at this)))
        have HR1 := Lib.hid (HBL.out.2.1.later b3)
        have HR2 := Lib.hid r2
        have HN2 := Lib.hid h2
        have hn2 : n2 ≤ 64 := by have := (HRF.out j).2; omega
        clear c_0 c_1 c_2 c_3 h2 r2 b3
        cases hok : (ch j).2 with
        | false =>
          clear hok
          go_wp2
          go_ret
          exact ⟨false, rfl, below_past HB3.out, fun e => by cases e⟩
        | true =>
          have HOK := Lib.hid hok
          clear hok
          go_wp2
          go_loopw [9] (fun iv wr => ∃ i : Nat, i ≤ n2 ∧ iv = .int .i64 i ∧ Row wr wr.heap.size A1 (flat (encZ .u64) bl) ∧ Row wr wr.heap.size A2 (flat (encZ .u64) (ch j).1) ∧ Below (w.heap.size + 1) (w.alloc (.cells #[.int .i64 (T : Int), .int .i64 (N : Int), .int .i64 (L : Int), .int .u64 G] 24)) wr ∧ ∀ g : Nat, j = g + 1 → ∀ r ∈ (ch j).1.take i, fr j r = true → r ∈ (ch g).1 ∧ fr g r = true)
            (fun iv _ => n2 - (intOf iv).toNat)
          case atStart => exact ⟨0, Nat.zero_le _, rfl, HR1.out, HR2.out, HB3.out, fun g e r hr => by simp at hr⟩
          case round =>
            obtain ⟨i, hi, rfl, hr1, hr2, hb, hall⟩ := hrel
            have HBI := Lib.hid hb
            have HRI1 := Lib.hid hr1
            have HRI2 := Lib.hid hr2
            have HALL := Lib.hid hall
            obtain ⟨c_0, c_1, c_2, c_3⟩ := box4_later hb
            clear hr1 hall
            by_cases hil2 : i < n2
            · have hin2 : (i : Int) < (n2 : Int) := by omega
              by_cases hj0 : j = 0
              · have hpos : ¬ (0 : Int) < (j : Int) := by omega
                have HTK := Lib.hid (show ∀ h : Nat, h < j + 1 → (ch h).2 = true ∧ ∀ g : Nat, h = g + 1 → ∀ r ∈ (ch h).1, fr h r = true → r ∈ (ch g).1 ∧ fr g r = true from fun h hh => by
                  by_cases e : h = j
                  · subst e
                    exact ⟨HOK.out, fun g eg r hr hfr => by omega⟩
                  · exact HV.out h (by omega))
                clear hr2 hb
                go_wp2
                go_roundw
                case rel => exact ⟨j + 1, A2, n2, d2, (ch j).1, by omega, by go_num, rfl, HN2.out, by omega, HRI2.out, fun g e => by rw [show g = j by omega], HTK.out, HBI.out⟩
                case measure => simp [intOf]; omega
              · have hpos : (0 : Int) < (j : Int) := by omega
                obtain ⟨g, hg⟩ : ∃ g, j = g + 1 := ⟨j - 1, by omega⟩
                have HG := Lib.hid hg
                have hwg : IntKind.i64.wrap ((j : Int) - 1) = (g : Int) := by rw [hg, show ((g + 1 : Nat) : Int) - 1 = (g : Int) by omega]; exact IntWalk.i64_in _ ⟨by omega, by omega⟩
                obtain ⟨y, hy⟩ : ∃ y, (ch j).1[i]? = some y := ⟨_, List.getElem?_eq_getElem (by have := HN2.out; omega)⟩
                have HY := Lib.hid ((HRF.out j).1 y (List.mem_of_getElem? hy)).1
                have HTS := Lib.hid (show (ch j).1.take (i + 1) = (ch j).1.take i ++ [y] from by rw [List.take_add_one, hy]; rfl)
                obtain ⟨b0, o0, ea, -, hc0⟩ := int_at hr2 (show i < (ch j).1.length by have := HN2.out; omega)
                subst ea
                have q0 := hc0 i y hy
                have C_0 := fun p : After wr => p.cell c_0
                have C_1 := fun p : After wr => p.cell c_1
                have C_2 := fun p : After wr => p.cell c_2
                have C_3 := fun p : After wr => p.cell c_3
                have Q_0 := fun p : After wr => p.cell q0
                have HPQ := Lib.hid (show ∀ p : After wr, Below (w.heap.size + 1) (w.alloc (.cells #[.int .i64 (T : Int), .int .i64 (N : Int), .int .i64 (L : Int), .int .u64 G] 24)) p.x from fun p => HBI.out.trans (p.ok.mono (by have := HBI.out.size; rwa [World.size_alloc] at this)))
                have HBG := Lib.hid (HBL.out.2.2 g hg)
                have hbg : True := trivial
                have hbl2 : True := trivial
                have HV2 := Lib.hid (show ∀ W, Below (w.heap.size + 1) (w.alloc (.cells #[.int .i64 (T : Int), .int .i64 (N : Int), .int .i64 (L : Int), .int .u64 G] 24)) W → True from fun _ _ => trivial)
                clear hc0 hy q0 c_0 c_1 c_2 c_3 hg hj0
                cases hfy : fr j y with
                | false =>
                  have HV1 := Lib.hid fun W hb => HOUT.out j y W HY.out hb true (by rw [hfy]; rfl)
                  have HFY := Lib.hid hfy
                  have hyc : True := trivial
                  have hgy : True := trivial
                  have HT2 := Lib.hid (show ∀ g : Nat, j = g + 1 → ∀ r ∈ (ch j).1.take (i + 1), fr j r = true → r ∈ (ch g).1 ∧ fr g r = true from fun g' eg r hr hfr => by
                    obtain rfl : g' = g := by have := HG.out; omega
                    rw [HTS.out, List.mem_append, List.mem_singleton] at hr
                    rcases hr with hr | rfl
                    · exact HALL.out _ eg r hr hfr
                    · rw [HFY.out] at hfr; cases hfr)
                  clear hfy hyc hr2 hb hgy hbg hbl2
                  go_wp2
                  refine wp_region_after mixed (by kernel_rfl) ?_
                  repeat (first | go_big_quiet_step ((first | (with_reducible exact calls_after (HV1.out _ (HPQ.out _))) | (with_reducible exact calls_after_same (HH.out _)) | (with_reducible exact calls_after (HV2.out _ (HPQ.out _))))) | quiet_step ((first | (with_reducible exact calls_after (HV1.out _ (HPQ.out _))) | (with_reducible exact calls_after_same (HH.out _)) | (with_reducible exact calls_after (HV2.out _ (HPQ.out _))))))
                  refine wpQuiet_nil ?_
                  intro _ hw'
                  obtain ⟨pq, hw''⟩ := hw'
                  subst hw''
                  have hq := pq.ok
                  have HQ := Lib.hid (And.intro (HPQ.out pq) (And.intro (HRI1.out.later hq) (HRI2.out.later hq)))
                  generalize pq.x = wq at hq HQ ⊢
                  go_wp2
                  go_roundw
                  case rel => exact ⟨i + 1, by omega, by go_num, HQ.out.2.1, HQ.out.2.2, HQ.out.1, HT2.out⟩
                  case measure => simp [intOf]; omega
                | true =>
                  have HV1 := Lib.hid fun W hb => HOUT.out j y W HY.out hb false (by rw [hfy]; rfl)
                  by_cases hyc : y ∈ bl
                  · have HH := Lib.hid fun p : After wr => Has_is (c := d1) (decide_eq_true hyc) HBL.out.1 hm1 (HRI1.out.after p)
                    have HYC := Lib.hid hyc
                    cases hgy : fr g y with
                    | false =>
                      have HV2 := Lib.hid fun W hb => HOUT.out g y W HY.out hb true (by rw [hgy]; rfl)
                      clear hfy hyc hr2 hb hgy hbg hbl2
                      go_wp2
                      refine wp_region_after mixed (by kernel_rfl) ?_
                      repeat (first | go_big_quiet_step ((first | (with_reducible exact calls_after (HV1.out _ (HPQ.out _))) | (with_reducible exact calls_after_same (HH.out _)) | (with_reducible exact calls_after (HV2.out _ (HPQ.out _))))) | quiet_step ((first | (with_reducible exact calls_after (HV1.out _ (HPQ.out _))) | (with_reducible exact calls_after_same (HH.out _)) | (with_reducible exact calls_after (HV2.out _ (HPQ.out _))))))
                      refine wpQuiet_nil ?_
                      intro _ hw'
                      obtain ⟨pq, hw''⟩ := hw'
                      subst hw''
                      have HQ := Lib.hid (HPQ.out pq)
                      generalize pq.x = wq at HQ ⊢
                      go_wp2
                      go_ret
                      exact ⟨false, rfl, below_past HQ.out, fun e => by cases e⟩
                    | true =>
                      have HV2 := Lib.hid fun W hb => HOUT.out g y W HY.out hb false (by rw [hgy]; rfl)
                      have HGY := Lib.hid hgy
                      have HT2 := Lib.hid (show ∀ g : Nat, j = g + 1 → ∀ r ∈ (ch j).1.take (i + 1), fr j r = true → r ∈ (ch g).1 ∧ fr g r = true from fun g' eg r hr hfr => by
                        obtain rfl : g' = g := by have := HG.out; omega
                        rw [HTS.out, List.mem_append, List.mem_singleton] at hr
                        rcases hr with hr | rfl
                        · exact HALL.out _ eg r hr hfr
                        · exact ⟨by rw [← HBG.out]; exact HYC.out, HGY.out⟩)
                      clear hfy hyc hr2 hb hgy hbg hbl2
                      go_wp2
                      refine wp_region_after mixed (by kernel_rfl) ?_
                      repeat (first | go_big_quiet_step ((first | (with_reducible exact calls_after (HV1.out _ (HPQ.out _))) | (with_reducible exact calls_after_same (HH.out _)) | (with_reducible exact calls_after (HV2.out _ (HPQ.out _))))) | quiet_step ((first | (with_reducible exact calls_after (HV1.out _ (HPQ.out _))) | (with_reducible exact calls_after_same (HH.out _)) | (with_reducible exact calls_after (HV2.out _ (HPQ.out _))))))
                      refine wpQuiet_nil ?_
                      intro _ hw'
                      obtain ⟨pq, hw''⟩ := hw'
                      subst hw''
                      have hq := pq.ok
                      have HQ := Lib.hid (And.intro (HPQ.out pq) (And.intro (HRI1.out.later hq) (HRI2.out.later hq)))
                      generalize pq.x = wq at hq HQ ⊢
                      go_wp2
                      go_roundw
                      case rel => exact ⟨i + 1, by omega, by go_num, HQ.out.2.1, HQ.out.2.2, HQ.out.1, HT2.out⟩
                      case measure => simp [intOf]; omega
                  · have HH := Lib.hid fun p : After wr => Has_is (c := d1) (decide_eq_false hyc) HBL.out.1 hm1 (HRI1.out.after p)
                    have hgy : True := trivial
                    clear hfy hyc hr2 hb hgy hbg hbl2
                    go_wp2
                    refine wp_region_after mixed (by kernel_rfl) ?_
                    repeat (first | go_big_quiet_step ((first | (with_reducible exact calls_after (HV1.out _ (HPQ.out _))) | (with_reducible exact calls_after_same (HH.out _)) | (with_reducible exact calls_after (HV2.out _ (HPQ.out _))))) | quiet_step ((first | (with_reducible exact calls_after (HV1.out _ (HPQ.out _))) | (with_reducible exact calls_after_same (HH.out _)) | (with_reducible exact calls_after (HV2.out _ (HPQ.out _))))))
                    refine wpQuiet_nil ?_
                    intro _ hw'
                    obtain ⟨pq, hw''⟩ := hw'
                    subst hw''
                    have HQ := Lib.hid (HPQ.out pq)
                    generalize pq.x = wq at HQ ⊢
                    go_wp2
                    go_ret
                    exact ⟨false, rfl, below_past HQ.out, fun e => by cases e⟩
            · obtain rfl : i = n2 := by omega
              have HTK := Lib.hid (show ∀ h : Nat, h < j + 1 → (ch h).2 = true ∧ ∀ g : Nat, h = g + 1 → ∀ r ∈ (ch h).1, fr h r = true → r ∈ (ch g).1 ∧ fr g r = true from fun h hh => by
                by_cases e : h = j
                · subst e
                  exact ⟨HOK.out, fun g eg r hr hfr => HALL.out g eg r (by rw [List.take_of_length_le (by have := HN2.out; omega)]; exact hr) hfr⟩
                · exact HV.out h (by omega))
              clear hr2 hb
              go_wp2
              go_roundw
              case rel => exact ⟨j + 1, A2, i, d2, (ch j).1, by omega, by go_num, rfl, HN2.out, by omega, HRI2.out, fun g e => by rw [show g = j by omega], HTK.out, HBI.out⟩
              case measure => simp [intOf]; omega
      · obtain rfl : j = L := by omega
        have HE := Lib.hid (HEND.out HV.out)
        have HWL := Lib.hid (HL.out.symm.trans HWN.out)
        clear hb
        go_wp2
        go_ret
        exact ⟨true, rfl, below_past HB.out, fun _ => ⟨HWL.out, HE.out⟩⟩
  · have hw2 : ((n : Int) != ((wordsN T N L : Nat) : Int)) = true := by simpa using (fun e => hw (by omega) : ¬ (n : Int) = ((wordsN T N L : Nat) : Int))
    generalize wordsN T N L = WN at hw2 hw ⊢
    go_wp2
    go_ret
    exact ⟨false, rfl, below_past HB2.out, fun e => by cases e⟩
theorem Good_else {A : Option Addr} {n : Nat} (c : Nat) {w : World} {T N L : Nat} {G : Int} (hr : rightB (T : Int) (N : Int) (L : Int) G = true) (hl : n ≤ maxLen) (hw : ¬ n = wordsN T N L) : Calls Tryz.prog 5 #[.slice A n c, .agg #[.int .i64 (T : Int), .int .i64 (N : Int), .int .i64 (L : Int), .int .u64 G]] w fun e w' => e = .returned (.bool false) ∧ Below w.heap.size w w' := by
  obtain ⟨-, t8, -, s64, -, l8⟩ := right_nat hr
  have HRI := Lib.hid fun W => PlanRef.Right_yes hr W
  have HWD := Lib.hid (show ∀ W, Calls Tryz.prog 24 #[.agg #[.int .i64 (T : Int), .int .i64 (N : Int), .int .i64 (L : Int), .int .u64 G]] W fun e w' => e = .returned (.int .i64 ((wordsN T N L : Nat) : Int)) ∧ Below W.heap.size W w' from fun W => by rw [← words_cast (T := T) (S := N) (L := L) (by omega) (by omega) (by omega)]; exact PlanRef.Words_any T N L G W)
  have hw2 : ((n : Int) != ((wordsN T N L : Nat) : Int)) = true := by simpa using (fun e => hw (by omega) : ¬ (n : Int) = ((wordsN T N L : Nat) : Int))
  generalize wordsN T N L = WN at hw2 hw HWD
  unfold maxLen at hl
  clear hr
  obtain ⟨c_0, c_1, c_2, c_3⟩ := box4 w (.int .i64 T) (.int .i64 N) (.int .i64 L) (.int .u64 G) 24
  go_enter Tryz.func5, Tryz.ntmps5
  go_wp2_with fail
  refine (HRI.out _).mono ?_
  rintro e w1 ⟨rfl, b1⟩
  have HB1 := Lib.hid (show Below (w.heap.size + 1) (w.alloc (.cells #[.int .i64 (T : Int), .int .i64 (N : Int), .int .i64 (L : Int), .int .u64 G] 24)) w1 from by rwa [World.size_alloc] at b1)
  clear b1 c_0 c_1 c_2 c_3
  obtain ⟨c_0, c_1, c_2, c_3⟩ := box4_later HB1.out
  go_wp2_with fail
  refine (HWD.out _).mono ?_
  rintro e w2 ⟨rfl, b2⟩
  have HB2 := Lib.hid (show Below (w.heap.size + 1) (w.alloc (.cells #[.int .i64 (T : Int), .int .i64 (N : Int), .int .i64 (L : Int), .int .u64 G] 24)) w2 from HB1.out.trans (b2.mono (by have := HB1.out.size; rwa [World.size_alloc] at this)))
  clear b2 c_0 c_1 c_2 c_3
  go_wp2
  go_ret
  exact ⟨rfl, below_past HB2.out⟩
/-- What Good tells, of any list and plan. -/
theorem Good_all {A : Option Addr} {l : List Int} {n : Nat} (c : Nat) {w : World} (hn : n = l.length) (hl : n ≤ maxLen) (hR : Row w w.heap.size A (flat (encZ .u64) l)) (hf : BM.Fits l) (T N L G : Int) :
    Calls Tryz.prog 5 #[.slice A n c, .agg #[.int .i64 T, .int .i64 N, .int .i64 L, .int .u64 G]] w fun e w' => ∃ b, e = .returned (.bool b) ∧ Below w.heap.size w w' ∧ (b = true → ∃ T' N' L' : Nat, T = T' ∧ N = N' ∧ L = L' ∧ rightB T N L G = true ∧ l.length = wordsN T' N' L' ∧ GoodW T' L' N' l) := by
  cases h : rightB T N L G with
  | false => exact (Good_wrong h A n c w).mono fun e w' ⟨h1, h2⟩ => ⟨false, h1, h2, fun e => by cases e⟩
  | true =>
    have hr := right_is h
    obtain ⟨a, rfl⟩ := Int.eq_ofNat_of_zero_le (show 0 ≤ T by have := hr.1; omega)
    obtain ⟨b, rfl⟩ := Int.eq_ofNat_of_zero_le (show 0 ≤ N by have := hr.2.2.1; omega)
    obtain ⟨d, rfl⟩ := Int.eq_ofNat_of_zero_le (show 0 ≤ L by have := hr.2.2.2.2.1; omega)
    by_cases hw : n = wordsN a b d
    · have h4 := words_small (T := a) (S := b) (L := d) (by omega) (by omega) (by omega)
      exact (Good_right c hn (by omega) hR hf h).mono fun e w' ⟨b', h1, h2, h3⟩ => ⟨b', h1, h2, fun e => ⟨a, b, d, rfl, rfl, rfl, rfl, (h3 e).1, (h3 e).2⟩⟩
    · exact (Good_else c h hl hw).mono fun e w' ⟨h1, h2⟩ => ⟨false, h1, h2, fun e => by cases e⟩
end Go.Proofs.YtjefjkpomohpiaaGreatDoor.SeekRef
