import Derived.Test.YtlagghghbpbcbaaGreatDoorStartComesAllP28
import Derived.Deep.DeepCutAuto
import Derived.Test.YtlagghghbpbcbaaGreatDoorStartComesAllP1
import Derived.Test.YtlagghghbpbcbaaGreatDoorStartComesAllP4
/- The document's Chain (package sundialref18), held to plain lists. -/
namespace Go.Proofs.YtlagghghbpbcbaaGreatDoor.SeekRef
set_option maxRecDepth 20000
open Go.ChangeShapes Go.WideShapes Go.RowKit PM CM KM Lay Ints Plan
set_option linter.unusedVariables false
set_option linter.unusedSimpArgs false

/-- References of slots that there are. -/
def Refs (N : Nat) (l : List Int) : Prop := ∀ c ∈ l, (0 ≤ c ∧ c < 18446744073709551616) ∧ 1 ≤ idx c ∧ idx c ≤ (N : Int)
theorem refs_snoc {N : Nat} {l : List Int} {r : Int} (h : Refs N l) (hr : 0 ≤ r ∧ r < 18446744073709551616) (h0 : ¬ idx r = 0) (h1 : idx r ≤ (N : Int)) : Refs N (l ++ [r]) := by
  intro c hc
  rw [List.mem_append, List.mem_singleton] at hc
  have := idx_lo r
  rcases hc with hc | rfl
  · exact h c hc
  · exact ⟨hr, by omega, h1⟩
theorem refs_few {N : Nat} {key : Int → OM.Key} {l : List Int} (h : Refs N l) (hr : Rises key l) (hk : ∀ a b, idx a = idx b → key a = key b) : l.length ≤ N := rises_few hr hk fun c hc => (h c hc).2
theorem plain_fits {x : Int} (h : 0 ≤ x ∧ x < 18446744073709551616) : 0 ≤ plainI x ∧ plainI x < 18446744073709551616 := by unfold plainI; omega
theorem chainF_refs {nx : Int → Int} {key : Int → OM.Key} {N : Nat} (hn : ∀ r, 0 ≤ nx r ∧ nx r < 18446744073709551616) : ∀ (f : Nat) (out : List Int) (r : Int), Refs N out → Rises key out → (0 ≤ r ∧ r < 18446744073709551616) → Refs N (chainF nx key N f out r).1 ∧ Rises key (chainF nx key N f out r).1
  | 0, out, r, h, hr, _ => ⟨h, hr⟩
  | f + 1, out, r, h, hr, h0 => by
    unfold chainF
    split
    · exact ⟨h, hr⟩
    · split
      · exact ⟨h, hr⟩
      · obtain ⟨h1, h2⟩ := bars_no (by simpa using ‹¬ bars key N out r = true›)
        exact chainF_refs hn f _ _ (refs_snoc h h0 ‹_› h1) (rises_snoc hr h2) (plain_fits (hn r))
theorem chain_refs {T L : Int} {N : Nat} {l : List Int} (hf : BM.Fits l) (h : Int) : Refs N (chainI T L N l h).1 ∧ Rises (keyI T L l) (chainI T L N l h).1 := by
  unfold chainI
  split
  · exact ⟨fun c hc => (by cases hc), List.Pairwise.nil⟩
  · exact chainF_refs (fun r => BM.fits_get hf _) _ _ _ (fun c hc => (by cases hc)) List.Pairwise.nil (BM.fits_get hf _)
theorem chain_few {T L : Int} {N : Nat} {l : List Int} (hf : BM.Fits l) (h : Int) : (chainI T L N l h).1.length ≤ N := refs_few (chain_refs hf h).1 (chain_refs hf h).2 fun a b e => key_same e
theorem chainF_none {nx : Int → Int} {key : Int → OM.Key} {N : Int} {f : Nat} {out : List Int} {r : Int} (h : idx r = 0) : chainF nx key N (f + 1) out r = (out, decide (r = 0)) := by unfold chainF; rw [if_pos h]
theorem chainF_bars {nx : Int → Int} {key : Int → OM.Key} {N : Int} {f : Nat} {out : List Int} {r : Int} (h : ¬ idx r = 0) (hb : bars key N out r = true) : chainF nx key N (f + 1) out r = (out, false) := by unfold chainF; rw [if_neg h, if_pos hb]
theorem chainF_on {nx : Int → Int} {key : Int → OM.Key} {N : Int} {f : Nat} {out : List Int} {r : Int} (h : ¬ idx r = 0) (hb : bars key N out r = false) : chainF nx key N (f + 1) out r = chainF nx key N f (out ++ [r]) (plainI (nx r)) := by rw [chainF, if_neg h, if_neg (by rw [hb]; simp)]
theorem bars_big {key : Int → OM.Key} {N : Int} {out : List Int} {r : Int} (h : N < idx r) : bars key N out r = true := by unfold bars; simp [h]
theorem bars_nil {key : Int → OM.Key} {N : Int} {r : Int} (h : ¬ N < idx r) : bars key N [] r = false := by unfold bars; simp [h]
theorem bars_last {key : Int → OM.Key} {N : Int} {out : List Int} {r q : Int} (h : ¬ N < idx r) (hq : out.getLast? = some q) : bars key N out r = !OM.ltK (key q) (key r) := by unfold bars; simp [h, hq]

/-- What a chain ends in: the list in new memory, and whether it is whole. -/
def Chained (w : World) (x : List Int × Bool) (e : Ending) (w' : World) : Prop := ∃ A n c, e = .returned (.tuple #[.slice A n c, .bool x.2]) ∧ n = x.1.length ∧ Row w' w'.heap.size A (flat (encZ .u64) x.1) ∧ (∀ a, A = some a → w.heap.size ≤ a.block) ∧ Below w.heap.size w w'
def lenV : Value → Nat
  | .slice _ n _ => n
  | _ => 0
/-- References of slots that there are, of any count. -/
def RefsI (N : Int) (l : List Int) : Prop := ∀ c ∈ l, (0 ≤ c ∧ c < 18446744073709551616) ∧ 1 ≤ idx c ∧ idx c ≤ N
theorem refsI_snoc {N : Int} {l : List Int} {r : Int} (h : RefsI N l) (hr : 0 ≤ r ∧ r < 18446744073709551616) (h0 : ¬ idx r = 0) (h1 : idx r ≤ N) : RefsI N (l ++ [r]) := by
  intro c hc
  rw [List.mem_append, List.mem_singleton] at hc
  have := idx_lo r
  rcases hc with hc | rfl
  · exact h c hc
  · exact ⟨hr, by omega, h1⟩
theorem refsI_few {N : Int} {key : Int → OM.Key} {l : List Int} (h : RefsI N l) (hr : Rises key l) (hk : ∀ a b, idx a = idx b → key a = key b) : l.length ≤ N.toNat ∧ l.length ≤ 2147483647 := by
  refine ⟨rises_few hr hk fun c hc => ?_, rises_few hr hk fun c hc => ?_⟩
  · have := (h c hc).2
    omega
  · have h1 := h c hc
    have : idx c ≤ 2147483647 := by unfold idx; omega
    exact ⟨h1.2.1, this⟩
/-- Amid the loop. -/
def Amidst (w0 : World) (B : Nat) (nx : Int → Int) (key : Int → OM.Key) (N : Int) (x : List Int × Bool) (ov rv : Value) (wr : World) : Prop :=
  ∃ (out : List Int) (n : Nat) (r : Int), rv = .int .u64 r ∧ n = out.length ∧ wr.ownsRow B 22 1 ov n (flat (encZ .u64) out) ∧ Below B w0 wr ∧ (0 ≤ r ∧ r < 18446744073709551616) ∧ RefsI N out ∧ Rises key out ∧ chainF nx key N (N.toNat + 1 - n) out r = x
set_option maxHeartbeats 2000000 in
theorem Chain_all {A : Option Addr} {l : List Int} {n : Nat} (c : Nat) {w : World} (hn : n = l.length) (hl : n ≤ 9223372036854775807) (hR : Row w w.heap.size A (flat (encZ .u64) l)) (hf : BM.Fits l) {T L G N : Int} (h : Int) :
    Calls Tryz.prog 30 #[.slice A n c, .agg #[.int .i64 T, .int .i64 (N : Int), .int .i64 L, .int .u64 G], .int .i64 h] w (Chained w (chainI T L N l h)) := by
  have HROW := Lib.hid (show ∀ W, Below (w.heap.size + 1) (w.alloc (.cells #[.int .i64 T, .int .i64 (N : Int), .int .i64 L, .int .u64 G] 24)) W → Row W W.heap.size A (flat (encZ .u64) l) from fun W hb => hR.later (below_past hb))
  have HWAY := Lib.hid (show ∀ (r : Int) W, (0 ≤ r ∧ r < 18446744073709551616) → Below (w.heap.size + 1) (w.alloc (.cells #[.int .i64 T, .int .i64 (N : Int), .int .i64 L, .int .u64 G] 24)) W → Calls Tryz.prog 64 #[.slice A n c, .agg #[.int .i64 T, .int .i64 (N : Int), .int .i64 L, .int .u64 G], .int .u64 r, .int .i64 h] W fun e w' => e = .returned (.int .u64 (wayI T L l r h)) ∧ Below W.heap.size W w' from fun r W hr hb => Way_all c hn hl (hR.later (below_past hb)) T N L G h hr)
  have HKEY := Lib.hid (show ∀ (r : Int) W, (0 ≤ r ∧ r < 18446744073709551616) → Below (w.heap.size + 1) (w.alloc (.cells #[.int .i64 T, .int .i64 (N : Int), .int .i64 L, .int .u64 G] 24)) W → Calls Tryz.prog 22 #[.slice A n c, .agg #[.int .i64 T, .int .i64 (N : Int), .int .i64 L, .int .u64 G], .int .u64 r] W fun e w' => e = .returned (.agg #[.int .i64 (keyI T L l r).1, .int .u64 (keyI T L l r).2]) ∧ Below W.heap.size W w' from fun r W hr hb => Key_all c hn hl (hR.later (below_past hb)) T N L G hr)
  have HFIT := Lib.hid (show ∀ r, 0 ≤ wayI T L l r h ∧ wayI T L l r h < 18446744073709551616 from fun r => BM.fits_get hf _)
  have HSAME := Lib.hid (show ∀ a b, idx a = idx b → keyI T L l a = keyI T L l b from fun a b e => key_same e)
  obtain ⟨x, hx⟩ : ∃ x, x = chainI T L N l h := ⟨_, rfl⟩
  rw [← hx]
  unfold chainI at hx
  have HZ := Lib.hid (HWAY.out 0 (w.alloc (.cells #[.int .i64 T, .int .i64 (N : Int), .int .i64 L, .int .u64 G] 24)) (by omega) (Below.refl _ _))
  have HF0 := Lib.hid (HFIT.out 0)
  obtain ⟨nx, hnx⟩ : ∃ nx : Int → Int, nx = fun r => wayI T L l r h := ⟨_, rfl⟩
  have HWAY2 := Lib.hid (show ∀ (r : Int) W, (0 ≤ r ∧ r < 18446744073709551616) → Below (w.heap.size + 1) (w.alloc (.cells #[.int .i64 T, .int .i64 (N : Int), .int .i64 L, .int .u64 G] 24)) W → Calls Tryz.prog 64 #[.slice A n c, .agg #[.int .i64 T, .int .i64 (N : Int), .int .i64 L, .int .u64 G], .int .u64 r, .int .i64 h] W fun e w' => e = .returned (.int .u64 (nx r)) ∧ Below W.heap.size W w' from fun r W a b => by rw [hnx]; exact HWAY.out r W a b)
  have HFIT2 := Lib.hid (show ∀ r, 0 ≤ nx r ∧ nx r < 18446744073709551616 from fun r => by rw [hnx]; exact HFIT.out r)
  rw [← hnx] at hx
  generalize wayI T L l 0 h = w0 at HZ HF0 hx
  generalize keyI T L l = key at HKEY HSAME hx
  clear hnx HWAY HFIT hR hn hf
  obtain ⟨c_0, c_1, c_2, c_3⟩ := box4 w (.int .i64 T) (.int .i64 N) (.int .i64 L) (.int .u64 G) 24
  have HM := Lib.hid fun W => Ref02.Marked_any w0 HF0.out.1 HF0.out.2 W
  by_cases hmk : w0 % 2 = 1
  · rw [if_pos hmk] at hx
    rw [decide_eq_true hmk] at HM
    subst hx
    clear hmk
    go_enter Tryz.func30, Tryz.ntmps30
    go_wp2_with fail
    refine HZ.out.mono ?_
    rintro e w1 ⟨rfl, b1⟩
    have HB := Lib.hid (show Below (w.heap.size + 1) (w.alloc (.cells #[.int .i64 T, .int .i64 (N : Int), .int .i64 L, .int .u64 G] 24)) w1 from by have h1 := b1; rwa [World.size_alloc] at h1)
    clear b1 c_0 c_1 c_2 c_3
    go_wp2_with fail
    refine (HM.out _).mono ?_
    rintro e w' ⟨rfl, rfl⟩
    go_wp2
    refine bodyPost_ret (v := .tuple #[.slice none 0 0, .bool false]) (by simp [results, Tryz.results30, go_sem]) rfl ?_
    exact ⟨none, 0, 0, rfl, rfl, Row.none_, fun a e => (by cases e), below_past HB.out⟩
  · rw [if_neg hmk] at hx
    rw [decide_eq_false hmk] at HM
    have HX := Lib.hid hx
    obtain ⟨i0, hi0, hz0, hz1, hz2⟩ := info_parts WordRows.info_w
    clear hmk hx
    go_enter Tryz.func30, Tryz.ntmps30
    go_wp2_with fail
    refine HZ.out.mono ?_
    rintro e w1 ⟨rfl, b1⟩
    have H0 := Lib.hid (show Amidst (w.alloc (.cells #[.int .i64 T, .int .i64 (N : Int), .int .i64 L, .int .u64 G] 24)) (w.heap.size + 1) nx key N x (.slice none 0 0) (.int .u64 w0) w1 from ⟨[], 0, w0, rfl, rfl, World.ownsRow_nil _ _ _ _, by rwa [World.size_alloc] at b1, HF0.out, fun c hc => (by cases hc), List.Pairwise.nil, HX.out.symm⟩)
    clear b1 c_0 c_1 c_2 c_3
    go_wp2_with fail
    refine (HM.out _).mono ?_
    rintro e w' ⟨rfl, rfl⟩
    go_wp2
    go_loopw [8, 9] (fun ov rv wr => Amidst (w.alloc (.cells #[.int .i64 T, .int .i64 (N : Int), .int .i64 L, .int .u64 G] 24)) (w.heap.size + 1) nx key N x ov rv wr) (fun ov _ _ => 2147483648 - lenV ov)
    case atStart => exact H0.out
    case round =>
      obtain ⟨out, m, r, rfl, hm, ho, hb, hr, hrf, hri, hch⟩ := hrel
      obtain ⟨A', c', rfl, -⟩ := slice_of_own ho
      have hmN : m ≤ N.toNat ∧ m ≤ 2147483647 := by have := refsI_few hrf hri HSAME.out; omega
      obtain ⟨f, hf⟩ : ∃ f, N.toNat + 1 - m = f + 1 := ⟨N.toNat - m, by omega⟩
      have hm31 := hmN.2
      clear hmN
      rw [hf] at hch
      have HO := Lib.hid ho
      have HB := Lib.hid hb
      have HMM := Lib.hid hm
      have HRF := Lib.hid (And.intro hrf hri)
      have HRR := Lib.hid hr
      have HNONE := Lib.hid fun W => Ref02.None_any r hr.1 hr.2 W
      have HIDX := Lib.hid fun W => Ref02.Index_any r hr.1 hr.2 W
      obtain ⟨c_0, c_1, c_2, c_3⟩ := box4_later hb
      by_cases h0 : idx r = 0
      · rw [chainF_none h0] at hch
        have HE := Lib.hid hch
        unfold idx at h0
        rw [decide_eq_true h0] at HNONE
        clear ho hb hm hrf hri hr hch h0
        go_wp2_with fail
        go_wp2_with fail
        refine (HNONE.out _).mono ?_
        rintro e w' ⟨rfl, rfl⟩
        by_cases hz : r = 0
        · subst hz
          go_wp2
          refine bodyPost_ret (v := .tuple #[.slice A' m c', .bool true]) (by simp [results, Tryz.results30, go_sem]) rfl ?_
          rw [← HE.out]
          exact ⟨A', m, c', rfl, HMM.out, Row.of_own HO.out, fun a e => by cases e; have := (HO.out.lt a.block rfl).1; omega, below_past HB.out⟩
        · have hz2 : (r == 0) = false := by simpa using hz
          have HZ0 := Lib.hid (decide_eq_false hz)
          clear hz
          go_wp2
          refine bodyPost_ret (v := .tuple #[.slice A' m c', .bool false]) (by simp [results, Tryz.results30, go_sem]) rfl ?_
          rw [← HE.out, HZ0.out]
          exact ⟨A', m, c', rfl, HMM.out, Row.of_own HO.out, fun a e => by cases e; have := (HO.out.lt a.block rfl).1; omega, below_past HB.out⟩
      · unfold idx at h0
        rw [decide_eq_false h0] at HNONE
        have H0I := Lib.hid h0
        have HCH := Lib.hid hch
        have HF := Lib.hid hf
        have HKR := Lib.hid fun W hb => HKEY.out r W HRR.out hb
        clear hm hrf hri hr hch hf h0
        go_wp2_with fail
        go_wp2_with fail
        refine (HNONE.out _).mono ?_
        rintro e w' ⟨rfl, rfl⟩
        go_upto_region 7 with fail
        go_cut [46] (fun s wx => s = .bool (bars key N out r) ∧ Below (w.heap.size + 1) (w.alloc (.cells #[.int .i64 T, .int .i64 (N : Int), .int .i64 L, .int .u64 G] 24)) wx ∧ wx.ownsRow (w.heap.size + 1) 22 1 (.slice A' m c') m (flat (encZ .u64) out))
        case first =>
          have C_0 := fun p : After wr => p.cell c_0
          have C_1 := fun p : After wr => p.cell c_1
          have C_2 := fun p : After wr => p.cell c_2
          have C_3 := fun p : After wr => p.cell c_3
          have HPQ := Lib.hid (show ∀ p : After wr, Below (w.heap.size + 1) (w.alloc (.cells #[.int .i64 T, .int .i64 (N : Int), .int .i64 L, .int .u64 G] 24)) p.x from fun p => HB.out.trans (p.ok.mono (by have := HB.out.size; rwa [World.size_alloc] at this)))
          by_cases hbig : (N : Int) < idx r
          · have HBV := Lib.hid (bars_big (key := key) (out := out) hbig)
            have hd : decide ((N : Int) < r % 4294967296 / 2) = true := decide_eq_true hbig
            unfold idx at hbig
            clear c_0 c_1 c_2 c_3 hb ho
            refine wp_region_after mixed (by kernel_rfl) ?_
            repeat (first | go_big_quiet_step ((with_reducible exact calls_after_same (HIDX.out _))) | quiet_step ((with_reducible exact calls_after_same (HIDX.out _))))
            refine wpQuiet_nil ?_
            intro _ hw'
            obtain ⟨pq, hw''⟩ := hw'
            subst hw''
            go_wp2
            go_meet
            case rel => exact ⟨by rw [HBV.out], HPQ.out pq, own_later HO.out pq.ok⟩
          · have hd : decide ((N : Int) < r % 4294967296 / 2) = false := decide_eq_false hbig
            rcases List.eq_nil_or_concat out with hnil | ⟨ys, q, hq⟩
            · subst hnil
              have HBV := Lib.hid (bars_nil (key := key) hbig)
              unfold idx at hbig
              have hm0 : m = 0 := HMM.out
              subst hm0
              clear c_0 c_1 c_2 c_3 hb ho
              refine wp_region_after mixed (by kernel_rfl) ?_
              repeat (first | go_big_quiet_step ((with_reducible exact calls_after_same (HIDX.out _))) | quiet_step ((with_reducible exact calls_after_same (HIDX.out _))))
              refine wpQuiet_nil ?_
              intro _ hw'
              obtain ⟨pq, hw''⟩ := hw'
              subst hw''
              go_wp2
              go_meet
              case rel => exact ⟨by rw [HBV.out], HPQ.out pq, own_later HO.out pq.ok⟩
            · have hql : out.getLast? = some q := by rw [hq]; simp
              have HBV := Lib.hid (bars_last (key := key) hbig hql)
              unfold idx at hbig
              have HQR := Lib.hid (show 0 ≤ q ∧ q < 18446744073709551616 from (HRF.out.1 q (by rw [hq]; simp)).1)
              obtain ⟨j, hj⟩ : ∃ j, m = j + 1 := ⟨ys.length, by have h1 := HMM.out; rw [hq] at h1; simpa using h1⟩
              have hjq : out[j]? = some q := by
                have h1 := HMM.out
                rw [hq] at h1 ⊢
                rw [List.concat_eq_append] at h1 ⊢
                rw [List.length_append, List.length_singleton] at h1
                rw [List.getElem?_append_right (by omega), show j - ys.length = 0 by omega]
                rfl
              subst hj
              have HKQ := Lib.hid fun W hb => HKEY.out q W HQR.out hb
              obtain ⟨b0, o0, ea, -, hc0⟩ := int_at (Row.of_own HO.out) (show j < out.length by have := HMM.out; omega)
              have q0 := hc0 j q hjq
              have Q_0 := fun p : After wr => p.cell q0
              have hix : IntKind.i64.wrap (((j + 1 : Nat) : Int) - 1) = (j : Int) := by rw [show ((j + 1 : Nat) : Int) - 1 = (j : Int) by omega]; exact IntWalk.i64_in _ ⟨by omega, by omega⟩
              have hjm : (j : Int) < ((j + 1 : Nat) : Int) := by omega
              have hpos : decide ((0 : Int) < ((j + 1 : Nat) : Int)) = true := decide_eq_true (by omega)
              have HLS := Lib.hid fun W => LessRef.Less_any (key q) (key r) W
              generalize OM.ltK (key q) (key r) = b at HLS HBV
              generalize key q = kq at HKQ HLS
              generalize key r = kr at HKR HLS
              subst ea
              clear c_0 c_1 c_2 c_3 hb ho hc0 hjq hq hql q0
              refine wp_region_after mixed (by kernel_rfl) ?_
              repeat (first | go_big_quiet_step ((first | (with_reducible exact calls_after_same (HIDX.out _)) | (with_reducible exact calls_after (HKQ.out _ (HPQ.out _))) | (with_reducible exact calls_after (HKR.out _ (HPQ.out _))) | (with_reducible exact calls_after (HLS.out _)))) | quiet_step ((first | (with_reducible exact calls_after_same (HIDX.out _)) | (with_reducible exact calls_after (HKQ.out _ (HPQ.out _))) | (with_reducible exact calls_after (HKR.out _ (HPQ.out _))) | (with_reducible exact calls_after (HLS.out _)))))
              refine wpQuiet_nil ?_
              intro _ hw'
              obtain ⟨pq, hw''⟩ := hw'
              subst hw''
              go_wp2
              go_meet
              case rel => exact ⟨by rw [HBV.out], HPQ.out pq, own_later HO.out pq.ok⟩
        case rest =>
          obtain ⟨rfl, hb2, ho2⟩ := hcut
          have HB2 := Lib.hid hb2
          have HO2 := Lib.hid ho2
          clear hb ho c_0 c_1 c_2 c_3 hb2 ho2 HO HB
          cases hbv : bars key N out r with
          | true =>
            have HE := Lib.hid (HCH.out.symm.trans (chainF_bars H0I.out hbv))
            clear hbv
            go_wp2
            refine bodyPost_ret (v := .tuple #[.slice A' m c', .bool false]) (by simp [results, Tryz.results30, go_sem]) rfl ?_
            rw [HE.out]
            exact ⟨A', m, c', rfl, HMM.out, Row.of_own HO2.out, fun a e => by cases e; have := (HO2.out.lt a.block rfl).1; omega, below_past HB2.out⟩
          | false =>
            have HE := Lib.hid (chainF_on (nx := nx) (f := f) H0I.out hbv)
            have HBN := Lib.hid (bars_no hbv)
            have HNX := Lib.hid (HFIT2.out r)
            have HPL := Lib.hid fun W => Ref02.Plain_any (nx r) HNX.out.1 HNX.out.2 W
            have HWY := Lib.hid fun W hb => HWAY2.out r W HRR.out hb
            have HSZ := Lib.hid (show w.heap.size + 1 ≤ wc.heap.size from by have h1 := HB2.out.size; rwa [World.size_alloc] at h1)
            clear hbv
            go_wp2_with (at_builtin; refine wpList_append_only _ rfl (.tmp 48) (.tmp 50) 30 rfl (w.heap.size + 1) 22 i0 _ 1 8 Tryz.underlying30 hi0 hz0 hz1 hz2 rfl (by decide) _ m _ rfl (HO2.out.alloc _) ⟨wc.heap.size, 0, none⟩ 1 1 (encZ .u64 r) rfl (by decide) rfl (cells_new _ _ _) (encZ_one _ _) (by simp only [maxLen]; omega) (by omega) (by have := HSZ.out; simp; omega) ?_; intro g2 cap w3 ho3 hg3 hlt3 hor3 hon3; have HO3 := Lib.hid ho3; have HB3 := Lib.hid (show Below (w.heap.size + 1) (w.alloc (.cells #[.int .i64 T, .int .i64 (N : Int), .int .i64 L, .int .u64 G] 24)) w3 from (HB2.out.alloc HSZ.out _).trans (hon3.below (by have := HSZ.out; simp; omega) (fun k hk => (HO2.out.lt k hk).1))); obtain ⟨c_0, c_1, c_2, c_3⟩ := box4_later HB3.out; clear ho3 hg3 hlt3 hor3 hon3)
            refine (HWY.out _ HB3.out).mono ?_
            rintro e w4 ⟨rfl, b4⟩
            have HB4 := Lib.hid (show Below (w.heap.size + 1) (w.alloc (.cells #[.int .i64 T, .int .i64 (N : Int), .int .i64 L, .int .u64 G] 24)) w4 from HB3.out.trans (b4.mono (by have := HB3.out.size; rwa [World.size_alloc] at this)))
            have HO4 := Lib.hid (own_later HO3.out b4)
            have H4 := Lib.hid (show Amidst (w.alloc (.cells #[.int .i64 T, .int .i64 (N : Int), .int .i64 L, .int .u64 G] 24)) (w.heap.size + 1) nx key N x (.slice (some ⟨g2, 0, none⟩) (m + 1) cap) (.int .u64 (nx r - nx r % 2)) w4 from
              ⟨out ++ [r], m + 1, plainI (nx r), rfl, by rw [List.length_append, ← HMM.out]; rfl, by rw [flat_append, flat_one]; exact HO4.out, HB4.out, plain_fits HNX.out, refsI_snoc HRF.out.1 HRR.out H0I.out HBN.out.1, rises_snoc HRF.out.2 HBN.out.2, by rw [show N.toNat + 1 - (m + 1) = f by have := HF.out; omega, ← HE.out]; exact HCH.out⟩)
            clear b4 c_0 c_1 c_2 c_3
            go_wp2_with fail
            go_wp2_with fail
            refine (HPL.out _).mono ?_
            rintro e w' ⟨rfl, rfl⟩
            go_wp2
            go_roundw
            case rel => exact H4.out
            case measure => simp [lenV]; omega
theorem Chain_any {A : Option Addr} {l : List Int} {n : Nat} (c : Nat) {w : World} (hn : n = l.length) (hl : n ≤ 1000000) (hR : Row w w.heap.size A (flat (encZ .u64) l)) (hf : BM.Fits l) {T L G : Int} {N : Nat} (hN : N ≤ 64) (h : Int) :
    Calls Tryz.prog 30 #[.slice A n c, .agg #[.int .i64 T, .int .i64 (N : Int), .int .i64 L, .int .u64 G], .int .i64 h] w (Chained w (chainI T L N l h)) := Chain_all c hn (by omega) hR hf h
end Go.Proofs.YtlagghghbpbcbaaGreatDoor.SeekRef

/- The document's Kept and Find (package sundialref18), held to plain lists. -/
namespace Go.Proofs.YtlagghghbpbcbaaGreatDoor.SeekRef
set_option maxRecDepth 20000
open Go.ChangeShapes Go.WideShapes Go.RowKit PM CM KM Lay Ints Plan
set_option linter.unusedVariables false
set_option linter.unusedSimpArgs false

/-- A list of words in new memory. -/
def Listed (w : World) (l : List Int) (e : Ending) (w' : World) : Prop := ∃ A n c, e = .returned (.slice A n c) ∧ n = l.length ∧ Row w' w'.heap.size A (flat (encZ .u64) l) ∧ (∀ a, A = some a → w.heap.size ≤ a.block) ∧ Below w.heap.size w w'
theorem take_filter {f : Int → Bool} {l : List Int} {j : Nat} {y : Int} (h : l[j]? = some y) : (l.take (j + 1)).filter f = (l.take j).filter f ++ (if f y = true then [y] else []) := by
  obtain ⟨hj, rfl⟩ := List.getElem?_eq_some_iff.1 h
  rw [List.take_add_one, List.getElem?_eq_getElem hj, List.filter_append]
  congr 1
  simp [List.filter_cons]
theorem kept_refs {T L : Int} {N : Nat} {l : List Int} (hf : BM.Fits l) (h : Int) : Refs N (keptL T L N l h) := fun c hc => (chain_refs hf h).1 c (List.mem_filter.1 hc).1
theorem kept_few {T L : Int} {N : Nat} {l : List Int} (hf : BM.Fits l) (h : Int) : (keptL T L N l h).length ≤ N := Nat.le_trans (List.length_filter_le _ _) (chain_few hf h)

set_option maxHeartbeats 2000000 in
theorem Kept_any {A : Option Addr} {l : List Int} {n : Nat} (c : Nat) {w : World} (hn : n = l.length) (hl : n ≤ 1000000) (hR : Row w w.heap.size A (flat (encZ .u64) l)) (hf : BM.Fits l) {T L G : Int} {N : Nat} (hN : N ≤ 64) (h : Int) :
    Calls Tryz.prog 20 #[.slice A n c, .agg #[.int .i64 T, .int .i64 (N : Int), .int .i64 L, .int .u64 G], .int .i64 h] w (Listed w (keptL T L N l h)) := by
  have HCH := Lib.hid (Chain_any c hn hl (hR.later (box_below w (.cells #[.int .i64 T, .int .i64 (N : Int), .int .i64 L, .int .u64 G] 24))) hf (T := T) (L := L) (G := G) hN h)
  have HOUT := Lib.hid (show ∀ (r : Int) W, (0 ≤ r ∧ r < 18446744073709551616) → Below (w.heap.size + 1) (w.alloc (.cells #[.int .i64 T, .int .i64 (N : Int), .int .i64 L, .int .u64 G] 24)) W → ∀ b, (!freeB T L l h r) = b → Calls Tryz.prog 31 #[.slice A n c, .agg #[.int .i64 T, .int .i64 (N : Int), .int .i64 L, .int .u64 G], .int .u64 r, .int .i64 h] W fun e w' => e = .returned (.bool b) ∧ Below W.heap.size W w' from fun r W hr hb b e => Out_is c hn hl (hR.later (below_past hb)) hf T N L G h hr e)
  have HRF := Lib.hid (chain_refs (T := T) (L := L) (N := N) hf h).1
  have HFW := Lib.hid (chain_few (T := T) (L := L) (N := N) hf h)
  unfold keptL
  obtain ⟨x, hx⟩ : ∃ x, x = chainI T L N l h := ⟨_, rfl⟩
  rw [← hx] at HCH HRF HFW ⊢
  obtain ⟨fr, hfr⟩ : ∃ fr, fr = freeB T L l h := ⟨_, rfl⟩
  rw [← hfr] at HOUT ⊢
  obtain ⟨c_0, c_1, c_2, c_3⟩ := box4 w (.int .i64 T) (.int .i64 N) (.int .i64 L) (.int .u64 G) 24
  obtain ⟨i0, hi0, hz0, hz1, hz2⟩ := info_parts WordRows.info_w
  clear hR hn hf hx hfr
  go_enter Tryz.func20, Tryz.ntmps20
  go_wp2_with fail
  refine HCH.out.mono ?_
  rintro e w1 ⟨A1, n1, c1, rfl, h1, r1, -, b1⟩
  have HB1 := Lib.hid (show Below (w.heap.size + 1) (w.alloc (.cells #[.int .i64 T, .int .i64 (N : Int), .int .i64 L, .int .u64 G] 24)) w1 from by have q := b1; rwa [World.size_alloc] at q)
  have HN1 := Lib.hid h1
  have hn1 : n1 ≤ 64 := by have := HFW.out; omega
  have HR1 := Lib.hid r1
  have HP := Lib.hid (show ∀ W, Below w1.heap.size w1 W → Below (w.heap.size + 1) (w.alloc (.cells #[.int .i64 T, .int .i64 (N : Int), .int .i64 L, .int .u64 G] 24)) W from fun W hb => HB1.out.trans (hb.mono (by have := HB1.out.size; rwa [World.size_alloc] at this)))
  clear h1 r1 b1 c_0 c_1 c_2 c_3 HCH
  go_wp2
  go_loopw [9, 10] (fun ov iv wr => ∃ (j m : Nat), j ≤ n1 ∧ m ≤ j ∧ iv = .int .i64 j ∧ m = ((x.1.take j).filter fr).length ∧ wr.ownsRow w1.heap.size 22 1 ov m (flat (encZ .u64) ((x.1.take j).filter fr)) ∧ Below w1.heap.size w1 wr)
    (fun _ iv _ => n1 - (intOf iv).toNat)
  case atStart => exact ⟨0, 0, Nat.zero_le _, Nat.le_refl _, rfl, by simp, by simpa [flat] using World.ownsRow_nil w1 w1.heap.size _ _, Below.refl _ _⟩
  case round =>
    obtain ⟨j, m, hj, hmj, rfl, hm, ho, hb⟩ := hrel
    obtain ⟨A2, c2, rfl, -⟩ := slice_of_own ho
    have HO := Lib.hid ho
    have HB := Lib.hid hb
    have HM := Lib.hid hm
    obtain ⟨c_0, c_1, c_2, c_3⟩ := box4_later (HP.out wr hb)
    by_cases hlt : j < n1
    · obtain ⟨y, hy⟩ : ∃ y, x.1[j]? = some y := ⟨_, List.getElem?_eq_getElem (by have := HN1.out; omega)⟩
      have HY := Lib.hid (HRF.out y (List.mem_of_getElem? hy)).1
      obtain ⟨b0, o0, rfl, -, hc0⟩ := int_at (HR1.out.later hb) (show j < x.1.length by have := HN1.out; omega)
      have q0 := hc0 j y hy
      have HTF := Lib.hid (take_filter (f := fr) hy)
      have C_0 := fun p : After wr => p.cell c_0
      have C_1 := fun p : After wr => p.cell c_1
      have C_2 := fun p : After wr => p.cell c_2
      have C_3 := fun p : After wr => p.cell c_3
      have Q_0 := fun p : After wr => p.cell q0
      have HPQ := Lib.hid (show ∀ p : After wr, Below w1.heap.size w1 p.x from fun p => HB.out.trans (p.ok.mono HB.out.size))
      have hil : (j : Int) < (n1 : Int) := by omega
      cases hfy : fr y with
      | false =>
        have HV := Lib.hid fun W hb => HOUT.out y W HY.out hb true (by rw [hfy]; rfl)
        have H4 := Lib.hid (show (x.1.take (j + 1)).filter fr = (x.1.take j).filter fr by rw [HTF.out, hfy]; simp)
        clear hc0 hy hb ho hm c_0 c_1 c_2 c_3 q0 hfy
        go_wp2
        refine wp_region_after mixed (by kernel_rfl) ?_
        repeat (first | go_big_quiet_step ((with_reducible exact calls_after (HV.out _ (HP.out _ (HPQ.out _))))) | quiet_step ((with_reducible exact calls_after (HV.out _ (HP.out _ (HPQ.out _))))))
        refine wpQuiet_nil ?_
        intro _ hw'
        obtain ⟨pq, hw''⟩ := hw'
        subst hw''
        have hq := HPQ.out pq
        have hq2 := pq.ok
        have d0 := Q_0 pq
        generalize pq.x = wq at hq hq2 d0 ⊢
        go_wp2
        go_roundw
        case rel => exact ⟨j + 1, m, by omega, by omega, by go_num, by rw [H4.out]; exact HM.out, by rw [H4.out]; exact own_later HO.out hq2, hq⟩
        case measure => simp [intOf]; omega
      | true =>
        have HV := Lib.hid fun W hb => HOUT.out y W HY.out hb false (by rw [hfy]; rfl)
        have H4 := Lib.hid (show (x.1.take (j + 1)).filter fr = (x.1.take j).filter fr ++ [y] by rw [HTF.out, hfy]; simp)
        clear hc0 hy hb ho hm c_0 c_1 c_2 c_3 q0 hfy
        go_wp2
        refine wp_region_after mixed (by kernel_rfl) ?_
        repeat (first | go_big_quiet_step ((with_reducible exact calls_after (HV.out _ (HP.out _ (HPQ.out _))))) | quiet_step ((with_reducible exact calls_after (HV.out _ (HP.out _ (HPQ.out _))))))
        refine wpQuiet_nil ?_
        intro _ hw'
        obtain ⟨pq, hw''⟩ := hw'
        subst hw''
        have hq := HPQ.out pq
        have hq2 := pq.ok
        have d0 := Q_0 pq
        generalize pq.x = wq at hq hq2 d0 ⊢
        have HQ := Lib.hid hq
        have HO2 := Lib.hid (own_later HO.out hq2)
        have K0 := fun o => cell_later (box_below wq o) d0
        clear hq hq2
        go_wp2_with (at_builtin; refine wpList_append_only _ rfl (.tmp 33) (.tmp 38) 30 rfl w1.heap.size 22 i0 _ 1 8 Tryz.underlying30 hi0 hz0 hz1 hz2 rfl (by decide) _ m _ rfl (HO2.out.alloc _) ⟨wq.heap.size, 0, none⟩ 1 1 (encZ .u64 y) rfl (by decide) rfl (cells_new _ _ _) (encZ_one _ _) (by simp only [maxLen]; omega) (by omega) (by have := HQ.out.size; simp; omega) ?_; intro g2 cap w3 ho3 hg3 hlt3 hor3 hon3; have HO3 := Lib.hid ho3; have HB3 := Lib.hid (show Below w1.heap.size w1 w3 from (HQ.out.alloc HQ.out.size _).trans (hon3.below (by have := HQ.out.size; simp; omega) (fun k hk => (HO2.out.lt k hk).1))); clear ho3 hg3 hlt3 hor3 hon3)
        go_roundw
        case rel => exact ⟨j + 1, m + 1, by omega, by omega, by go_num, by rw [H4.out, List.length_append, ← HM.out]; rfl, by rw [H4.out, flat_append, flat_one]; exact HO3.out, HB3.out⟩
        case measure => simp [intOf]; omega
    · obtain rfl : j = n1 := by omega
      have HALL := Lib.hid (show x.1.take j = x.1 from List.take_of_length_le (by have := HN1.out; omega))
      clear ho hb hm c_0 c_1 c_2 c_3
      go_wp2
      go_ret
      rw [HALL.out] at HM HO
      exact ⟨A2, m, c2, rfl, HM.out, Row.of_own HO.out, fun a e => by cases e; have h1 := (HO.out.lt a.block rfl).1; have h2 := HB1.out.size; rw [World.size_alloc] at h2; omega, below_past (HP.out _ HB.out)⟩
end Go.Proofs.YtlagghghbpbcbaaGreatDoor.SeekRef

/- The document's Good (package sundialref18): where it says yes, all chains rise, and whoever is in one without a mark is so in the one below. -/
namespace Go.Proofs.YtlagghghbpbcbaaGreatDoor.SeekRef
set_option maxRecDepth 20000
open Go.ChangeShapes Go.WideShapes Go.RowKit PM CM KM Lay Ints Plan
set_option linter.unusedVariables false
set_option linter.unusedSimpArgs false

theorem right_nat {T N L : Nat} {G : Int} (h : rightB (T : Int) (N : Int) (L : Int) G = true) : 1 ≤ T ∧ T ≤ 8 ∧ 1 ≤ N ∧ N ≤ 64 ∧ 1 ≤ L ∧ L ≤ 8 := by
  have := right_is h
  omega
/-- One level is as it should be. -/
def Level (T L N : Int) (m : List Int) (h : Nat) : Prop := (chainI T L N m h).2 = true ∧ ∀ g : Nat, h = g + 1 → ∀ r ∈ (chainI T L N m h).1, freeB T L m h r = true → r ∈ (chainI T L N m g).1 ∧ freeB T L m g r = true
/-- What the document calls right, with the plan's numbers. -/
def Yes (T N L G : Int) (l : List Int) : Prop := ∃ T' N' L' : Nat, T = T' ∧ N = N' ∧ L = L' ∧ rightB T N L G = true ∧ l.length = wordsN T' N' L' ∧ GoodW T L N l
/-- The levels up to j are; the one below it is in the row. -/
def Levels (w1 : World) (T L N : Int) (l : List Int) (j : Nat) (bv : Value) (wr : World) : Prop :=
  ∃ (A : Option Addr) (n c : Nat) (bl : List Int), bv = .slice A n c ∧ n = bl.length ∧ n ≤ 1000000 ∧ Row wr wr.heap.size A (flat (encZ .u64) bl) ∧ (∀ g : Nat, j = g + 1 → bl = (chainI T L N l g).1) ∧ (∀ h : Nat, h < j → Level T L N l h)
theorem Good_wrong {T N L G : Int} (h : rightB T N L G = false) (A : Option Addr) (n c : Nat) (w : World) : Calls Tryz.prog 5 #[.slice A n c, .agg #[.int .i64 T, .int .i64 N, .int .i64 L, .int .u64 G]] w fun e w' => e = .returned (.bool false) ∧ Below w.heap.size w w' := by
  have HR := Lib.hid fun W => PlanRef.Right_no h W
  obtain ⟨c_0, c_1, c_2, c_3⟩ := box4 w (.int .i64 T) (.int .i64 N) (.int .i64 L) (.int .u64 G) 24
  clear h
  go_enter Tryz.func5, Tryz.ntmps5
  go_wp2_with fail
  refine (HR.out _).mono ?_
  rintro e w' ⟨rfl, b1⟩
  go_wp2
  go_ret
  exact ⟨rfl, (box_below _ _).trans (b1.mono (by simp))⟩
set_option maxHeartbeats 4000000 in
theorem Good_right {A : Option Addr} {l : List Int} {n : Nat} (c : Nat) {w : World} (hn : n = l.length) (hl : n ≤ 1000000) (hR : Row w w.heap.size A (flat (encZ .u64) l)) (hf : BM.Fits l) {T N L : Nat} {G : Int} (hr : rightB (T : Int) (N : Int) (L : Int) G = true) :
    Calls Tryz.prog 5 #[.slice A n c, .agg #[.int .i64 (T : Int), .int .i64 (N : Int), .int .i64 (L : Int), .int .u64 G]] w fun e w' => ∃ b, e = .returned (.bool b) ∧ Below w.heap.size w w' ∧ (b = true ↔ l.length = wordsN T N L ∧ GoodW T L N l) := by
  obtain ⟨-, t8, -, s64, -, l8⟩ := right_nat hr
  have HRI := Lib.hid fun W => PlanRef.Right_yes hr W
  have HWD := Lib.hid (show ∀ W, Calls Tryz.prog 29 #[.agg #[.int .i64 (T : Int), .int .i64 (N : Int), .int .i64 (L : Int), .int .u64 G]] W fun e w' => e = .returned (.int .i64 ((wordsN T N L : Nat) : Int)) ∧ Below W.heap.size W w' from fun W => by rw [← words_cast (T := T) (S := N) (L := L) (by omega) (by omega) (by omega)]; exact PlanRef.Words_any T N L G W)
  have HCH := Lib.hid (show ∀ (j : Nat) W, Below (w.heap.size + 1) (w.alloc (.cells #[.int .i64 (T : Int), .int .i64 (N : Int), .int .i64 (L : Int), .int .u64 G] 24)) W → Calls Tryz.prog 30 #[.slice A n c, .agg #[.int .i64 (T : Int), .int .i64 (N : Int), .int .i64 (L : Int), .int .u64 G], .int .i64 j] W (Chained W (chainI T L N l j)) from fun j W hb => Chain_any c hn hl (hR.later (below_past hb)) hf s64 j)
  have HOUT := Lib.hid (show ∀ (j : Nat) (r : Int) W, (0 ≤ r ∧ r < 18446744073709551616) → Below (w.heap.size + 1) (w.alloc (.cells #[.int .i64 (T : Int), .int .i64 (N : Int), .int .i64 (L : Int), .int .u64 G] 24)) W → ∀ b, (!freeB T L l j r) = b → Calls Tryz.prog 31 #[.slice A n c, .agg #[.int .i64 (T : Int), .int .i64 (N : Int), .int .i64 (L : Int), .int .u64 G], .int .u64 r, .int .i64 j] W fun e w' => e = .returned (.bool b) ∧ Below W.heap.size W w' from fun j r W hr hb b e => Out_is c hn hl (hR.later (below_past hb)) hf T N L G j hr e)
  have HRF := Lib.hid (show ∀ j : Nat, Refs N (chainI T L N l j).1 ∧ (chainI T L N l j).1.length ≤ N from fun j => ⟨(chain_refs hf j).1, chain_few hf j⟩)
  have HEND := Lib.hid (show (∀ h : Nat, h < L → (chainI T L N l h).2 = true ∧ ∀ g : Nat, h = g + 1 → ∀ r ∈ (chainI T L N l h).1, freeB T L l h r = true → r ∈ (chainI T L N l g).1 ∧ freeB T L l g r = true) → GoodW T L N l from fun h k hk => h k (by omega))
  have HNOT := Lib.hid (show GoodW T L N l → ∀ h : Nat, h < L → (chainI T L N l h).2 = true ∧ ∀ g : Nat, h = g + 1 → ∀ r ∈ (chainI T L N l h).1, freeB T L l h r = true → r ∈ (chainI T L N l g).1 ∧ freeB T L l g r = true from fun h k hk => h k (by omega))
  have HNOW := Lib.hid (show ∀ b : Bool, b = false → ¬ GoodW T L N l → (b = true ↔ l.length = wordsN T N L ∧ GoodW T L N l) from fun b e h => ⟨fun e2 => (by rw [e] at e2; cases e2), fun q => absurd q.2 h⟩)
  have HNOL := Lib.hid (show ¬ n = wordsN T N L → (false = true ↔ l.length = wordsN T N L ∧ GoodW T L N l) from fun h => ⟨fun e => (by cases e), fun q => absurd (hn.trans q.1) h⟩)
  generalize chainI (T : Int) (L : Int) (N : Int) l = ch at HCH HRF HEND HNOT
  generalize freeB (T : Int) (L : Int) l = fr at HOUT HEND HNOT
  have HL := Lib.hid hn
  clear hr hR hf hn
  obtain ⟨c_0, c_1, c_2, c_3⟩ := box4 w (.int .i64 T) (.int .i64 N) (.int .i64 L) (.int .u64 G) 24
  go_enter Tryz.func5, Tryz.ntmps5
  go_wp2_with fail
  refine (HRI.out _).mono ?_
  rintro e w1 ⟨rfl, b1⟩
  have HB1 := Lib.hid (show Below (w.heap.size + 1) (w.alloc (.cells #[.int .i64 (T : Int), .int .i64 (N : Int), .int .i64 (L : Int), .int .u64 G] 24)) w1 from by rwa [World.size_alloc] at b1)
  clear b1 c_0 c_1 c_2 c_3
  obtain ⟨c_0, c_1, c_2, c_3⟩ := box4_later HB1.out
  go_wp2_with fail
  refine (HWD.out _).mono ?_
  rintro e w2 ⟨rfl, b2⟩
  have HB2 := Lib.hid (show Below (w.heap.size + 1) (w.alloc (.cells #[.int .i64 (T : Int), .int .i64 (N : Int), .int .i64 (L : Int), .int .u64 G] 24)) w2 from HB1.out.trans (b2.mono (by have := HB1.out.size; rwa [World.size_alloc] at this)))
  clear b2 c_0 c_1 c_2 c_3
  by_cases hw : n = wordsN T N L
  · have hw2 : ((n : Int) != ((wordsN T N L : Nat) : Int)) = false := by rw [hw]; simp
    have HWN := Lib.hid hw
    clear hw
    obtain ⟨WN, hWN⟩ : ∃ WN, WN = wordsN T N L := ⟨_, rfl⟩
    rw [← hWN] at hw2 ⊢
    clear hWN
    go_wp2
    go_loopw [5, 6] (fun bv jv wr => ∃ (j : Nat) (A1 : Option Addr) (n1 d1 : Nat) (bl : List Int), j ≤ L ∧ jv = .int .i64 j ∧ bv = .slice A1 n1 d1 ∧ n1 = bl.length ∧ n1 ≤ 1000000 ∧ Row wr wr.heap.size A1 (flat (encZ .u64) bl) ∧ (∀ g : Nat, j = g + 1 → bl = (ch g).1) ∧
        (∀ h : Nat, h < j → (ch h).2 = true ∧ ∀ g : Nat, h = g + 1 → ∀ r ∈ (ch h).1, fr h r = true → r ∈ (ch g).1 ∧ fr g r = true) ∧ Below (w.heap.size + 1) (w.alloc (.cells #[.int .i64 (T : Int), .int .i64 (N : Int), .int .i64 (L : Int), .int .u64 G] 24)) wr)
      (fun _ jv _ => L - (intOf jv).toNat)
    case atStart => exact ⟨0, none, 0, 0, [], Nat.zero_le _, rfl, rfl, rfl, by omega, Row.none_, fun g e => by omega, fun h e => by omega, HB2.out⟩
    case round =>
      obtain ⟨j, A1, n1, d1, bl, hj, rfl, rfl, hn1, hm1, hr1, hbl, hlv, hb⟩ := hrel
      have HB := Lib.hid hb
      have HV := Lib.hid hlv
      have HBL := Lib.hid (And.intro hn1 (And.intro hr1 hbl))
      obtain ⟨c_0, c_1, c_2, c_3⟩ := box4_later hb
      clear hn1 hr1 hbl hlv
      by_cases hlt : j < L
      · have hil : (j : Int) < (L : Int) := by omega
        clear hb
        go_wp2_with fail
        refine (HCH.out j _ HB.out).mono ?_
        rintro e w3 ⟨A2, n2, d2, rfl, h2, r2, -, b3⟩
        have HB3 := Lib.hid (show Below (w.heap.size + 1) (w.alloc (.cells #[.int .i64 (T : Int), .int .i64 (N : Int), .int .i64 (L : Int), .int .u64 G] 24)) w3 from HB.out.trans (b3.mono (by have := HB.out.size; rwa [World.size_alloc] at this)))
        have HR1 := Lib.hid (HBL.out.2.1.later b3)
        have HR2 := Lib.hid r2
        have HN2 := Lib.hid h2
        have hn2 : n2 ≤ 64 := by have := (HRF.out j).2; omega
        clear c_0 c_1 c_2 c_3 h2 r2 b3
        cases hok : (ch j).2 with
        | false =>
          have HE := Lib.hid (HNOW.out false rfl fun q => by have := (HNOT.out q j hlt).1; rw [hok] at this; cases this)
          clear hok
          go_wp2
          go_ret
          exact ⟨false, rfl, below_past HB3.out, HE.out⟩
        | true =>
          have HOK := Lib.hid hok
          clear hok
          go_wp2
          go_loopw [9] (fun iv wr => ∃ i : Nat, i ≤ n2 ∧ iv = .int .i64 i ∧ Row wr wr.heap.size A1 (flat (encZ .u64) bl) ∧ Row wr wr.heap.size A2 (flat (encZ .u64) (ch j).1) ∧ Below (w.heap.size + 1) (w.alloc (.cells #[.int .i64 (T : Int), .int .i64 (N : Int), .int .i64 (L : Int), .int .u64 G] 24)) wr ∧ ∀ g : Nat, j = g + 1 → ∀ r ∈ (ch j).1.take i, fr j r = true → r ∈ (ch g).1 ∧ fr g r = true)
            (fun iv _ => n2 - (intOf iv).toNat)
          case atStart => exact ⟨0, Nat.zero_le _, rfl, HR1.out, HR2.out, HB3.out, fun g e r hr => by simp at hr⟩
          case round =>
            obtain ⟨i, hi, rfl, hr1, hr2, hb, hall⟩ := hrel
            have HBI := Lib.hid hb
            have HRI1 := Lib.hid hr1
            have HRI2 := Lib.hid hr2
            have HALL := Lib.hid hall
            obtain ⟨c_0, c_1, c_2, c_3⟩ := box4_later hb
            clear hr1 hall
            by_cases hil2 : i < n2
            · have hin2 : (i : Int) < (n2 : Int) := by omega
              by_cases hj0 : j = 0
              · have hpos : ¬ (0 : Int) < (j : Int) := by omega
                have HTK := Lib.hid (show ∀ h : Nat, h < j + 1 → (ch h).2 = true ∧ ∀ g : Nat, h = g + 1 → ∀ r ∈ (ch h).1, fr h r = true → r ∈ (ch g).1 ∧ fr g r = true from fun h hh => by
                  by_cases e : h = j
                  · subst e
                    exact ⟨HOK.out, fun g eg r hr hfr => by omega⟩
                  · exact HV.out h (by omega))
                clear hr2 hb
                go_wp2
                go_roundw
                case rel => exact ⟨j + 1, A2, n2, d2, (ch j).1, by omega, by go_num, rfl, HN2.out, by omega, HRI2.out, fun g e => by rw [show g = j by omega], HTK.out, HBI.out⟩
                case measure => simp [intOf]; omega
              · have hpos : (0 : Int) < (j : Int) := by omega
                obtain ⟨g, hg⟩ : ∃ g, j = g + 1 := ⟨j - 1, by omega⟩
                have HG := Lib.hid hg
                have hwg : IntKind.i64.wrap ((j : Int) - 1) = (g : Int) := by rw [hg, show ((g + 1 : Nat) : Int) - 1 = (g : Int) by omega]; exact IntWalk.i64_in _ ⟨by omega, by omega⟩
                obtain ⟨y, hy⟩ : ∃ y, (ch j).1[i]? = some y := ⟨_, List.getElem?_eq_getElem (by have := HN2.out; omega)⟩
                have HY := Lib.hid ((HRF.out j).1 y (List.mem_of_getElem? hy)).1
                have HYM := Lib.hid (List.mem_of_getElem? hy)
                have HTS := Lib.hid (show (ch j).1.take (i + 1) = (ch j).1.take i ++ [y] from by rw [List.take_add_one, hy]; rfl)
                obtain ⟨b0, o0, ea, -, hc0⟩ := int_at hr2 (show i < (ch j).1.length by have := HN2.out; omega)
                subst ea
                have q0 := hc0 i y hy
                have C_0 := fun p : After wr => p.cell c_0
                have C_1 := fun p : After wr => p.cell c_1
                have C_2 := fun p : After wr => p.cell c_2
                have C_3 := fun p : After wr => p.cell c_3
                have Q_0 := fun p : After wr => p.cell q0
                have HPQ := Lib.hid (show ∀ p : After wr, Below (w.heap.size + 1) (w.alloc (.cells #[.int .i64 (T : Int), .int .i64 (N : Int), .int .i64 (L : Int), .int .u64 G] 24)) p.x from fun p => HBI.out.trans (p.ok.mono (by have := HBI.out.size; rwa [World.size_alloc] at this)))
                have HBG := Lib.hid (HBL.out.2.2 g hg)
                have hbg : True := trivial
                have hbl2 : True := trivial
                have HV2 := Lib.hid (show ∀ W, Below (w.heap.size + 1) (w.alloc (.cells #[.int .i64 (T : Int), .int .i64 (N : Int), .int .i64 (L : Int), .int .u64 G] 24)) W → True from fun _ _ => trivial)
                clear hc0 hy q0 c_0 c_1 c_2 c_3 hg hj0
                cases hfy : fr j y with
                | false =>
                  have HV1 := Lib.hid fun W hb => HOUT.out j y W HY.out hb true (by rw [hfy]; rfl)
                  have HFY := Lib.hid hfy
                  have hyc : True := trivial
                  have hgy : True := trivial
                  have HT2 := Lib.hid (show ∀ g : Nat, j = g + 1 → ∀ r ∈ (ch j).1.take (i + 1), fr j r = true → r ∈ (ch g).1 ∧ fr g r = true from fun g' eg r hr hfr => by
                    obtain rfl : g' = g := by have := HG.out; omega
                    rw [HTS.out, List.mem_append, List.mem_singleton] at hr
                    rcases hr with hr | rfl
                    · exact HALL.out _ eg r hr hfr
                    · rw [HFY.out] at hfr; cases hfr)
                  clear hfy hyc hr2 hb hgy hbg hbl2
                  go_wp2
                  refine wp_region_after mixed (by kernel_rfl) ?_
                  repeat (first | go_big_quiet_step ((first | (with_reducible exact calls_after (HV1.out _ (HPQ.out _))) | (with_reducible exact calls_after_same (HH.out _)) | (with_reducible exact calls_after (HV2.out _ (HPQ.out _))))) | quiet_step ((first | (with_reducible exact calls_after (HV1.out _ (HPQ.out _))) | (with_reducible exact calls_after_same (HH.out _)) | (with_reducible exact calls_after (HV2.out _ (HPQ.out _))))))
                  refine wpQuiet_nil ?_
                  intro _ hw'
                  obtain ⟨pq, hw''⟩ := hw'
                  subst hw''
                  have hq := pq.ok
                  have HQ := Lib.hid (And.intro (HPQ.out pq) (And.intro (HRI1.out.later hq) (HRI2.out.later hq)))
                  generalize pq.x = wq at hq HQ ⊢
                  go_wp2
                  go_roundw
                  case rel => exact ⟨i + 1, by omega, by go_num, HQ.out.2.1, HQ.out.2.2, HQ.out.1, HT2.out⟩
                  case measure => simp [intOf]; omega
                | true =>
                  have HV1 := Lib.hid fun W hb => HOUT.out j y W HY.out hb false (by rw [hfy]; rfl)
                  by_cases hyc : y ∈ bl
                  · have HH := Lib.hid fun p : After wr => Has_is (c := d1) (decide_eq_true hyc) HBL.out.1 hm1 (HRI1.out.after p)
                    have HYC := Lib.hid hyc
                    cases hgy : fr g y with
                    | false =>
                      have HV2 := Lib.hid fun W hb => HOUT.out g y W HY.out hb true (by rw [hgy]; rfl)
                      have HE := Lib.hid (HNOW.out false rfl fun q => by have := ((HNOT.out q j hlt).2 g HG.out y HYM.out hfy).2; rw [hgy] at this; cases this)
                      clear hfy hyc hr2 hb hgy hbg hbl2
                      go_wp2
                      refine wp_region_after mixed (by kernel_rfl) ?_
                      repeat (first | go_big_quiet_step ((first | (with_reducible exact calls_after (HV1.out _ (HPQ.out _))) | (with_reducible exact calls_after_same (HH.out _)) | (with_reducible exact calls_after (HV2.out _ (HPQ.out _))))) | quiet_step ((first | (with_reducible exact calls_after (HV1.out _ (HPQ.out _))) | (with_reducible exact calls_after_same (HH.out _)) | (with_reducible exact calls_after (HV2.out _ (HPQ.out _))))))
                      refine wpQuiet_nil ?_
                      intro _ hw'
                      obtain ⟨pq, hw''⟩ := hw'
                      subst hw''
                      have HQ := Lib.hid (HPQ.out pq)
                      generalize pq.x = wq at HQ ⊢
                      go_wp2
                      go_ret
                      exact ⟨false, rfl, below_past HQ.out, HE.out⟩
                    | true =>
                      have HV2 := Lib.hid fun W hb => HOUT.out g y W HY.out hb false (by rw [hgy]; rfl)
                      have HGY := Lib.hid hgy
                      have HT2 := Lib.hid (show ∀ g : Nat, j = g + 1 → ∀ r ∈ (ch j).1.take (i + 1), fr j r = true → r ∈ (ch g).1 ∧ fr g r = true from fun g' eg r hr hfr => by
                        obtain rfl : g' = g := by have := HG.out; omega
                        rw [HTS.out, List.mem_append, List.mem_singleton] at hr
                        rcases hr with hr | rfl
                        · exact HALL.out _ eg r hr hfr
                        · exact ⟨by rw [← HBG.out]; exact HYC.out, HGY.out⟩)
                      clear hfy hyc hr2 hb hgy hbg hbl2
                      go_wp2
                      refine wp_region_after mixed (by kernel_rfl) ?_
                      repeat (first | go_big_quiet_step ((first | (with_reducible exact calls_after (HV1.out _ (HPQ.out _))) | (with_reducible exact calls_after_same (HH.out _)) | (with_reducible exact calls_after (HV2.out _ (HPQ.out _))))) | quiet_step ((first | (with_reducible exact calls_after (HV1.out _ (HPQ.out _))) | (with_reducible exact calls_after_same (HH.out _)) | (with_reducible exact calls_after (HV2.out _ (HPQ.out _))))))
                      refine wpQuiet_nil ?_
                      intro _ hw'
                      obtain ⟨pq, hw''⟩ := hw'
                      subst hw''
                      have hq := pq.ok
                      have HQ := Lib.hid (And.intro (HPQ.out pq) (And.intro (HRI1.out.later hq) (HRI2.out.later hq)))
                      generalize pq.x = wq at hq HQ ⊢
                      go_wp2
                      go_roundw
                      case rel => exact ⟨i + 1, by omega, by go_num, HQ.out.2.1, HQ.out.2.2, HQ.out.1, HT2.out⟩
                      case measure => simp [intOf]; omega
                  · have HH := Lib.hid fun p : After wr => Has_is (c := d1) (decide_eq_false hyc) HBL.out.1 hm1 (HRI1.out.after p)
                    have hgy : True := trivial
                    have HE := Lib.hid (HNOW.out false rfl fun q => hyc (by rw [HBG.out]; exact ((HNOT.out q j hlt).2 g HG.out y HYM.out hfy).1))
                    clear hfy hyc hr2 hb hgy hbg hbl2
                    go_wp2
                    refine wp_region_after mixed (by kernel_rfl) ?_
                    repeat (first | go_big_quiet_step ((first | (with_reducible exact calls_after (HV1.out _ (HPQ.out _))) | (with_reducible exact calls_after_same (HH.out _)) | (with_reducible exact calls_after (HV2.out _ (HPQ.out _))))) | quiet_step ((first | (with_reducible exact calls_after (HV1.out _ (HPQ.out _))) | (with_reducible exact calls_after_same (HH.out _)) | (with_reducible exact calls_after (HV2.out _ (HPQ.out _))))))
                    refine wpQuiet_nil ?_
                    intro _ hw'
                    obtain ⟨pq, hw''⟩ := hw'
                    subst hw''
                    have HQ := Lib.hid (HPQ.out pq)
                    generalize pq.x = wq at HQ ⊢
                    go_wp2
                    go_ret
                    exact ⟨false, rfl, below_past HQ.out, HE.out⟩
            · obtain rfl : i = n2 := by omega
              have HTK := Lib.hid (show ∀ h : Nat, h < j + 1 → (ch h).2 = true ∧ ∀ g : Nat, h = g + 1 → ∀ r ∈ (ch h).1, fr h r = true → r ∈ (ch g).1 ∧ fr g r = true from fun h hh => by
                by_cases e : h = j
                · subst e
                  exact ⟨HOK.out, fun g eg r hr hfr => HALL.out g eg r (by rw [List.take_of_length_le (by have := HN2.out; omega)]; exact hr) hfr⟩
                · exact HV.out h (by omega))
              clear hr2 hb
              go_wp2
              go_roundw
              case rel => exact ⟨j + 1, A2, i, d2, (ch j).1, by omega, by go_num, rfl, HN2.out, by omega, HRI2.out, fun g e => by rw [show g = j by omega], HTK.out, HBI.out⟩
              case measure => simp [intOf]; omega
      · obtain rfl : j = L := by omega
        have HE := Lib.hid (HEND.out HV.out)
        have HWL := Lib.hid (HL.out.symm.trans HWN.out)
        clear hb
        go_wp2
        go_ret
        exact ⟨true, rfl, below_past HB.out, ⟨fun _ => ⟨HWL.out, HE.out⟩, fun _ => rfl⟩⟩
  · have hw2 : ((n : Int) != ((wordsN T N L : Nat) : Int)) = true := by simpa using (fun e => hw (by omega) : ¬ (n : Int) = ((wordsN T N L : Nat) : Int))
    have HE := Lib.hid (HNOL.out hw)
    obtain ⟨WN, hWN⟩ : ∃ WN, WN = wordsN T N L := ⟨_, rfl⟩
    rw [← hWN] at hw2 hw ⊢
    clear hWN
    go_wp2
    go_ret
    exact ⟨false, rfl, below_past HB2.out, HE.out⟩
theorem Good_else {A : Option Addr} {n : Nat} (c : Nat) {w : World} {T N L : Nat} {G : Int} (hr : rightB (T : Int) (N : Int) (L : Int) G = true) (hl : n ≤ maxLen) (hw : ¬ n = wordsN T N L) : Calls Tryz.prog 5 #[.slice A n c, .agg #[.int .i64 (T : Int), .int .i64 (N : Int), .int .i64 (L : Int), .int .u64 G]] w fun e w' => e = .returned (.bool false) ∧ Below w.heap.size w w' := by
  obtain ⟨-, t8, -, s64, -, l8⟩ := right_nat hr
  have HRI := Lib.hid fun W => PlanRef.Right_yes hr W
  have HWD := Lib.hid (show ∀ W, Calls Tryz.prog 29 #[.agg #[.int .i64 (T : Int), .int .i64 (N : Int), .int .i64 (L : Int), .int .u64 G]] W fun e w' => e = .returned (.int .i64 ((wordsN T N L : Nat) : Int)) ∧ Below W.heap.size W w' from fun W => by rw [← words_cast (T := T) (S := N) (L := L) (by omega) (by omega) (by omega)]; exact PlanRef.Words_any T N L G W)
  have hw2 : ((n : Int) != ((wordsN T N L : Nat) : Int)) = true := by simpa using (fun e => hw (by omega) : ¬ (n : Int) = ((wordsN T N L : Nat) : Int))
  generalize wordsN T N L = WN at hw2 hw HWD
  unfold maxLen at hl
  clear hr
  obtain ⟨c_0, c_1, c_2, c_3⟩ := box4 w (.int .i64 T) (.int .i64 N) (.int .i64 L) (.int .u64 G) 24
  go_enter Tryz.func5, Tryz.ntmps5
  go_wp2_with fail
  refine (HRI.out _).mono ?_
  rintro e w1 ⟨rfl, b1⟩
  have HB1 := Lib.hid (show Below (w.heap.size + 1) (w.alloc (.cells #[.int .i64 (T : Int), .int .i64 (N : Int), .int .i64 (L : Int), .int .u64 G] 24)) w1 from by rwa [World.size_alloc] at b1)
  clear b1 c_0 c_1 c_2 c_3
  obtain ⟨c_0, c_1, c_2, c_3⟩ := box4_later HB1.out
  go_wp2_with fail
  refine (HWD.out _).mono ?_
  rintro e w2 ⟨rfl, b2⟩
  have HB2 := Lib.hid (show Below (w.heap.size + 1) (w.alloc (.cells #[.int .i64 (T : Int), .int .i64 (N : Int), .int .i64 (L : Int), .int .u64 G] 24)) w2 from HB1.out.trans (b2.mono (by have := HB1.out.size; rwa [World.size_alloc] at this)))
  clear b2 c_0 c_1 c_2 c_3
  go_wp2
  go_ret
  exact ⟨rfl, below_past HB2.out⟩
/-- Good tells one thing, wherever the list lies. -/
theorem Good_dec {l : List Int} {n : Nat} (hn : n = l.length) (hl : n ≤ maxLen) (hf : BM.Fits l) (T N L G : Int) : ∃ b : Bool, (b = true → ∃ T' N' L' : Nat, T = T' ∧ N = N' ∧ L = L' ∧ rightB T N L G = true ∧ l.length = wordsN T' N' L' ∧ GoodW T' L' N' l) ∧
    ∀ (A : Option Addr) (c : Nat) (W : World), Row W W.heap.size A (flat (encZ .u64) l) → Calls Tryz.prog 5 #[.slice A n c, .agg #[.int .i64 T, .int .i64 N, .int .i64 L, .int .u64 G]] W fun e w' => e = .returned (.bool b) ∧ Below W.heap.size W w' := by
  cases h : rightB T N L G with
  | false => exact ⟨false, fun e => (by cases e), fun A c W _ => Good_wrong h A n c W⟩
  | true =>
    have hr := right_is h
    obtain ⟨a, rfl⟩ := Int.eq_ofNat_of_zero_le (show 0 ≤ T by have := hr.1; omega)
    obtain ⟨b, rfl⟩ := Int.eq_ofNat_of_zero_le (show 0 ≤ N by have := hr.2.2.1; omega)
    obtain ⟨d, rfl⟩ := Int.eq_ofNat_of_zero_le (show 0 ≤ L by have := hr.2.2.2.2.1; omega)
    by_cases hw : n = wordsN a b d
    · have h4 := words_small (T := a) (S := b) (L := d) (by omega) (by omega) (by omega)
      have hg := fun (A : Option Addr) (c : Nat) (W : World) hR => Good_right (A := A) c (w := W) hn (by omega) hR hf h
      by_cases hp : l.length = wordsN a b d ∧ GoodW a d b l
      · exact ⟨true, fun _ => ⟨a, b, d, rfl, rfl, rfl, rfl, hp.1, hp.2⟩, fun A c W hR => (hg A c W hR).mono fun e w' ⟨b', h1, h2, h3⟩ => ⟨by rw [h1, h3.2 hp], h2⟩⟩
      · refine ⟨false, fun e => (by cases e), fun A c W hR => (hg A c W hR).mono fun e w' ⟨b', h1, h2, h3⟩ => ⟨?_, h2⟩⟩
        cases b' with
        | false => exact h1
        | true => exact absurd (h3.1 rfl) hp
    · exact ⟨false, fun e => (by cases e), fun A c W _ => Good_else c h hl hw⟩
end Go.Proofs.YtlagghghbpbcbaaGreatDoor.SeekRef

/- What a start comes to where all is as 18.2 has it, the free slots are in no chain, and the number of the next start is above all that are in one: in plain lists. -/
namespace Go.Proofs.YtlagghghbpbcbaaGreatDoor.StC
set_option maxRecDepth 20000
open DM PM CM BM OM KM MM Runs
open Go.Proofs.YtlagghghbpbcbaaGreatDoor.SeekRef (kept_refs)
open StaM (Fit Started free_cons)
open Go.RowKit (wrap64)
set_option linter.unusedVariables false
set_option linter.unusedSimpArgs false
theorem height_le {dr : Int} {L : Nat} (h : 1 ≤ L) : 1 ≤ DM.heightI dr L ∧ DM.heightI dr L ≤ (L : Int) := by
  unfold DM.heightI
  split
  · omega
  · split
    · omega
    · omega
theorem wrap_u (x : Int) : Go.IntKind.u64.wrap x = x % 18446744073709551616 := rfl
theorem comes_run {T N L : Nat} {l : List Int} {th : Nat} {dl dr i : Int} {rest : List Int} (hT : T ≤ 8) (hN : N ≤ 64) (hL : L ≤ 8) (hL1 : 1 ≤ L) (hlen : l.length = wordsN T N L) (hf : BM.Fits l) (hg : GoodW T L N l) (hth : th < T) (hd : 0 ≤ dl ∧ dl ≤ 1152921504606846976)
    (hF : freeL T N L l = i :: rest) (h2 : getI l 2 ≠ 18446744073709551615) (h3 : ∀ h : Nat, h < L → ∀ c ∈ (chainI T L N l h).1, idx c ∉ freeL T N L l ∧ (keyI T L l c).2 < getI l 2) :
    ∃ g r, g = getI l (atI T L i 0) / 4294967296 ∧ r = RM.ofI g i ∧ ∃ K m sf, K ≤ 4000 ∧ steps (SrM.stA T L (Go.IntKind.u64.wrap dl) (Go.IntKind.u64.wrap (DM.heightI dr L))) (SrM.stT T L th dl (Go.IntKind.u64.wrap dl) (Go.IntKind.u64.wrap (DM.heightI dr L)) (DM.heightI dr L)) K l (SrM.new T th) = some (m, sf) ∧
      SrM.stA T L (Go.IntKind.u64.wrap dl) (Go.IntKind.u64.wrap (DM.heightI dr L)) sf = none ∧ sf.err = 0 ∧ sf.ok = true ∧ sf.hd = WaM.handI r ∧ m.length = l.length ∧ BM.Fits m ∧ (0 ≤ r ∧ r < 18446744073709551616) ∧ idx r = i ∧ r / 4294967296 = g ∧
      (∃ A B, keptL T L N m ((0 : Nat) : Int) = A ++ r :: B ∧ keptL T L N l ((0 : Nat) : Int) = A ++ B ∧ r ∉ A ∧ r ∉ B) ∧ keyI T L m r = (dl, getI l 2) ∧ getI m (atI T L i 0) = SM.stI g 2 ∧ getI m 2 = getI l 2 + 1 ∧ 1 ≤ i ∧ i ≤ (N : Int) := by
  obtain ⟨e1, e2, e3⟩ := free_cons hF
  obtain ⟨t1, tL⟩ := height_le (dr := dr) hL1
  have hin : i ∈ freeL T N L l := by rw [hF]; exact List.mem_cons_self ..
  have f : Fit T N L l th i (Go.IntKind.u64.wrap dl) (Go.IntKind.u64.wrap (DM.heightI dr L)) (DM.heightI dr L) dl :=
    ⟨hT, hN, hL, hL1, hth, hlen, hf, hg, e1, e2, e3, fun h hh c hc => ⟨fun e => (h3 h hh c hc).1 (by rw [e]; exact hin), (h3 h hh c hc).2⟩, h2, by rw [wrap_u]; unfold Word; omega, by rw [wrap_u]; unfold wrap64; omega, by rw [wrap_u]; unfold Word; omega, t1, tL⟩
  obtain ⟨K, m, sf, k1, k2, k3, k4, k5, k6, k7, k8, k9, k10, s⟩ := SrM.start_run f (fun m hm g c hc => (kept_refs hm (g : Int) c hc).1) (g := getI l (atI T L i 0) / 4294967296) (r := RM.ofI (getI l (atI T L i 0) / 4294967296) i) rfl rfl rfl
  have hno : ∀ c ∈ keptL T L N l ((0 : Nat) : Int), idx c ≠ i := fun c hc e => (h3 0 hL1 c (List.mem_filter.1 hc).1).1 (by rw [e]; exact hin)
  obtain ⟨A, B, q1, q2⟩ := s.kept
  refine ⟨_, _, rfl, rfl, K, m, sf, k1, k2, k3, k4, k5, k6, s.len.trans hlen.symm, s.fit, k9, k7, k10, ⟨A, B, q1, q2, fun e => ?_, fun e => ?_⟩, s.key, by have := s.live; rwa [k7] at this, s.next, e2, e3⟩
  · exact hno _ (by rw [q2]; exact List.mem_append_left _ e) k7
  · exact hno _ (by rw [q2]; exact List.mem_append_right _ e) k7
end Go.Proofs.YtlagghghbpbcbaaGreatDoor.StC
