import Derived.Test.YtlegknboccbdpaaDoorScanSeesAllP22
import Derived.Deep.DeepCutAuto
/- The document's Chain (package sundialref18), held to plain lists. -/
namespace Go.Proofs.YtlegknboccbdpaaDoor.SeekRef
set_option maxRecDepth 20000
open Go.ChangeShapes Go.WideShapes Go.RowKit PM CM KM Lay Ints Plan
set_option linter.unusedVariables false
set_option linter.unusedSimpArgs false

/-- References of slots that there are. -/
def Refs (N : Nat) (l : List Int) : Prop := ∀ c ∈ l, (0 ≤ c ∧ c < 18446744073709551616) ∧ 1 ≤ idx c ∧ idx c ≤ (N : Int)
theorem refs_snoc {N : Nat} {l : List Int} {r : Int} (h : Refs N l) (hr : 0 ≤ r ∧ r < 18446744073709551616) (h0 : ¬ idx r = 0) (h1 : idx r ≤ (N : Int)) : Refs N (l ++ [r]) := by
  intro c hc
  rw [List.mem_append, List.mem_singleton] at hc
  have := idx_lo r
  rcases hc with hc | rfl
  · exact h c hc
  · exact ⟨hr, by omega, h1⟩
theorem refs_few {N : Nat} {key : Int → OM.Key} {l : List Int} (h : Refs N l) (hr : Rises key l) (hk : ∀ a b, idx a = idx b → key a = key b) : l.length ≤ N := rises_few hr hk fun c hc => (h c hc).2
theorem plain_fits {x : Int} (h : 0 ≤ x ∧ x < 18446744073709551616) : 0 ≤ plainI x ∧ plainI x < 18446744073709551616 := by unfold plainI; omega
theorem chainF_refs {nx : Int → Int} {key : Int → OM.Key} {N : Nat} (hn : ∀ r, 0 ≤ nx r ∧ nx r < 18446744073709551616) : ∀ (f : Nat) (out : List Int) (r : Int), Refs N out → Rises key out → (0 ≤ r ∧ r < 18446744073709551616) → Refs N (chainF nx key N f out r).1 ∧ Rises key (chainF nx key N f out r).1
  | 0, out, r, h, hr, _ => ⟨h, hr⟩
  | f + 1, out, r, h, hr, h0 => by
    unfold chainF
    split
    · exact ⟨h, hr⟩
    · split
      · exact ⟨h, hr⟩
      · obtain ⟨h1, h2⟩ := bars_no (by simpa using ‹¬ bars key N out r = true›)
        exact chainF_refs hn f _ _ (refs_snoc h h0 ‹_› h1) (rises_snoc hr h2) (plain_fits (hn r))
theorem chain_refs {T L : Int} {N : Nat} {l : List Int} (hf : BM.Fits l) (h : Int) : Refs N (chainI T L N l h).1 ∧ Rises (keyI T L l) (chainI T L N l h).1 := by
  unfold chainI
  split
  · exact ⟨fun c hc => (by cases hc), List.Pairwise.nil⟩
  · exact chainF_refs (fun r => BM.fits_get hf _) _ _ _ (fun c hc => (by cases hc)) List.Pairwise.nil (BM.fits_get hf _)
theorem chain_few {T L : Int} {N : Nat} {l : List Int} (hf : BM.Fits l) (h : Int) : (chainI T L N l h).1.length ≤ N := refs_few (chain_refs hf h).1 (chain_refs hf h).2 fun a b e => key_same e
theorem chainF_none {nx : Int → Int} {key : Int → OM.Key} {N : Int} {f : Nat} {out : List Int} {r : Int} (h : idx r = 0) : chainF nx key N (f + 1) out r = (out, decide (r = 0)) := by unfold chainF; rw [if_pos h]
theorem chainF_bars {nx : Int → Int} {key : Int → OM.Key} {N : Int} {f : Nat} {out : List Int} {r : Int} (h : ¬ idx r = 0) (hb : bars key N out r = true) : chainF nx key N (f + 1) out r = (out, false) := by unfold chainF; rw [if_neg h, if_pos hb]
theorem chainF_on {nx : Int → Int} {key : Int → OM.Key} {N : Int} {f : Nat} {out : List Int} {r : Int} (h : ¬ idx r = 0) (hb : bars key N out r = false) : chainF nx key N (f + 1) out r = chainF nx key N f (out ++ [r]) (plainI (nx r)) := by rw [chainF, if_neg h, if_neg (by rw [hb]; simp)]
theorem bars_big {key : Int → OM.Key} {N : Int} {out : List Int} {r : Int} (h : N < idx r) : bars key N out r = true := by unfold bars; simp [h]
theorem bars_nil {key : Int → OM.Key} {N : Int} {r : Int} (h : ¬ N < idx r) : bars key N [] r = false := by unfold bars; simp [h]
theorem bars_last {key : Int → OM.Key} {N : Int} {out : List Int} {r q : Int} (h : ¬ N < idx r) (hq : out.getLast? = some q) : bars key N out r = !OM.ltK (key q) (key r) := by unfold bars; simp [h, hq]

/-- What a chain ends in: the list in new memory, and whether it is whole. -/
def Chained (w : World) (x : List Int × Bool) (e : Ending) (w' : World) : Prop := ∃ A n c, e = .returned (.tuple #[.slice A n c, .bool x.2]) ∧ n = x.1.length ∧ Row w' w'.heap.size A (flat (encZ .u64) x.1) ∧ (∀ a, A = some a → w.heap.size ≤ a.block) ∧ Below w.heap.size w w'
def lenV : Value → Nat
  | .slice _ n _ => n
  | _ => 0
/-- References of slots that there are, of any count. -/
def RefsI (N : Int) (l : List Int) : Prop := ∀ c ∈ l, (0 ≤ c ∧ c < 18446744073709551616) ∧ 1 ≤ idx c ∧ idx c ≤ N
theorem refsI_snoc {N : Int} {l : List Int} {r : Int} (h : RefsI N l) (hr : 0 ≤ r ∧ r < 18446744073709551616) (h0 : ¬ idx r = 0) (h1 : idx r ≤ N) : RefsI N (l ++ [r]) := by
  intro c hc
  rw [List.mem_append, List.mem_singleton] at hc
  have := idx_lo r
  rcases hc with hc | rfl
  · exact h c hc
  · exact ⟨hr, by omega, h1⟩
theorem refsI_few {N : Int} {key : Int → OM.Key} {l : List Int} (h : RefsI N l) (hr : Rises key l) (hk : ∀ a b, idx a = idx b → key a = key b) : l.length ≤ N.toNat ∧ l.length ≤ 2147483647 := by
  refine ⟨rises_few hr hk fun c hc => ?_, rises_few hr hk fun c hc => ?_⟩
  · have := (h c hc).2
    omega
  · have h1 := h c hc
    have : idx c ≤ 2147483647 := by unfold idx; omega
    exact ⟨h1.2.1, this⟩
/-- Amid the loop. -/
def Amidst (w0 : World) (B : Nat) (nx : Int → Int) (key : Int → OM.Key) (N : Int) (x : List Int × Bool) (ov rv : Value) (wr : World) : Prop :=
  ∃ (out : List Int) (n : Nat) (r : Int), rv = .int .u64 r ∧ n = out.length ∧ wr.ownsRow B 22 1 ov n (flat (encZ .u64) out) ∧ Below B w0 wr ∧ (0 ≤ r ∧ r < 18446744073709551616) ∧ RefsI N out ∧ Rises key out ∧ chainF nx key N (N.toNat + 1 - n) out r = x
set_option maxHeartbeats 2000000 in
theorem Chain_all {A : Option Addr} {l : List Int} {n : Nat} (c : Nat) {w : World} (hn : n = l.length) (hl : n ≤ 9223372036854775807) (hR : Row w w.heap.size A (flat (encZ .u64) l)) (hf : BM.Fits l) {T L G N : Int} (h : Int) :
    Calls Tryd.prog 4 #[.slice A n c, .agg #[.int .i64 T, .int .i64 (N : Int), .int .i64 L, .int .u64 G], .int .i64 h] w (Chained w (chainI T L N l h)) := by
  have HROW := Lib.hid (show ∀ W, Below (w.heap.size + 1) (w.alloc (.cells #[.int .i64 T, .int .i64 (N : Int), .int .i64 L, .int .u64 G] 24)) W → Row W W.heap.size A (flat (encZ .u64) l) from fun W hb => hR.later (below_past hb))
  have HWAY := Lib.hid (show ∀ (r : Int) W, (0 ≤ r ∧ r < 18446744073709551616) → Below (w.heap.size + 1) (w.alloc (.cells #[.int .i64 T, .int .i64 (N : Int), .int .i64 L, .int .u64 G] 24)) W → Calls Tryd.prog 22 #[.slice A n c, .agg #[.int .i64 T, .int .i64 (N : Int), .int .i64 L, .int .u64 G], .int .u64 r, .int .i64 h] W fun e w' => e = .returned (.int .u64 (wayI T L l r h)) ∧ Below W.heap.size W w' from fun r W hr hb => Way_all c hn hl (hR.later (below_past hb)) T N L G h hr)
  have HKEY := Lib.hid (show ∀ (r : Int) W, (0 ≤ r ∧ r < 18446744073709551616) → Below (w.heap.size + 1) (w.alloc (.cells #[.int .i64 T, .int .i64 (N : Int), .int .i64 L, .int .u64 G] 24)) W → Calls Tryd.prog 18 #[.slice A n c, .agg #[.int .i64 T, .int .i64 (N : Int), .int .i64 L, .int .u64 G], .int .u64 r] W fun e w' => e = .returned (.agg #[.int .i64 (keyI T L l r).1, .int .u64 (keyI T L l r).2]) ∧ Below W.heap.size W w' from fun r W hr hb => Key_all c hn hl (hR.later (below_past hb)) T N L G hr)
  have HFIT := Lib.hid (show ∀ r, 0 ≤ wayI T L l r h ∧ wayI T L l r h < 18446744073709551616 from fun r => BM.fits_get hf _)
  have HSAME := Lib.hid (show ∀ a b, idx a = idx b → keyI T L l a = keyI T L l b from fun a b e => key_same e)
  obtain ⟨x, hx⟩ : ∃ x, x = chainI T L N l h := ⟨_, rfl⟩
  rw [← hx]
  unfold chainI at hx
  have HZ := Lib.hid (HWAY.out 0 (w.alloc (.cells #[.int .i64 T, .int .i64 (N : Int), .int .i64 L, .int .u64 G] 24)) (by omega) (Below.refl _ _))
  have HF0 := Lib.hid (HFIT.out 0)
  obtain ⟨nx, hnx⟩ : ∃ nx : Int → Int, nx = fun r => wayI T L l r h := ⟨_, rfl⟩
  have HWAY2 := Lib.hid (show ∀ (r : Int) W, (0 ≤ r ∧ r < 18446744073709551616) → Below (w.heap.size + 1) (w.alloc (.cells #[.int .i64 T, .int .i64 (N : Int), .int .i64 L, .int .u64 G] 24)) W → Calls Tryd.prog 22 #[.slice A n c, .agg #[.int .i64 T, .int .i64 (N : Int), .int .i64 L, .int .u64 G], .int .u64 r, .int .i64 h] W fun e w' => e = .returned (.int .u64 (nx r)) ∧ Below W.heap.size W w' from fun r W a b => by rw [hnx]; exact HWAY.out r W a b)
  have HFIT2 := Lib.hid (show ∀ r, 0 ≤ nx r ∧ nx r < 18446744073709551616 from fun r => by rw [hnx]; exact HFIT.out r)
  rw [← hnx] at hx
  generalize wayI T L l 0 h = w0 at HZ HF0 hx
  generalize keyI T L l = key at HKEY HSAME hx
  clear hnx HWAY HFIT hR hn hf
  obtain ⟨c_0, c_1, c_2, c_3⟩ := box4 w (.int .i64 T) (.int .i64 N) (.int .i64 L) (.int .u64 G) 24
  have HM := Lib.hid fun W => Ref02.Marked_any w0 HF0.out.1 HF0.out.2 W
  by_cases hmk : w0 % 2 = 1
  · rw [if_pos hmk] at hx
    rw [decide_eq_true hmk] at HM
    subst hx
    clear hmk
    go_enter Tryd.func4, Tryd.ntmps4
    go_wp2_with fail
    refine HZ.out.mono ?_
    rintro e w1 ⟨rfl, b1⟩
    have HB := Lib.hid (show Below (w.heap.size + 1) (w.alloc (.cells #[.int .i64 T, .int .i64 (N : Int), .int .i64 L, .int .u64 G] 24)) w1 from by have h1 := b1; rwa [World.size_alloc] at h1)
    clear b1 c_0 c_1 c_2 c_3
    go_wp2_with fail
    refine (HM.out _).mono ?_
    rintro e w' ⟨rfl, rfl⟩
    go_wp2
    refine bodyPost_ret (v := .tuple #[.slice none 0 0, .bool false]) (by simp [results, Tryd.results4, go_sem]) rfl ?_
    exact ⟨none, 0, 0, rfl, rfl, Row.none_, fun a e => (by cases e), below_past HB.out⟩
  · rw [if_neg hmk] at hx
    rw [decide_eq_false hmk] at HM
    have HX := Lib.hid hx
    obtain ⟨i0, hi0, hz0, hz1, hz2⟩ := info_parts WordRows.info_w
    clear hmk hx
    go_enter Tryd.func4, Tryd.ntmps4
    go_wp2_with fail
    refine HZ.out.mono ?_
    rintro e w1 ⟨rfl, b1⟩
    have H0 := Lib.hid (show Amidst (w.alloc (.cells #[.int .i64 T, .int .i64 (N : Int), .int .i64 L, .int .u64 G] 24)) (w.heap.size + 1) nx key N x (.slice none 0 0) (.int .u64 w0) w1 from ⟨[], 0, w0, rfl, rfl, World.ownsRow_nil _ _ _ _, by rwa [World.size_alloc] at b1, HF0.out, fun c hc => (by cases hc), List.Pairwise.nil, HX.out.symm⟩)
    clear b1 c_0 c_1 c_2 c_3
    go_wp2_with fail
    refine (HM.out _).mono ?_
    rintro e w' ⟨rfl, rfl⟩
    go_wp2
    go_loopw [8, 9] (fun ov rv wr => Amidst (w.alloc (.cells #[.int .i64 T, .int .i64 (N : Int), .int .i64 L, .int .u64 G] 24)) (w.heap.size + 1) nx key N x ov rv wr) (fun ov _ _ => 2147483648 - lenV ov)
    case atStart => exact H0.out
    case round =>
      obtain ⟨out, m, r, rfl, hm, ho, hb, hr, hrf, hri, hch⟩ := hrel
      obtain ⟨A', c', rfl, -⟩ := slice_of_own ho
      have hmN : m ≤ N.toNat ∧ m ≤ 2147483647 := by have := refsI_few hrf hri HSAME.out; omega
      obtain ⟨f, hf⟩ : ∃ f, N.toNat + 1 - m = f + 1 := ⟨N.toNat - m, by omega⟩
      have hm31 := hmN.2
      clear hmN
      rw [hf] at hch
      have HO := Lib.hid ho
      have HB := Lib.hid hb
      have HMM := Lib.hid hm
      have HRF := Lib.hid (And.intro hrf hri)
      have HRR := Lib.hid hr
      have HNONE := Lib.hid fun W => Ref02.None_any r hr.1 hr.2 W
      have HIDX := Lib.hid fun W => Ref02.Index_any r hr.1 hr.2 W
      obtain ⟨c_0, c_1, c_2, c_3⟩ := box4_later hb
      by_cases h0 : idx r = 0
      · rw [chainF_none h0] at hch
        have HE := Lib.hid hch
        unfold idx at h0
        rw [decide_eq_true h0] at HNONE
        clear ho hb hm hrf hri hr hch h0
        go_wp2_with fail
        go_wp2_with fail
        refine (HNONE.out _).mono ?_
        rintro e w' ⟨rfl, rfl⟩
        by_cases hz : r = 0
        · subst hz
          go_wp2
          refine bodyPost_ret (v := .tuple #[.slice A' m c', .bool true]) (by simp [results, Tryd.results4, go_sem]) rfl ?_
          rw [← HE.out]
          exact ⟨A', m, c', rfl, HMM.out, Row.of_own HO.out, fun a e => by cases e; have := (HO.out.lt a.block rfl).1; omega, below_past HB.out⟩
        · have hz2 : (r == 0) = false := by simpa using hz
          have HZ0 := Lib.hid (decide_eq_false hz)
          clear hz
          go_wp2
          refine bodyPost_ret (v := .tuple #[.slice A' m c', .bool false]) (by simp [results, Tryd.results4, go_sem]) rfl ?_
          rw [← HE.out, HZ0.out]
          exact ⟨A', m, c', rfl, HMM.out, Row.of_own HO.out, fun a e => by cases e; have := (HO.out.lt a.block rfl).1; omega, below_past HB.out⟩
      · unfold idx at h0
        rw [decide_eq_false h0] at HNONE
        have H0I := Lib.hid h0
        have HCH := Lib.hid hch
        have HF := Lib.hid hf
        have HKR := Lib.hid fun W hb => HKEY.out r W HRR.out hb
        clear hm hrf hri hr hch hf h0
        go_wp2_with fail
        go_wp2_with fail
        refine (HNONE.out _).mono ?_
        rintro e w' ⟨rfl, rfl⟩
        go_upto_region 7 with fail
        go_cut [46] (fun s wx => s = .bool (bars key N out r) ∧ Below (w.heap.size + 1) (w.alloc (.cells #[.int .i64 T, .int .i64 (N : Int), .int .i64 L, .int .u64 G] 24)) wx ∧ wx.ownsRow (w.heap.size + 1) 22 1 (.slice A' m c') m (flat (encZ .u64) out))
        case first =>
          have C_0 := fun p : After wr => p.cell c_0
          have C_1 := fun p : After wr => p.cell c_1
          have C_2 := fun p : After wr => p.cell c_2
          have C_3 := fun p : After wr => p.cell c_3
          have HPQ := Lib.hid (show ∀ p : After wr, Below (w.heap.size + 1) (w.alloc (.cells #[.int .i64 T, .int .i64 (N : Int), .int .i64 L, .int .u64 G] 24)) p.x from fun p => HB.out.trans (p.ok.mono (by have := HB.out.size; rwa [World.size_alloc] at this)))
          by_cases hbig : (N : Int) < idx r
          · have HBV := Lib.hid (bars_big (key := key) (out := out) hbig)
            have hd : decide ((N : Int) < r % 4294967296 / 2) = true := decide_eq_true hbig
            unfold idx at hbig
            clear c_0 c_1 c_2 c_3 hb ho
            refine wp_region_after mixed (by kernel_rfl) ?_
            repeat (first | go_big_quiet_step ((with_reducible exact calls_after_same (HIDX.out _))) | quiet_step ((with_reducible exact calls_after_same (HIDX.out _))))
            refine wpQuiet_nil ?_
            intro _ hw'
            obtain ⟨pq, hw''⟩ := hw'
            subst hw''
            go_wp2
            go_meet
            case rel => exact ⟨by rw [HBV.out], HPQ.out pq, own_later HO.out pq.ok⟩
          · have hd : decide ((N : Int) < r % 4294967296 / 2) = false := decide_eq_false hbig
            rcases List.eq_nil_or_concat out with hnil | ⟨ys, q, hq⟩
            · subst hnil
              have HBV := Lib.hid (bars_nil (key := key) hbig)
              unfold idx at hbig
              have hm0 : m = 0 := HMM.out
              subst hm0
              clear c_0 c_1 c_2 c_3 hb ho
              refine wp_region_after mixed (by kernel_rfl) ?_
              repeat (first | go_big_quiet_step ((with_reducible exact calls_after_same (HIDX.out _))) | quiet_step ((with_reducible exact calls_after_same (HIDX.out _))))
              refine wpQuiet_nil ?_
              intro _ hw'
              obtain ⟨pq, hw''⟩ := hw'
              subst hw''
              go_wp2
              go_meet
              case rel => exact ⟨by rw [HBV.out], HPQ.out pq, own_later HO.out pq.ok⟩
            · have hql : out.getLast? = some q := by rw [hq]; simp
              have HBV := Lib.hid (bars_last (key := key) hbig hql)
              unfold idx at hbig
              have HQR := Lib.hid (show 0 ≤ q ∧ q < 18446744073709551616 from (HRF.out.1 q (by rw [hq]; simp)).1)
              obtain ⟨j, hj⟩ : ∃ j, m = j + 1 := ⟨ys.length, by have h1 := HMM.out; rw [hq] at h1; simpa using h1⟩
              have hjq : out[j]? = some q := by
                have h1 := HMM.out
                rw [hq] at h1 ⊢
                rw [List.concat_eq_append] at h1 ⊢
                rw [List.length_append, List.length_singleton] at h1
                rw [List.getElem?_append_right (by omega), show j - ys.length = 0 by omega]
                rfl
              subst hj
              have HKQ := Lib.hid fun W hb => HKEY.out q W HQR.out hb
              obtain ⟨b0, o0, ea, -, hc0⟩ := int_at (Row.of_own HO.out) (show j < out.length by have := HMM.out; omega)
              have q0 := hc0 j q hjq
              have Q_0 := fun p : After wr => p.cell q0
              have hix : IntKind.i64.wrap (((j + 1 : Nat) : Int) - 1) = (j : Int) := by rw [show ((j + 1 : Nat) : Int) - 1 = (j : Int) by omega]; exact IntWalk.i64_in _ ⟨by omega, by omega⟩
              have hjm : (j : Int) < ((j + 1 : Nat) : Int) := by omega
              have hpos : decide ((0 : Int) < ((j + 1 : Nat) : Int)) = true := decide_eq_true (by omega)
              have HLS := Lib.hid fun W => LessRef.Less_any (key q) (key r) W
              generalize OM.ltK (key q) (key r) = b at HLS HBV
              generalize key q = kq at HKQ HLS
              generalize key r = kr at HKR HLS
              subst ea
              clear c_0 c_1 c_2 c_3 hb ho hc0 hjq hq hql q0
              refine wp_region_after mixed (by kernel_rfl) ?_
              repeat (first | go_big_quiet_step ((first | (with_reducible exact calls_after_same (HIDX.out _)) | (with_reducible exact calls_after (HKQ.out _ (HPQ.out _))) | (with_reducible exact calls_after (HKR.out _ (HPQ.out _))) | (with_reducible exact calls_after (HLS.out _)))) | quiet_step ((first | (with_reducible exact calls_after_same (HIDX.out _)) | (with_reducible exact calls_after (HKQ.out _ (HPQ.out _))) | (with_reducible exact calls_after (HKR.out _ (HPQ.out _))) | (with_reducible exact calls_after (HLS.out _)))))
              refine wpQuiet_nil ?_
              intro _ hw'
              obtain ⟨pq, hw''⟩ := hw'
              subst hw''
              go_wp2
              go_meet
              case rel => exact ⟨by rw [HBV.out], HPQ.out pq, own_later HO.out pq.ok⟩
        case rest =>
          obtain ⟨rfl, hb2, ho2⟩ := hcut
          have HB2 := Lib.hid hb2
          have HO2 := Lib.hid ho2
          clear hb ho c_0 c_1 c_2 c_3 hb2 ho2 HO HB
          cases hbv : bars key N out r with
          | true =>
            have HE := Lib.hid (HCH.out.symm.trans (chainF_bars H0I.out hbv))
            clear hbv
            go_wp2
            refine bodyPost_ret (v := .tuple #[.slice A' m c', .bool false]) (by simp [results, Tryd.results4, go_sem]) rfl ?_
            rw [HE.out]
            exact ⟨A', m, c', rfl, HMM.out, Row.of_own HO2.out, fun a e => by cases e; have := (HO2.out.lt a.block rfl).1; omega, below_past HB2.out⟩
          | false =>
            have HE := Lib.hid (chainF_on (nx := nx) (f := f) H0I.out hbv)
            have HBN := Lib.hid (bars_no hbv)
            have HNX := Lib.hid (HFIT2.out r)
            have HPL := Lib.hid fun W => Ref02.Plain_any (nx r) HNX.out.1 HNX.out.2 W
            have HWY := Lib.hid fun W hb => HWAY2.out r W HRR.out hb
            have HSZ := Lib.hid (show w.heap.size + 1 ≤ wc.heap.size from by have h1 := HB2.out.size; rwa [World.size_alloc] at h1)
            clear hbv
            go_wp2_with (at_builtin; refine wpList_append_only _ rfl (.tmp 48) (.tmp 50) 25 rfl (w.heap.size + 1) 22 i0 _ 1 8 Tryd.underlying25 hi0 hz0 hz1 hz2 rfl (by decide) _ m _ rfl (HO2.out.alloc _) ⟨wc.heap.size, 0, none⟩ 1 1 (encZ .u64 r) rfl (by decide) rfl (cells_new _ _ _) (encZ_one _ _) (by simp only [maxLen]; omega) (by omega) (by have := HSZ.out; simp; omega) ?_; intro g2 cap w3 ho3 hg3 hlt3 hor3 hon3; have HO3 := Lib.hid ho3; have HB3 := Lib.hid (show Below (w.heap.size + 1) (w.alloc (.cells #[.int .i64 T, .int .i64 (N : Int), .int .i64 L, .int .u64 G] 24)) w3 from (HB2.out.alloc HSZ.out _).trans (hon3.below (by have := HSZ.out; simp; omega) (fun k hk => (HO2.out.lt k hk).1))); obtain ⟨c_0, c_1, c_2, c_3⟩ := box4_later HB3.out; clear ho3 hg3 hlt3 hor3 hon3)
            refine (HWY.out _ HB3.out).mono ?_
            rintro e w4 ⟨rfl, b4⟩
            have HB4 := Lib.hid (show Below (w.heap.size + 1) (w.alloc (.cells #[.int .i64 T, .int .i64 (N : Int), .int .i64 L, .int .u64 G] 24)) w4 from HB3.out.trans (b4.mono (by have := HB3.out.size; rwa [World.size_alloc] at this)))
            have HO4 := Lib.hid (own_later HO3.out b4)
            have H4 := Lib.hid (show Amidst (w.alloc (.cells #[.int .i64 T, .int .i64 (N : Int), .int .i64 L, .int .u64 G] 24)) (w.heap.size + 1) nx key N x (.slice (some ⟨g2, 0, none⟩) (m + 1) cap) (.int .u64 (nx r - nx r % 2)) w4 from
              ⟨out ++ [r], m + 1, plainI (nx r), rfl, by rw [List.length_append, ← HMM.out]; rfl, by rw [flat_append, flat_one]; exact HO4.out, HB4.out, plain_fits HNX.out, refsI_snoc HRF.out.1 HRR.out H0I.out HBN.out.1, rises_snoc HRF.out.2 HBN.out.2, by rw [show N.toNat + 1 - (m + 1) = f by have := HF.out; omega, ← HE.out]; exact HCH.out⟩)
            clear b4 c_0 c_1 c_2 c_3
            go_wp2_with fail
            go_wp2_with fail
            refine (HPL.out _).mono ?_
            rintro e w' ⟨rfl, rfl⟩
            go_wp2
            go_roundw
            case rel => exact H4.out
            case measure => simp [lenV]; omega
theorem Chain_any {A : Option Addr} {l : List Int} {n : Nat} (c : Nat) {w : World} (hn : n = l.length) (hl : n ≤ 1000000) (hR : Row w w.heap.size A (flat (encZ .u64) l)) (hf : BM.Fits l) {T L G : Int} {N : Nat} (hN : N ≤ 64) (h : Int) :
    Calls Tryd.prog 4 #[.slice A n c, .agg #[.int .i64 T, .int .i64 (N : Int), .int .i64 L, .int .u64 G], .int .i64 h] w (Chained w (chainI T L N l h)) := Chain_all c hn (by omega) hR hf h
end Go.Proofs.YtlegknboccbdpaaDoor.SeekRef
