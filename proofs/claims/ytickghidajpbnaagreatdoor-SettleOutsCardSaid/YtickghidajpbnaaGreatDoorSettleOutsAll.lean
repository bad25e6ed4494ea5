import Derived.Test.YtickghidajpbnaaGreatDoorSettleOutsAllP19
import Derived.Test.YtickghidajpbnaaGreatDoorSettleOutsAllP21
import Derived.Test.YtickghidajpbnaaGreatDoorSettleOutsAllP27
import Derived.Test.YtickghidajpbnaaGreatDoorSettleOutsAllP28
import Derived.Test.YtickghidajpbnaaGreatDoorSettleOutsAllP29
import Derived.Test.YtickghidajpbnaaGreatDoorSettleOutsAllP30
import Derived.Test.YtickghidajpbnaaGreatDoorTie
import Derived.Test.YtickghidajpbnaaGreatDoorCards
/- SettleOuts: for every plan, every list of words and every reference, where the document calls the chains that the words tell right, and the reference is one (without a mark) of a slot that there is, whose ways on are marked wherever it is in a chain: with 2 as how many hold the timer, of two settlers for it, made and done alone to a memory of these words one behind the other, each is done soon, the first one tells nothing as retired, the last one the reference and the epoch that the words have, nobody holds the timer then, it is in no chain, and all chains have all without a mark that they had (else just the chapter's example is asked); and that example comes out; the arguments read as they did. Condition: the library's listed tables hold what its own text lays in them (tied by the card). -/
namespace Go.Proofs.YtickghidajpbnaaGreatDoor.SettleOuts
set_option maxRecDepth 20000
open Go.ChangeShapes Go.WideShapes Go.ChangeAt Go.RowKit CM DM PM KM StM MM Runs Lay Plan Ints Go.Proofs.YtickghidajpbnaaGreatDoor.Task
open Go.Proofs.YtickghidajpbnaaGreatDoor.Cells (Mem Does Of_any Words_any Store_any Load_any)
open Go.Proofs.YtickghidajpbnaaGreatDoor.Stl (Settles Settle_any Settle_next Settle_tell Retired_any)
open Go.Proofs.YtickghidajpbnaaGreatDoor.SettleAlone (alone_any)
open Go.Proofs.YtickghidajpbnaaGreatDoor.SeekRef (Good_dec Chain_any Kept_any Key_any Has_is Out_is Chained right_nat kept_few kept_refs chain_refs chain_few)
open Go.Proofs.YtickghidajpbnaaGreatDoor.Law23 (awake_any wf_u64 wf_i64 chain ba)
set_option linter.unusedVariables false
set_option linter.unusedSimpArgs false

theorem held {W : World} (h : laidMetH Tryz.prog Rows.settleOutsRow.laid W) : True := trivial
theorem past_later {w W W' : World} {o1 : Obj} (h : Below (w.heap.size + 1) (w.alloc o1) W) (hb : Below W.heap.size W W') : Below (w.heap.size + 1) (w.alloc o1) W' := h.trans (hb.mono (by have := h.size; simp only [World.size_alloc] at this; omega))
theorem past_old {w W : World} {o1 : Obj} (h : Below (w.heap.size + 1) (w.alloc o1) W) : Below w.heap.size w W := (box_below w o1).trans (h.mono (by omega))
theorem past_only {w W W' : World} {o1 : Obj} {R : Nat → Prop} (h : Below (w.heap.size + 1) (w.alloc o1) W) (ho : Only R W W') (hR : ∀ k, R k → w.heap.size + 1 ≤ k) : Below (w.heap.size + 1) (w.alloc o1) W' := h.trans (ho.below (by have := h.size; simp only [World.size_alloc] at this; omega) hR)
theorem past_lt {w W : World} {o1 : Obj} (h : Below (w.heap.size + 1) (w.alloc o1) W) : w.heap.size + 1 ≤ W.heap.size := by have := h.size; simpa only [World.size_alloc] using this
theorem Words_new {p h n : Nat} {l : List Int} {w : World} (hM : Mem w p h n l) : Calls Tryz.prog 18 #[.pointer (some ⟨p, 0, none⟩)] w fun e w' => ∃ A, e = .returned (.slice A n n) ∧ Row w' w'.heap.size A (flat (encZ .u64) l) ∧ Below w.heap.size w w' :=
  (Words_any hM).mono fun _ _ ⟨he, ho, hb⟩ => ⟨_, he, Row.of_own ho, hb⟩
/-- Two retired slots compared. -/
theorem eqlR (x1 x2 y1 y2 : Int) (w : World) : (binOp .eql 47 (.agg #[.int .u64 x1, .int .u64 x2]) (.agg #[.int .u64 y1, .int .u64 y2])).run Tryz.prog w = .ok (.bool (decide (x1 = y1 ∧ x2 = y2))) w := by
  have u4 := Tryz.underlying22
  have a4 := Tryz.isAgg22
  have z4 := Tryz.sizeOf22
  have hS : Tryz.prog.underlying 47 = some (.struct (Tryz.prog.fieldsOf 47)) := by kernel_rfl
  have hp : Tryz.prog.stoodInHeld 47 = false := by kernel_rfl
  rw [run_eql_struct, show (10000 : Nat) = 9999 + 1 from rfl, run_equalIn_agg w 9999 47 _ _ hS hp]
  simp only [Program.fieldsOf, Tryz.underlying47]
  go_simp
  by_cases h1 : x1 = y1 <;> by_cases h2 : x2 = y2 <;> simp [h1, h2]
theorem guardR : Tryz.prog.eqGuardType Tryz.prog.depth 47 = false := by kernel_rfl
/-- What letting go twice comes to, in plain lists. -/
theorem outs_fun {T N L : Nat} {r dl sq : Int} (hT : T ≤ 8) (hN : N ≤ 64) (hL : L ≤ 8) (hL1 : 1 ≤ L) {l : List Int} (hl : l.length = wordsN T N L) (hf : BM.Fits l) (hg : GoodW T L N l) (h1 : 1 ≤ idx r) (h2 : idx r ≤ (N : Int)) (hkey : keyI T L l r = (dl, sq))
    (hm : ∀ h : Nat, h < L → r ∈ (chainI T L N l h).1 → freeB T L l h r = false) :
    ∃ sa sb m, alone (settleA T L r) (settleT L dl sq) 2000 (setI l (atI T L (idx r) 4) 2) StM.new = (setI l (atI T L (idx r) 4) 1, sa) ∧ settleA T L r sa = none ∧ sa.wt = false ∧ alone (settleA T L r) (settleT L dl sq) 2000 (setI l (atI T L (idx r) 4) 1) StM.new = (m, sb) ∧ settleA T L r sb = none ∧ sb.wt = true ∧ sb.ep = getI l 0 ∧
      m.length = wordsN T N L ∧ BM.Fits m ∧ BM.Fits (setI l (atI T L (idx r) 4) 2) ∧ BM.Fits (setI l (atI T L (idx r) 4) 1) ∧ getI m (atI T L (idx r) 4) = 0 ∧ ∀ h : Nat, h < L → (∃ cl, chainI T L N m h = (cl, true) ∧ ¬ r ∈ cl) ∧ keptL T L N m h = keptL T L N l h := by
  obtain ⟨sa, a1, a2, a3⟩ := first_run (dl := dl) (sq := sq) (hold_in hT hN hL hl h1 h2)
  obtain ⟨m, sb, b1, b2, b3, b4, b5, b6, b7, b8⟩ := last_run hT hN hL hL1 hl hf hg h1 h2 hkey hm
  exact ⟨sa, sb, m, a1, a2, a3, b1, b2, b3, b4, b5, b6, BM.fits_set hf _ (by omega), BM.fits_set hf _ (by omega), b7, b8⟩

set_option maxHeartbeats 4000000 in
theorem walk_any (T N L G r : Int) (A : Option Addr) (l : List Int) (c : Nat) (w : World) (hR : Row w w.heap.size A (flat (encZ .u64) l)) (hl : l.length ≤ maxLen) (hf : BM.Fits l) (hr : Word r) :
    Calls Tryz.prog 3 #[.agg #[.int .i64 T, .int .i64 N, .int .i64 L, .int .u64 G], .slice A l.length c, .int .u64 r] w fun e w' => e = .returned (.bool true) ∧ Below w.heap.size w w' := by
  obtain ⟨n, hn⟩ : ∃ n, n = l.length := ⟨_, rfl⟩
  rw [← hn] at hl ⊢
  have HN := Lib.hid hn
  have HF := Lib.hid hf
  have HROW := Lib.hid (show ∀ W, Below (w.heap.size + 1) (w.alloc (.cells #[.int .i64 T, .int .i64 N, .int .i64 L, .int .u64 G] 24)) W → Row W W.heap.size A (flat (encZ .u64) l) from fun W hb => hR.later (past_old hb))
  have HBX := Lib.hid (show ∀ W, Below (w.heap.size + 1) (w.alloc (.cells #[.int .i64 T, .int .i64 N, .int .i64 L, .int .u64 G] 24)) W → (W.cell? ⟨w.heap.size, 0, none⟩ = some (.int .i64 T) ∧ W.cell? ⟨w.heap.size, 1, none⟩ = some (.int .i64 N) ∧ W.cell? ⟨w.heap.size, 2, none⟩ = some (.int .i64 L) ∧ W.cell? ⟨w.heap.size, 3, none⟩ = some (.int .u64 G)) from fun W hb => box4_later hb)
  have HRW := Lib.hid hr
  obtain ⟨i, hi⟩ : ∃ i, i = idx r := ⟨_, rfl⟩
  have HI := Lib.hid (show ∀ W : World, Calls Tryz.prog 4 #[.int .u64 r] W fun e w' => e = .returned (.int .i64 i) ∧ W = w' from fun W => by rw [hi]; exact Refer.Index_any r hr.1 hr.2 W)
  have HIR := Lib.hid hi
  have HMK := Lib.hid (show ∀ W : World, Calls Tryz.prog 6 #[.int .u64 r] W fun e w' => e = .returned (.bool (decide (r % 2 = 1))) ∧ W = w' from fun W => Refer.Marked_any r hr.1 hr.2 W)
  obtain ⟨b, hb, hgd⟩ := Good_dec hn hl hf T N L G
  have HGD := Lib.hid (show ∀ W, Below (w.heap.size + 1) (w.alloc (.cells #[.int .i64 T, .int .i64 N, .int .i64 L, .int .u64 G] 24)) W → Calls Tryz.prog 5 #[.slice A n c, .agg #[.int .i64 T, .int .i64 N, .int .i64 L, .int .u64 G]] W fun e w' => e = .returned (.bool b) ∧ Below W.heap.size W w' from fun W h => hgd A c W (HROW.out W h))
  have HAW := Lib.hid (show ∀ W, Below (w.heap.size + 1) (w.alloc (.cells #[.int .i64 T, .int .i64 N, .int .i64 L, .int .u64 G] 24)) W → Calls Tryz.prog 7 #[] W fun e w' => e = .returned (.bool true) ∧ Below w.heap.size w w' from fun W h => (awake_any W).mono fun e w' ⟨h1, h2⟩ => ⟨h1, chain (past_old h) h2⟩)
  unfold maxLen at hl
  have HB1 := Lib.hid (show Below (w.heap.size + 1) (w.alloc (.cells #[.int .i64 T, .int .i64 N, .int .i64 L, .int .u64 G] 24)) (w.alloc (.cells #[.int .i64 T, .int .i64 N, .int .i64 L, .int .u64 G] 24)) from Below.refl _ _)
  clear hn hf hR hr hi hgd
  obtain ⟨c_0, c_1, c_2, c_3⟩ := HBX.out _ HB1.out
  go_enter Tryz.func3, Tryz.ntmps3
  go_wp2_with fail
  refine (HI.out _).mono ?_
  rintro e w' ⟨rfl, rfl⟩
  go_wp2_with fail
  refine (HGD.out _ HB1.out).mono ?_
  rintro e w1 ⟨rfl, b1⟩
  have HB2 := Lib.hid (past_later HB1.out b1)
  clear b1 c_0 c_1 c_2 c_3
  obtain ⟨c_0, c_1, c_2, c_3⟩ := HBX.out _ HB2.out
  cases b with
  | false =>
    clear hb
    go_wp2_with fail
    refine (HAW.out _ HB2.out).mono ?_
    rintro e w2 ⟨rfl, b2⟩
    go_wp2
    go_ret
    exact ⟨rfl, b2⟩
  | true =>
    by_cases hi1 : i < 1
    · have d1 : decide (i < 1) = true := decide_eq_true hi1
      clear hb
      go_wp2_with fail
      refine (HAW.out _ HB2.out).mono ?_
      rintro e w2 ⟨rfl, b2⟩
      go_wp2
      go_ret
      exact ⟨rfl, b2⟩
    have d1 : decide (i < 1) = false := decide_eq_false hi1
    by_cases hi2 : N < i
    · have d2 : decide (N < i) = true := decide_eq_true hi2
      clear hb
      go_wp2_with fail
      refine (HAW.out _ HB2.out).mono ?_
      rintro e w2 ⟨rfl, b2⟩
      go_wp2
      go_ret
      exact ⟨rfl, b2⟩
    have d2 : decide (N < i) = false := decide_eq_false hi2
    by_cases hm : r % 2 = 1
    · rw [decide_eq_true hm] at HMK
      clear hb hm
      go_wp2_with fail
      refine (HMK.out _).mono ?_
      rintro e w' ⟨rfl, rfl⟩
      go_wp2_with fail
      refine (HAW.out _ HB2.out).mono ?_
      rintro e w2 ⟨rfl, b2⟩
      go_wp2
      go_ret
      exact ⟨rfl, b2⟩
    rw [decide_eq_false hm] at HMK
    clear hm
    obtain ⟨T, N, L, rfl, rfl, rfl, hright, hlen, hg⟩ := hb rfl
    obtain ⟨t1, t8, s1, s64, l1, l8⟩ := right_nat hright
    have hn4 : n ≤ 4096 := by rw [HN.out, hlen]; exact words_small (by omega) (by omega) (by omega)
    have hn0 : 0 < n := by rw [HN.out, hlen]; unfold wordsN; omega
    have HCH := Lib.hid (show ∀ (h : Nat) W, Below (w.heap.size + 1) (w.alloc (.cells #[.int .i64 T, .int .i64 N, .int .i64 L, .int .u64 G] 24)) W → Calls Tryz.prog 8 #[.slice A n c, .agg #[.int .i64 T, .int .i64 N, .int .i64 L, .int .u64 G], .int .i64 h] W (Chained W (chainI T L N l h)) from fun h W hb => Chain_any c HN.out (by omega) (HROW.out W hb) HF.out s64 h)
    have HRF := Lib.hid (show ∀ h : Nat, (chainI T L N l h).1.length ≤ 64 from fun h => Nat.le_trans (chain_few HF.out (h : Int)) s64)
    have HOUT := Lib.hid (show ∀ (h : Nat) (v : Bool) W, (!freeB T L l h r) = v → Below (w.heap.size + 1) (w.alloc (.cells #[.int .i64 T, .int .i64 N, .int .i64 L, .int .u64 G] 24)) W → Calls Tryz.prog 10 #[.slice A n c, .agg #[.int .i64 T, .int .i64 N, .int .i64 L, .int .u64 G], .int .u64 r, .int .i64 h] W fun e w' => e = .returned (.bool v) ∧ Below W.heap.size W w' from fun h v W hv hb => Out_is c HN.out (by omega) (HROW.out W hb) HF.out T N L G h HRW.out hv)
    have HKY := Lib.hid (show ∀ W, Below (w.heap.size + 1) (w.alloc (.cells #[.int .i64 T, .int .i64 N, .int .i64 L, .int .u64 G] 24)) W → Calls Tryz.prog 14 #[.slice A n c, .agg #[.int .i64 T, .int .i64 N, .int .i64 L, .int .u64 G], .int .u64 r] W fun e w' => e = .returned (.agg #[.int .i64 (keyI T L l r).1, .int .u64 (keyI T L l r).2]) ∧ Below W.heap.size W w' from fun W hb => Key_any c HN.out (by omega) (HROW.out W hb) T N L G HRW.out)
    obtain ⟨KL, hKE⟩ : ∃ KL : Nat → List Int, ∀ h : Nat, keptL T L N l h = KL h := ⟨fun h => keptL T L N l h, fun h => rfl⟩
    have HKE := Lib.hid hKE
    clear hKE
    have HKL := Lib.hid (show ∀ (h : Nat) W, Below (w.heap.size + 1) (w.alloc (.cells #[.int .i64 T, .int .i64 N, .int .i64 L, .int .u64 G] 24)) W → Calls Tryz.prog 20 #[.slice A n c, .agg #[.int .i64 T, .int .i64 N, .int .i64 L, .int .u64 G], .int .i64 h] W (SeekRef.Listed W (KL h)) from fun h W hb => by rw [← HKE.out]; exact Kept_any c HN.out (by omega) (HROW.out W hb) HF.out s64 h)
    have HKF := Lib.hid (show ∀ h : Nat, (KL h).length ≤ maxLen from fun h => by rw [← HKE.out]; exact Nat.le_trans (kept_few HF.out (h : Int)) (by unfold maxLen; omega))
    have HEND := Lib.hid (show ∀ dl sq : Int, keyI T L l r = (dl, sq) → (∀ h : Nat, h < L → r ∈ (chainI T L N l h).1 → freeB T L l h r = false) → ∃ sa sb m, alone (settleA T L r) (settleT L dl sq) 2000 (setI l (atI T L i 4) 2) StM.new = (setI l (atI T L i 4) 1, sa) ∧ settleA T L r sa = none ∧ sa.wt = false ∧ alone (settleA T L r) (settleT L dl sq) 2000 (setI l (atI T L i 4) 1) StM.new = (m, sb) ∧ settleA T L r sb = none ∧ sb.wt = true ∧ sb.ep = getI l 0 ∧
        m.length = wordsN T N L ∧ BM.Fits m ∧ BM.Fits (setI l (atI T L i 4) 2) ∧ BM.Fits (setI l (atI T L i 4) 1) ∧ getI m (atI T L i 4) = 0 ∧ ∀ h : Nat, h < L → (∃ cl, chainI T L N m h = (cl, true) ∧ ¬ r ∈ cl) ∧ keptL T L N m h = KL h from fun dl sq hk hm => by
      obtain ⟨sa, sb, m, h1, h2, h3, h4, h5, h6, h7, h8, h9, h10, h11, h12, h13⟩ := outs_fun (T := T) (N := N) (L := L) (r := r) (dl := dl) (sq := sq) (by omega) s64 (by omega) (by omega) hlen HF.out hg (by rw [← HIR.out]; omega) (by rw [← HIR.out]; omega) hk hm
      rw [← HIR.out] at h1 h4 h10 h11 h12
      exact ⟨sa, sb, m, h1, h2, h3, h4, h5, h6, h7, h8, h9, h10, h11, h12, fun h hh => ⟨(h13 h hh).1, by rw [← HKE.out]; exact (h13 h hh).2⟩⟩)
    have HKQ := Lib.hid (show keyI (T : Int) (L : Int) l r = ((keyI (T : Int) (L : Int) l r).1, (keyI (T : Int) (L : Int) l r).2) from rfl)
    have HHD := Lib.hid (fun W : World => Plan.Hold_any T N L G i W)
    have HLEN := Lib.hid hlen
    generalize chainI (T : Int) (L : Int) (N : Int) l = ch at HCH HRF HEND
    obtain ⟨fr, hFE⟩ : ∃ fr : Nat → Bool, ∀ h : Nat, freeB (T : Int) (L : Int) l (h : Int) r = fr h := ⟨fun h => freeB (T : Int) (L : Int) l (h : Int) r, fun h => rfl⟩
    have HFE := Lib.hid hFE
    generalize (keyI (T : Int) (L : Int) l r).1 = dl at HKY HKQ
    generalize (keyI (T : Int) (L : Int) l r).2 = sq at HKY HKQ
    clear hg hlen hFE
    go_wp2_with fail
    refine (HMK.out _).mono ?_
    rintro e w' ⟨rfl, rfl⟩
    go_wp2
    go_loopw [8] (fun hv wr => ∃ h : Nat, h ≤ L ∧ hv = .int .i64 h ∧ (∀ g : Nat, g < h → r ∈ (ch g).1 → fr g = false) ∧ Below (w.heap.size + 1) (w.alloc (.cells #[.int .i64 T, .int .i64 N, .int .i64 L, .int .u64 G] 24)) wr) (fun hv _ => L - (intOf hv).toNat)
    case atStart => exact ⟨0, Nat.zero_le _, rfl, fun g e => by omega, HB2.out⟩
    case round =>
      obtain ⟨h, hh, rfl, hall, hb⟩ := hrel
      have HALL := Lib.hid hall
      have HB := Lib.hid hb
      clear hall hb c_0 c_1 c_2 c_3
      obtain ⟨c_0, c_1, c_2, c_3⟩ := HBX.out _ HB.out
      by_cases hlt : h < L
      · have hil : (h : Int) < (L : Int) := by omega
        go_wp2_with fail
        refine (HCH.out h _ HB.out).mono ?_
        rintro e w3 ⟨A2, n2, d2', rfl, h2, r2, -, b3⟩
        have HB3 := Lib.hid (past_later HB.out b3)
        have HH2 := Lib.hid (fun v (hv : decide (r ∈ (ch h).1) = v) => Has_is (c := d2') hv h2 (by have := HRF.out h; omega) r2)
        clear r2 h2 b3 c_0 c_1 c_2 c_3
        obtain ⟨c_0, c_1, c_2, c_3⟩ := HBX.out _ HB3.out
        generalize (ch h).2 = okv
        by_cases hmem : r ∈ (ch h).1
        · have HHM := Lib.hid (HH2.out true (decide_eq_true hmem))
          cases hfr : fr h with
          | true =>
            have HO3 := Lib.hid (HOUT.out h false w3 (by rw [HFE.out, hfr]; rfl) HB3.out)
            clear hmem hfr
            go_wp2_with fail
            refine HHM.out.mono ?_
            rintro e w' ⟨rfl, rfl⟩
            go_wp2_with fail
            refine HO3.out.mono ?_
            rintro e w4 ⟨rfl, b4⟩
            have HB4 := Lib.hid (past_later HB3.out b4)
            clear b4
            go_wp2_with fail
            refine (HAW.out _ HB4.out).mono ?_
            rintro e w2 ⟨rfl, b2⟩
            go_wp2
            go_ret
            exact ⟨rfl, b2⟩
          | false =>
            have HO3 := Lib.hid (HOUT.out h true w3 (by rw [HFE.out, hfr]; rfl) HB3.out)
            have HNW := Lib.hid (show ∀ g : Nat, g < h + 1 → r ∈ (ch g).1 → fr g = false from fun g hg hr2 => by
              by_cases e : g = h
              · subst e; exact hfr
              · exact HALL.out g (by omega) hr2)
            clear hmem hfr
            go_wp2_with fail
            refine HHM.out.mono ?_
            rintro e w' ⟨rfl, rfl⟩
            go_wp2_with fail
            refine HO3.out.mono ?_
            rintro e w4 ⟨rfl, b4⟩
            have HB4 := Lib.hid (past_later HB3.out b4)
            clear b4
            go_wp2
            go_roundw
            case rel => exact ⟨h + 1, by omega, by go_num, HNW.out, HB4.out⟩
            case measure => simp [intOf]; omega
        · have HHM := Lib.hid (HH2.out false (decide_eq_false hmem))
          have HNW := Lib.hid (show ∀ g : Nat, g < h + 1 → r ∈ (ch g).1 → fr g = false from fun g hg hr2 => by
            by_cases e : g = h
            · subst e; exact absurd hr2 hmem
            · exact HALL.out g (by omega) hr2)
          clear hmem
          go_wp2_with fail
          refine HHM.out.mono ?_
          rintro e w' ⟨rfl, rfl⟩
          go_wp2
          go_roundw
          case rel => exact ⟨h + 1, by omega, by go_num, HNW.out, HB3.out⟩
          case measure => simp [intOf]; omega
      · obtain rfl : L = h := by omega
        obtain ⟨sa, sb, m, hal1, hst1, hw1, hal2, hst2, hw2, hep, hlm, hfm, hf2, hf1, hzero, hall⟩ := HEND.out dl sq HKQ.out (fun h hh hr2 => by rw [HFE.out]; exact HALL.out h hh hr2)
        have HMN := Lib.hid (show n = m.length by rw [hlm, ← HLEN.out]; exact HN.out)
        have HFM := Lib.hid hfm
        have HF2 := Lib.hid hf2
        have HF1 := Lib.hid hf1
        have HZ := Lib.hid hzero
        have HA1 := Lib.hid (And.intro hal1 (And.intro hst1 hw1))
        have HA2 := Lib.hid (And.intro hal2 (And.intro hst2 (And.intro hw2 hep)))
        have HCM := Lib.hid (show ∀ h : Nat, h < L → ∃ cl, (∀ (A7 : Option Addr) (c7 : Nat) W, Row W W.heap.size A7 (flat (encZ .u64) m) → Calls Tryz.prog 8 #[.slice A7 n c7, .agg #[.int .i64 T, .int .i64 N, .int .i64 L, .int .u64 G], .int .i64 h] W (Chained W (cl, true))) ∧ decide (r ∈ cl) = false ∧ cl.length ≤ 64 from fun h hh => by
          obtain ⟨⟨cl, e1, e2⟩, -⟩ := hall h hh
          refine ⟨cl, fun A7 c7 W hr => ?_, decide_eq_false e2, ?_⟩
          · rw [← e1]
            exact Chain_any c7 HMN.out (by omega) hr HFM.out s64 h
          · have h3 := chain_few (T := (T : Int)) (L := (L : Int)) (N := N) HFM.out (h : Int)
            rw [e1] at h3
            exact Nat.le_trans h3 s64)
        have HKM := Lib.hid (show ∀ h : Nat, h < L → ∀ (A7 : Option Addr) (c7 : Nat) W, Row W W.heap.size A7 (flat (encZ .u64) m) → Calls Tryz.prog 20 #[.slice A7 n c7, .agg #[.int .i64 T, .int .i64 N, .int .i64 L, .int .u64 G], .int .i64 h] W (SeekRef.Listed W (KL h)) from fun h hh A7 c7 W hr => by
          rw [← (hall h hh).2]
          exact Kept_any c7 HMN.out (by omega) hr HFM.out s64 h)
        have HL9 := Lib.hid (show (L : Int) ≤ 9223372036854775807 by omega)
        clear hal1 hst1 hw1 hal2 hst2 hw2 hep hlm hfm hf2 hf1 hzero hall
        generalize atI (T : Int) (L : Int) i 4 = q at HHD HA1 HA2 HF2 HF1 HZ
        go_wp2_with fail
        refine (Of_any (HROW.out _ HB.out) HN.out hn4).mono ?_
        rintro e w2 ⟨pc, hc, rfl, m2, p2, h2, b2⟩
        have HB2 := Lib.hid (past_later HB.out b2)
        have HM2 := Lib.hid m2
        have HP2 := Lib.hid (show w.heap.size + 1 ≤ pc ∧ w.heap.size + 1 ≤ hc from by have h3 := past_lt HB.out; omega)
        clear m2 p2 h2 b2 c_0 c_1 c_2 c_3
        obtain ⟨c_0, c_1, c_2, c_3⟩ := HBX.out _ HB2.out
        go_wp2_with fail
        refine (HHD.out _).mono ?_
        rintro e w3 ⟨rfl, b3⟩
        have HB3 := Lib.hid (past_later HB2.out b3)
        have HM3 := Lib.hid (HM2.out.later b3)
        clear b3
        go_wp2_with fail
        refine (Store_any HM3.out q 2).mono ?_
        rintro e w4 ⟨rfl, g4, m4⟩
        have HM4 := Lib.hid m4
        have HB4 := Lib.hid (show Below (w.heap.size + 1) (w.alloc (.cells #[.int .i64 T, .int .i64 N, .int .i64 L, .int .u64 G] 24)) w4 from past_only HB3.out (only_grown (R := fun k => k = hc) g4 fun k e => by cases e; rfl) (fun k e => by subst e; exact HP2.out.2))
        clear g4 m4 c_0 c_1 c_2 c_3
        obtain ⟨c_0, c_1, c_2, c_3⟩ := HBX.out _ HB4.out
        go_wp2_with fail
        refine (HKY.out _ HB4.out).mono ?_
        rintro e w5 ⟨rfl, b5⟩
        have hb5 := chain b5 (ba w5 (.cells #[.int .i64 dl, .int .u64 sq] 41))
        have HB5 := Lib.hid (past_later HB4.out hb5)
        have HM5 := Lib.hid (HM4.out.later hb5)
        have HKX := Lib.hid (show ∀ W, Below (w5.alloc (.cells #[.int .i64 dl, .int .u64 sq] 41)).heap.size (w5.alloc (.cells #[.int .i64 dl, .int .u64 sq] 41)) W → W.cell? ⟨w5.heap.size, 0, none⟩ = some (.int .i64 dl) ∧ W.cell? ⟨w5.heap.size, 1, none⟩ = some (.int .u64 sq) from fun W hb => ⟨cell_later hb (cell_heap (new_heap w5 (.cells #[.int .i64 dl, .int .u64 sq] 41)) 0).1, cell_later hb (cell_heap (new_heap w5 (.cells #[.int .i64 dl, .int .u64 sq] 41)) 1).1⟩)
        clear b5 hb5 c_0 c_1 c_2 c_3
        obtain ⟨c_0, c_1, c_2, c_3⟩ := HBX.out _ HB5.out
        obtain ⟨k_0, k_1⟩ := HKX.out _ (Below.refl _ _)
        go_wp2_with fail
        refine (Settle_any T N L G r dl sq HL9.out HRW.out _).mono ?_
        rintro e w6 ⟨qa, SA, rfl, s6, q6, b6⟩
        have HB6 := Lib.hid (past_later HB5.out b6)
        have HM6 := Lib.hid (HM5.out.later b6)
        have HS6 := Lib.hid (And.intro s6 q6)
        have HKB := Lib.hid b6
        clear s6 q6 b6 c_0 c_1 c_2 c_3 k_0 k_1
        obtain ⟨c_0, c_1, c_2, c_3⟩ := HBX.out _ HB6.out
        obtain ⟨k_0, k_1⟩ := HKX.out _ HKB.out
        go_wp2_with fail
        refine (Settle_any T N L G r dl sq HL9.out HRW.out _).mono ?_
        rintro e w7 ⟨qb, SB, rfl, s7, q7, b7⟩
        have HB7 := Lib.hid (past_later HB6.out b7)
        have HM7 := Lib.hid (HM6.out.later b7)
        have HA7 := Lib.hid (HS6.out.1.later b7)
        have HS7 := Lib.hid (And.intro s7 (And.intro q7 b7.size))
        have HNA := Lib.hid (show ¬ SA pc ∧ ¬ SA hc from ⟨fun e => by have h1 := (HS6.out.2 _ e).1; have h2 := HM5.out.lt; omega, fun e => by have h1 := (HS6.out.2 _ e).1; have h2 := HM5.out.lt; omega⟩)
        have HNB := Lib.hid (show ¬ SB pc ∧ ¬ SB hc ∧ ∀ k, SB k → ¬ SA k from ⟨fun e => by have h1 := (q7 _ e).1; have h2 := HM6.out.lt; omega, fun e => by have h1 := (q7 _ e).1; have h2 := HM6.out.lt; omega, fun k e e2 => by have h1 := (q7 _ e).1; have h2 := (HS6.out.2 _ e2).2; omega⟩)
        have HSP := Lib.hid (show (∀ k, SA k → w.heap.size + 1 ≤ k) ∧ ∀ k, SB k → w.heap.size + 1 ≤ k from ⟨fun k e => by have h1 := (HS6.out.2 _ e).1; have h2 := past_lt HB5.out; omega, fun k e => by have h1 := (q7 _ e).1; have h2 := past_lt HB6.out; omega⟩)
        clear s7 q7 b7 c_0 c_1 c_2 c_3 k_0 k_1
        go_wp2_with fail
        refine (alone_any HA1.out.1 HA1.out.2.1 HF2.out HM7.out HA7.out HNA.out.1 HNA.out.2).mono ?_
        rintro e w8 ⟨rfl, m8, -, ⟨ka, SA2, s8, q8⟩, o8⟩
        have HB8 := Lib.hid (show Below (w.heap.size + 1) (w.alloc (.cells #[.int .i64 T, .int .i64 N, .int .i64 L, .int .u64 G] 24)) w8 from past_only HB7.out o8 (fun k e => e.elim (fun e => by subst e; exact HP2.out.2) (HSP.out.1 k)))
        have HM8 := Lib.hid m8
        have HA8 := Lib.hid (And.intro s8 q8)
        have HS8 := Lib.hid (HS7.out.1.only o8 (fun k e => fun z => z.elim (fun z => HNB.out.2.1 (z ▸ e)) (HNB.out.2.2 k e)))
        clear m8 s8 q8 o8
        go_wp2_with fail
        refine (alone_any HA2.out.1 HA2.out.2.1 HF1.out HM8.out HS8.out HNB.out.1 HNB.out.2.1).mono ?_
        rintro e w9 ⟨rfl, m9, -, ⟨kb, SB2, s9, q9⟩, o9⟩
        have HB9 := Lib.hid (show Below (w.heap.size + 1) (w.alloc (.cells #[.int .i64 T, .int .i64 N, .int .i64 L, .int .u64 G] 24)) w9 from past_only HB8.out o9 (fun k e => e.elim (fun e => by subst e; exact HP2.out.2) (HSP.out.2 k)))
        have HM9 := Lib.hid m9
        have HS9 := Lib.hid s9
        have HA9 := Lib.hid (HA8.out.1.only o9 (fun k e z => (HA8.out.2 k e).elim (fun e => z.elim (fun z => HNA.out.2 (z ▸ e)) (fun z => HNB.out.2.2 k z e)) (fun e => z.elim (fun z => by have := HM7.out.lt; omega) (fun z => by have := (HS7.out.2.1 k z).2; omega))))
        have HRA := Lib.hid (Retired_any HA9.out)
        rw [HA1.out.2.2] at HRA
        rw [if_neg (by simp), if_neg (by simp)] at HRA
        clear m9 s9 q9 o9
        go_wp2_with fail
        refine HRA.out.mono ?_
        rintro e w10 ⟨rfl, b10⟩
        have hb10 := chain b10 (ba w10 (.cells #[.int .u64 0, .int .u64 0] 47))
        have HB10 := Lib.hid (past_later HB9.out hb10)
        have HM10 := Lib.hid (HM9.out.later hb10)
        have HRB := Lib.hid (Retired_any (HS9.out.later hb10))
        rw [HA2.out.2.2.1, HA2.out.2.2.2] at HRB
        rw [if_pos rfl, if_pos rfl] at HRB
        obtain ⟨e0, he0⟩ : ∃ e0, e0 = getI l 0 := ⟨_, rfl⟩
        rw [← he0] at HRB
        have HE0 := Lib.hid (show l[0]? = some e0 from by
          obtain ⟨x, hx⟩ : ∃ x, l[0]? = some x := ⟨_, List.getElem?_eq_getElem (by rw [← HN.out]; exact hn0)⟩
          rw [he0, hx, show (0 : Int) = ((0 : Nat) : Int) from rfl, getI_some hx])
        clear b10 hb10 he0
        go_wp2_with fail
        refine HRB.out.mono ?_
        rintro e w11 ⟨rfl, b11⟩
        have hb11 := chain b11 (ba w11 (.cells #[.int .u64 r, .int .u64 e0] 47))
        have HB11 := Lib.hid (past_later HB10.out hb11)
        have HM11 := Lib.hid (HM10.out.later hb11)
        have HXX := Lib.hid (show ∀ W, Below (w11.alloc (.cells #[.int .u64 r, .int .u64 e0] 47)).heap.size (w11.alloc (.cells #[.int .u64 r, .int .u64 e0] 47)) W → W.cell? ⟨w11.heap.size, 0, none⟩ = some (.int .u64 r) ∧ W.cell? ⟨w11.heap.size, 1, none⟩ = some (.int .u64 e0) from fun W hb => ⟨cell_later hb (cell_heap (new_heap w11 (.cells #[.int .u64 r, .int .u64 e0] 47)) 0).1, cell_later hb (cell_heap (new_heap w11 (.cells #[.int .u64 r, .int .u64 e0] 47)) 1).1⟩)
        clear b11 hb11
        go_wp2_with fail
        refine (Words_new HM11.out).mono ?_
        rintro e w12 ⟨A7, rfl, r12, b12⟩
        have HB12 := Lib.hid (past_later HB11.out b12)
        have HM12 := Lib.hid (HM11.out.later b12)
        have HR12 := Lib.hid r12
        have HX12 := Lib.hid b12
        clear r12 b12
        go_wp2
        go_loopw [21] (fun hv wr => ∃ h : Nat, h ≤ L ∧ hv = .int .i64 h ∧ Below w12.heap.size w12 wr) (fun hv _ => L - (intOf hv).toNat)
        case atStart => exact ⟨0, Nat.zero_le _, rfl, Below.refl _ _⟩
        case round =>
          obtain ⟨h, hh, rfl, hb⟩ := hrel
          have HBH := Lib.hid hb
          have HPH := Lib.hid (past_later HB12.out hb)
          clear hb
          obtain ⟨c_0, c_1, c_2, c_3⟩ := HBX.out _ HPH.out
          by_cases hlt : h < L
          · have hil : (h : Int) < (L : Int) := by omega
            obtain ⟨cl, hcl, hno, hfew⟩ := HCM.out h hlt
            have HCL := Lib.hid hcl
            have HNO := Lib.hid (And.intro hno hfew)
            have HKN := Lib.hid (show ∀ W, Below wr.heap.size wr W → Calls Tryz.prog 20 #[.slice A7 n n, .agg #[.int .i64 T, .int .i64 N, .int .i64 L, .int .u64 G], .int .i64 h] W (SeekRef.Listed W (KL h)) from fun W hb => HKM.out h hlt A7 n W (HR12.out.later (HBH.out.trans (hb.mono HBH.out.size))))
            clear hcl hno hfew
            go_wp2_with fail
            refine (HCL.out A7 n _ (HR12.out.later HBH.out)).mono ?_
            rintro e w13 ⟨A8, n8, c8, rfl, h8, r8, -, b13⟩
            have HB13 := Lib.hid b13
            have HP13 := Lib.hid (past_later HPH.out b13)
            have HH8 := Lib.hid (fun W (hb : Below w13.heap.size w13 W) => Has_is (c := c8) HNO.out.1 h8 (by have h9 := HNO.out.2; simp only at h8; omega) (r8.later hb))
            have HK := Lib.hid (show ∀ W, Below w13.heap.size w13 W → (W.cell? ⟨w.heap.size, 0, none⟩ = some (.int .i64 T) ∧ W.cell? ⟨w.heap.size, 1, none⟩ = some (.int .i64 N) ∧ W.cell? ⟨w.heap.size, 2, none⟩ = some (.int .i64 L) ∧ W.cell? ⟨w.heap.size, 3, none⟩ = some (.int .u64 G)) from fun W hb => HBX.out W (past_later HP13.out hb))
            clear b13 h8 r8 c_0 c_1 c_2 c_3
            go_upto_region 24 with fail
            go_region_held3 (fun W => (W.cell? ⟨w.heap.size, 0, none⟩ = some (.int .i64 T) ∧ W.cell? ⟨w.heap.size, 1, none⟩ = some (.int .i64 N) ∧ W.cell? ⟨w.heap.size, 2, none⟩ = some (.int .i64 L) ∧ W.cell? ⟨w.heap.size, 3, none⟩ = some (.int .u64 G)))
              ((first | (with_reducible exact HK.out _ (Below.refl _ _).drew) | (with_reducible assumption) | (with_reducible exact HK.out _ HB14.out) | (with_reducible exact HK.out _ HB15.out) | (with_reducible exact HK.out _ HB16.out)))
              (first
                | (go_at_call 9; refine (HH8.out _ (Below.refl _ _).drew).mono ?_; rintro e w' ⟨rfl, rfl⟩)
                | (go_at_call 20; (with_reducible refine (HKN.out _ (HB13.out.drew)).mono ?_); rintro e w14 ⟨A10, n10, c10, rfl, h10, r10, -, hb⟩; have HB14 := Lib.hid (show Below w13.heap.size w13 w14 from (Below.refl _ _).drew.trans hb); have HR10 := Lib.hid (And.intro h10 r10); clear h10 r10 hb)
                | (go_at_call 20; (with_reducible refine (HKL.out h _ (past_later HP13.out HB14.out)).mono ?_); rintro e w15 ⟨A11, n11, c11, rfl, h11, r11, -, hb⟩; have HB15 := Lib.hid (chain HB14.out hb); have HR11 := Lib.hid (And.intro (HR10.out.2.later hb) (And.intro h11 r11)); clear h11 r11 hb)
                | (go_at_call 19; refine (CellsRef.Same_yes (l := KL h) HR10.out.1 HR11.out.2.1 HR11.out.1 HR11.out.2.2 (HKF.out h)).mono ?_; rintro e w16 ⟨rfl, hb⟩; have HB16 := Lib.hid (chain HB15.out hb); clear hb))
            have HEB := Lib.hid (HBH.out.trans ((chain HB13.out HB16.out).mono HBH.out.size))
            go_wp2
            go_roundw
            case rel => exact ⟨h + 1, by omega, by go_num, HEB.out⟩
            case measure => simp [intOf]; omega
          · obtain rfl : L = h := by omega
            obtain ⟨b0, o0, ea, -, hc0⟩ := int_at (HROW.out _ HPH.out) (show 0 < l.length by rw [← HN.out]; exact hn0)
            have q0 := hc0 0 e0 HE0.out
            rw [Nat.add_zero] at q0
            have HK := Lib.hid (show ∀ W, Below wr.heap.size wr W → (W.cell? ⟨w.heap.size, 0, none⟩ = some (.int .i64 T) ∧ W.cell? ⟨w.heap.size, 1, none⟩ = some (.int .i64 N) ∧ W.cell? ⟨w.heap.size, 2, none⟩ = some (.int .i64 L) ∧ W.cell? ⟨w.heap.size, 3, none⟩ = some (.int .u64 G)) ∧ (W.cell? ⟨w11.heap.size, 0, none⟩ = some (.int .u64 r) ∧ W.cell? ⟨w11.heap.size, 1, none⟩ = some (.int .u64 e0)) ∧ W.cell? ⟨b0, o0, none⟩ = some (.int .u64 e0) from fun W hb => ⟨HBX.out W (past_later HPH.out hb), HXX.out W (HX12.out.trans ((HBH.out.mono (Nat.le_refl _)).trans (hb.mono HBH.out.size) |>.mono HX12.out.size)), cell_later hb q0⟩)
            have HMR := Lib.hid (show ∀ W, Below wr.heap.size wr W → Mem W pc hc n m from fun W hb => HM12.out.later (HBH.out.trans (hb.mono HBH.out.size)))
            have hgn : (0 : Int) < (n : Int) := by omega
            have N1 := fun W => eqlR r e0 r e0 W
            simp only [and_self, decide_true] at N1
            have hgu := guardR
            clear hc0 q0 hlt
            subst ea
            go_upto_region 26 with fail
            clear c_0 c_1 c_2 c_3
            go_region_held3 (fun W => (W.cell? ⟨w.heap.size, 0, none⟩ = some (.int .i64 T) ∧ W.cell? ⟨w.heap.size, 1, none⟩ = some (.int .i64 N) ∧ W.cell? ⟨w.heap.size, 2, none⟩ = some (.int .i64 L) ∧ W.cell? ⟨w.heap.size, 3, none⟩ = some (.int .u64 G)) ∧ (W.cell? ⟨w11.heap.size, 0, none⟩ = some (.int .u64 r) ∧ W.cell? ⟨w11.heap.size, 1, none⟩ = some (.int .u64 e0)) ∧ W.cell? ⟨b0, o0, none⟩ = some (.int .u64 e0))
              ((first | (with_reducible exact HK.out _ (Below.refl _ _).drew) | (with_reducible assumption) | (with_reducible exact HK.out _ HB13.out) | (with_reducible exact HK.out _ HB14.out)))
              (first
                | (go_at_call 13; refine (HHD.out _).mono ?_; rintro e w13 ⟨rfl, hb⟩; have HB13 := Lib.hid (show Below wr.heap.size wr w13 from (Below.refl _ _).drew.trans hb); clear hb)
                | (go_at_call 21; refine (Load_any (HMR.out _ HB13.out) q).mono ?_; rw [HZ.out]; rintro e w' ⟨rfl, rfl⟩)
                | (go_at_call 7; refine (awake_any _).mono ?_; rintro e w14 ⟨rfl, hb⟩; have HB14 := Lib.hid (chain HB13.out hb); clear hb))
            have HEB := Lib.hid (show Below w.heap.size w w14 from past_old (past_later HPH.out HB14.out))
            go_wp2
            go_ret
            exact ⟨rfl, HEB.out⟩

theorem walk (x : Int × Int × Int × Int) (A : Option Addr) (l : List Int) (c : Nat) (r : Int) (_ : (Lit.int .i64 x.1).wf = true) (_ : (Lit.int .i64 x.2.1).wf = true) (_ : (Lit.int .i64 x.2.2.1).wf = true) (_ : (Lit.int .u64 x.2.2.2).wf = true) (hr : (Lit.int .u64 r).wf = true) (w : World)
    (hR : Row w w.heap.size A (flat (encZ .u64) l)) (hl : l.length ≤ maxLen) (hw : ∀ z ∈ l, (Lit.int .u64 z).wf = true) (_ : True) :
    Calls Tryz.prog 3 #[.agg #[.int .i64 x.1, .int .i64 x.2.1, .int .i64 x.2.2.1, .int .u64 x.2.2.2], .slice A l.length c, .int .u64 r] w fun e w' => e = .returned (.bool true) ∧ Below w.heap.size w w' := by
  obtain ⟨T, N, L, G⟩ := x
  exact walk_any T N L G r A l c w hR hl (fun z hz => wf_u64 (hw z hz)) (wf_u64 hr)
theorem laidOut : laidOutB Tryz.prog = true := by kernel_rfl
theorem own : ownKnob Tryz.prog.godebug = none := by kernel_rfl
theorem door_met (os : Os) (args : Array Value) : laidMetH Tryz.prog Rows.settleOutsRow.laid ((World.doorLaid Tryz.prog 400 os).forCall (fun _ _ => 0) ⟨#[], args, []⟩).memory :=
  laidMetH_of_parts3 (fuel := 8) (laidMet_of_run' 8 (by kernel_rfl) (by kernel_rfl)) (by kernel_rfl) (by kernel_rfl)
set_option maxRecDepth 100000 in
theorem lifted (os : Os) (started : os.Started) (H : Type) (enc : TypeId × Value → H) :
    ReturnsInHanded {} Tryz.checked os 3 .any (fun w args => (Rows.settleOutsSpec.pre enc Tryz.prog Tryz.f3 [] false w args ∧ laidMetH Tryz.prog Rows.settleOutsRow.laid w) ∧ sizedMet enc Tryz.prog Tryz.f3 (OpenSpec.ofChange Rows.settleOutsSpec) false w args) (Rows.settleOutsSpec.post enc Tryz.prog Tryz.f3 false true false false) := by
  refine Frame.liftedLaid (C := Tryz.checked) (fn := Tryz.f3) (tb := 4) own started (by kernel_rfl) Tryz.func3
    (ChangeSpec.witness_shaped (enc := enc) (C := Tryz.checked) (os := os) (X := fun w _ => laidMetH Tryz.prog Rows.settleOutsRow.laid w) false (World.doorLaid Tryz.prog 400 os) #[.agg #[.int .i64 0, .int .i64 0, .int .i64 0, .int .u64 0], .slice none 0 0, .int .u64 0] 8 rfl (World.shaped_of_RefB (by kernel_rfl) (by kernel_rfl)) (by kernel_rfl) (by kernel_rfl) (by kernel_rfl) (door_met os _))
    rfl rfl Tryz.underlying4 laidOut (by kernel_rfl) (fun ds h => by match ds, h with | [_, _, _], _ => rfl) ?_
  intro W base args ds ps hval0 hA0 hlt hL
  have hval : ∀ (j : Nat) t v, Tryz.f3.params[j]? = some t → args[j]? = some v → Value.okWide Tryz.prog W .any base t v := hval0
  have hA : DataW.TrodAll enc Tryz.prog W 0 (fun _ => true) true Tryz.f3.params.toList args.toList ds ps := hA0
  rw [Tryz.params3] at hA hval
  obtain ⟨v0, vs0, d0, ds0, p0, q0, hargs, rfl, rfl, h0, r0⟩ := trodAll_cons hA
  obtain ⟨v1, vs1, d1, ds1, p1, q1, rfl, rfl, rfl, h1, r1⟩ := trodAll_cons r0
  obtain ⟨v2, vs2, d2, ds2, p2, q2, rfl, rfl, rfl, h2, r2⟩ := trodAll_cons r1
  obtain ⟨rfl, rfl, rfl⟩ := trodAll_nil r2
  obtain rfl : args = #[v0, v1, v2] := by cases args; simp_all
  obtain ⟨x0, rfl, w0_0, w0_1, w0_2, w0_3⟩ := Open.open_four_ints Tryz.underlying24 (by kernel_rfl) (by kernel_rfl) Tryz.underlying3 Tryz.underlying3 Tryz.underlying3 Tryz.underlying22 (hval 0 24 v0 rfl rfl) h0
  obtain ⟨A1, x1, c1, rfl, b1, m1, R1, g1⟩ := Open.open_rows (k := 1) (Ints.encZ .u64) (fun x => (Lit.int .u64 x).wf = true) Tryz.underlying25 (by kernel_rfl) (by decide) (Ints.encZ_length _) (fun n cs y h hl => Ints.one_int Tryz.underlying22 n cs y h hl) (hval 1 25 v1 rfl rfl) h1
  obtain ⟨a2, rfl, _, _, w2⟩ := open_int Tryz.underlying22 (hval 2 22 v2 rfl rfl) h2
  refine (walk x0 A1 x1 c1 a2 w0_0 w0_1 w0_2 w0_3 w2 W R1 (Nat.le_trans b1 m1) g1 (held hL)).mono fun e W' h => ?_
  exact h

theorem over : Rows.settleOutsRow.holds Tryz.pinned (OpenSpec.ofChange Rows.settleOutsSpec) :=
  OpenClaim.holds_of_wide 3 Tryz.f3 rfl rfl rfl rfl rfl rfl rfl ⟨rfl, rfl, rfl, rfl, rfl⟩ rfl rfl rfl rfl rfl (by kernel_rfl) Tryz.func3 (by kernel_rfl)
    (of_decide_eq_true (by kernel_rfl)) (by unfold Func.isWrapper; first | (rw [if_pos (by decide +kernel)]; kernel_rfl) | (rw [if_neg (by decide +kernel)]; exact ⟨rfl, rfl⟩))
    (fun os started H enc _ => lifted os started H enc)

theorem proved : Rows.SettleOutsCardSaid :=
  Claim7.holds_tied_plain_at .later [] Rows.settleOutsCard.laidKinds true Rows.settleOutsCard.stood.harness Rows.settleOutsCard.stood.looks
    over (fun _ h => by cases h) (by kernel_rfl) (fun _ h => by cases h) settleOuts_row_tie rfl ⟨rfl, rfl⟩ (by kernel_rfl) rfl
    (fun f fn hf hfn => by
      obtain rfl : f = 3 := Option.some.inj ((show Tryz.prog.funcNamed Rows.settleOutsRow.func = some 3 by kernel_rfl).symm.trans hf) |>.symm
      obtain rfl : fn = Tryz.f3 := (Option.some.inj (Tryz.func3.symm.trans hfn)).symm
      exact ⟨by kernel_rfl, fun j t ht => by
        rw [Tryz.params3] at ht
        have hm : t ∈ [24, 25, 22] := by simpa using Array.mem_of_getElem? ht
        have hall : ([24, 25, 22].all fun u => !Tryz.prog.wantsStandIn u) = true := by kernel_rfl
        exact (show Tryz.prog.wantsStandIn t = false by simpa using List.all_eq_true.1 hall t hm)⟩)
    (by kernel_rfl)
#print axioms proved
end Go.Proofs.YtickghidajpbnaaGreatDoor.SettleOuts
