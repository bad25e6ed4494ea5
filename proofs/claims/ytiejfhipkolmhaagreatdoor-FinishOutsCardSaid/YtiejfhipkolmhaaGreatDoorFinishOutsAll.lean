import Derived.Test.YtiejfhipkolmhaaGreatDoorFinishOutsAllP26
import Derived.Test.YtiejfhipkolmhaaGreatDoorFinishOutsAllP2
import Derived.Test.YtiejfhipkolmhaaGreatDoorFinishOutsAllP27
import Derived.Test.YtiejfhipkolmhaaGreatDoorFinishOutsAllP33
import Derived.Test.YtiejfhipkolmhaaGreatDoorFinishOutsAllP7
import Derived.Test.YtiejfhipkolmhaaGreatDoorFinishOutsAllP34
import Derived.Test.YtiejfhipkolmhaaGreatDoorFinishOutsAllP35
import Derived.Test.YtiejfhipkolmhaaGreatDoorTie
import Derived.Test.YtiejfhipkolmhaaGreatDoorCards
/- FinishOuts: for every plan, every list of words and every reference, where the document calls the chains that the words tell right, and the reference is one (without a mark) of a slot that there is, and whoever in a chain is of that slot is that reference: with 1 as how many hold the timer, and with a height that has it in no higher chain, a finisher for it, made and done alone to a memory of these words, is done soon, tells the reference and the epoch that the words have as retired, the timer is in no chain then, and all chains have all without a mark that they had, but for it (else just the chapter's example is asked); and that example comes out; the arguments read as they did. Condition: the library's listed tables hold what its own text lays in them (tied by the card). -/
namespace Go.Proofs.YtiejfhipkolmhaaGreatDoor.FinishOuts
set_option maxRecDepth 20000
open Go.ChangeShapes Go.WideShapes Go.ChangeAt Go.RowKit CM DM PM KM FiM MM Runs Lay Plan Ints Go.Proofs.YtiejfhipkolmhaaGreatDoor.Task
open Go.Proofs.YtiejfhipkolmhaaGreatDoor.Cells (Mem Does Of_any Words_any Store_any Load_any)
open Go.Proofs.YtiejfhipkolmhaaGreatDoor.Fin (Fins Finish_any Fin_next Fin_tell Fin_retired)
open Go.Proofs.YtiejfhipkolmhaaGreatDoor.SeekRef (Good_dec Chain_any Kept_any Key_any Has_is Chained right_nat kept_few kept_refs chain_refs chain_few take_filter)
open Go.Proofs.YtiejfhipkolmhaaGreatDoor.Law25 (awake_any wf_u64 wf_i64 chain ba)
set_option linter.unusedVariables false
set_option linter.unusedSimpArgs false

theorem held {W : World} (h : laidMetH Tryz.prog Rows.finishOutsRow.laid W) : True := trivial
theorem past_later {w W W' : World} {o1 : Obj} (h : Below (w.heap.size + 1) (w.alloc o1) W) (hb : Below W.heap.size W W') : Below (w.heap.size + 1) (w.alloc o1) W' := h.trans (hb.mono (by have := h.size; simp only [World.size_alloc] at this; omega))
theorem past_old {w W : World} {o1 : Obj} (h : Below (w.heap.size + 1) (w.alloc o1) W) : Below w.heap.size w W := (box_below w o1).trans (h.mono (by omega))
theorem past_only {w W W' : World} {o1 : Obj} {R : Nat → Prop} (h : Below (w.heap.size + 1) (w.alloc o1) W) (ho : Only R W W') (hR : ∀ k, R k → w.heap.size + 1 ≤ k) : Below (w.heap.size + 1) (w.alloc o1) W' := h.trans (ho.below (by have := h.size; simp only [World.size_alloc] at this; omega) hR)
theorem past_lt {w W : World} {o1 : Obj} (h : Below (w.heap.size + 1) (w.alloc o1) W) : w.heap.size + 1 ≤ W.heap.size := by have := h.size; simpa only [World.size_alloc] using this
theorem Words_new {p h n : Nat} {l : List Int} {w : World} (hM : Mem w p h n l) : Calls Tryz.prog 19 #[.pointer (some ⟨p, 0, none⟩)] w fun e w' => ∃ A, e = .returned (.slice A n n) ∧ Row w' w'.heap.size A (flat (encZ .u64) l) ∧ Below w.heap.size w w' :=
  (Words_any hM).mono fun _ _ ⟨he, ho, hb⟩ => ⟨_, he, Row.of_own ho, hb⟩
/-- Two retired slots compared. -/
theorem eqlR (x1 x2 y1 y2 : Int) (w : World) : (binOp .eql 50 (.agg #[.int .u64 x1, .int .u64 x2]) (.agg #[.int .u64 y1, .int .u64 y2])).run Tryz.prog w = .ok (.bool (decide (x1 = y1 ∧ x2 = y2))) w := by
  have u4 := Tryz.underlying22
  have a4 := Tryz.isAgg22
  have z4 := Tryz.sizeOf22
  have hS : Tryz.prog.underlying 50 = some (.struct (Tryz.prog.fieldsOf 50)) := by kernel_rfl
  have hp : Tryz.prog.stoodInHeld 50 = false := by kernel_rfl
  rw [run_eql_struct, show (10000 : Nat) = 9999 + 1 from rfl, run_equalIn_agg w 9999 50 _ _ hS hp]
  simp only [Program.fieldsOf, Tryz.underlying50]
  go_simp
  by_cases h1 : x1 = y1 <;> by_cases h2 : x2 = y2 <;> simp [h1, h2]
theorem guardR : Tryz.prog.eqGuardType Tryz.prog.depth 50 = false := by kernel_rfl
theorem fin_fits {L : Int} {k : Nat} {T r : Int} {s : FiM.St} (h : FiM.Ok L k s) (hr : Word r) {d : D} (hd : finA T L r s = some d) : DM.Fits d := by
  cases s with
  | look =>
    have q1 := MM.at_fits T L (idx r) 3
    rw [finA_look] at hd
    cases hd
    unfold DM.Fits
    unfold Word at hr
    simp only
    omega
  | mark s =>
    rw [finA_mark] at hd
    exact MkM.markA_fits h.1 hr hd
  | settle s =>
    rw [finA_settle] at hd
    rcases StM.settleA_fits hr hd with e | e
    · obtain ⟨st, sk, ep, wt⟩ := s
      obtain rfl : st = 2 := e
      rw [StM.settleA_2] at hd
      exact seek_fits (h.look rfl).2 hd
    · exact e
/-- Amid the finisher's steps. -/
def Amid (w : World) (S0 : Nat → Prop) (pc hc n q : Nat) (T N L G r dl sq : Int) (K : Nat) (lf : List Int) (sf : FiM.St) (j : Nat) (wr : World) : Prop :=
  ∃ m s S, j ≤ K ∧ Mem wr pc hc n m ∧ BM.Fits m ∧ Fins wr q S T N L G r dl sq j s ∧ steps (finA T L r) (finT L dl sq) (K - j) m s = some (lf, sf) ∧ (∀ k, S k → S0 k ∨ (w.heap.size ≤ k ∧ k < wr.heap.size)) ∧ Only (fun k => k = hc ∨ S0 k) w wr
/-- Whoever in the first chains is of the slot is the timer itself, and below its height. -/
def Mine (ch : Int → List Int × Bool) (r : Int) (h t : Nat) : Prop := ∀ g : Nat, g < h → ∀ c ∈ (ch (g : Int)).1, idx c = idx r → c = r ∧ g < t
/-- .. in the first k of the next one. -/
def Mine2 (l : List Int) (r : Int) (h k t : Nat) : Prop := ∀ c ∈ l.take k, idx c = idx r → c = r ∧ h < t
theorem mine_0 (ch : Int → List Int × Bool) (r : Int) (t : Nat) : Mine ch r 0 t := fun g h => absurd h (Nat.not_lt_zero g)
theorem mine2_0 (l : List Int) (r : Int) (h t : Nat) : Mine2 l r h 0 t := fun c hc => by simp at hc
theorem mine_up {ch : Int → List Int × Bool} {r : Int} {h t t' : Nat} (hm : Mine ch r h t) (ht : t ≤ t') : Mine ch r h t' := fun g hg c hc e => ⟨(hm g hg c hc e).1, Nat.lt_of_lt_of_le (hm g hg c hc e).2 ht⟩
theorem mine2_next {l : List Int} {r : Int} {h k t : Nat} {y : Int} (hm : Mine2 l r h k t) (hy : l[k]? = some y) (h0 : idx y = idx r → y = r ∧ h < t) : Mine2 l r h (k + 1) t := fun c hc e => by
  obtain ⟨hj, rfl⟩ := List.getElem?_eq_some_iff.1 hy
  rw [List.take_add_one, List.getElem?_eq_getElem hj, List.mem_append] at hc
  rcases hc with hc | hc
  · exact hm c hc e
  · simp at hc
    subst hc
    exact h0 e
theorem mine2_up {l : List Int} {r : Int} {h k t : Nat} (hm : Mine2 l r h k t) (ht : t ≤ h + 1) : Mine2 l r h k (h + 1) := fun c hc e => ⟨(hm c hc e).1, Nat.lt_succ_self h⟩
theorem mine_next {ch : Int → List Int × Bool} {r : Int} {h t n : Nat} (hm : Mine ch r h t) (hn : n = (ch (h : Int)).1.length) (h2 : Mine2 (ch (h : Int)).1 r h n t) : Mine ch r (h + 1) t := fun g hg c hc e => by
  by_cases q : g = h
  · subst q
    exact h2 c (by rw [hn, List.take_of_length_le (Nat.le_refl _)]; exact hc) e
  · exact hm g (by omega) c hc e
set_option maxHeartbeats 4000000 in
theorem walk_any (T N L G r : Int) (A : Option Addr) (l : List Int) (c : Nat) (w : World) (hR : Row w w.heap.size A (flat (encZ .u64) l)) (hl : l.length ≤ maxLen) (hf : BM.Fits l) (hr : Word r) :
    Calls Tryz.prog 3 #[.agg #[.int .i64 T, .int .i64 N, .int .i64 L, .int .u64 G], .slice A l.length c, .int .u64 r] w fun e w' => e = .returned (.bool true) ∧ Below w.heap.size w w' := by
  obtain ⟨n, hn⟩ : ∃ n, n = l.length := ⟨_, rfl⟩
  rw [← hn] at hl ⊢
  have HN := Lib.hid hn
  have HF := Lib.hid hf
  have HROW := Lib.hid (show ∀ W, Below (w.heap.size + 1) (w.alloc (.cells #[.int .i64 T, .int .i64 N, .int .i64 L, .int .u64 G] 24)) W → Row W W.heap.size A (flat (encZ .u64) l) from fun W hb => hR.later (past_old hb))
  have HBX := Lib.hid (show ∀ W, Below (w.heap.size + 1) (w.alloc (.cells #[.int .i64 T, .int .i64 N, .int .i64 L, .int .u64 G] 24)) W → (W.cell? ⟨w.heap.size, 0, none⟩ = some (.int .i64 T) ∧ W.cell? ⟨w.heap.size, 1, none⟩ = some (.int .i64 N) ∧ W.cell? ⟨w.heap.size, 2, none⟩ = some (.int .i64 L) ∧ W.cell? ⟨w.heap.size, 3, none⟩ = some (.int .u64 G)) from fun W hb => box4_later hb)
  have HRW := Lib.hid hr
  obtain ⟨i, hi⟩ : ∃ i, i = idx r := ⟨_, rfl⟩
  have HI := Lib.hid (show ∀ W : World, Calls Tryz.prog 4 #[.int .u64 r] W fun e w' => e = .returned (.int .i64 i) ∧ W = w' from fun W => by rw [hi]; exact Refer.Index_any r hr.1 hr.2 W)
  have HIY := Lib.hid (show ∀ (y : Int), Word y → ∀ W : World, Calls Tryz.prog 4 #[.int .u64 y] W fun e w' => e = .returned (.int .i64 (idx y)) ∧ W = w' from fun y hy W => Refer.Index_any y hy.1 hy.2 W)
  have HIR := Lib.hid hi
  have HMK := Lib.hid (show ∀ W : World, Calls Tryz.prog 6 #[.int .u64 r] W fun e w' => e = .returned (.bool (decide (r % 2 = 1))) ∧ W = w' from fun W => Refer.Marked_any r hr.1 hr.2 W)
  obtain ⟨b, hb, hgd⟩ := Good_dec hn hl hf T N L G
  have HGD := Lib.hid (show ∀ W, Below (w.heap.size + 1) (w.alloc (.cells #[.int .i64 T, .int .i64 N, .int .i64 L, .int .u64 G] 24)) W → Calls Tryz.prog 5 #[.slice A n c, .agg #[.int .i64 T, .int .i64 N, .int .i64 L, .int .u64 G]] W fun e w' => e = .returned (.bool b) ∧ Below W.heap.size W w' from fun W h => hgd A c W (HROW.out W h))
  have HAW := Lib.hid (show ∀ W, Below (w.heap.size + 1) (w.alloc (.cells #[.int .i64 T, .int .i64 N, .int .i64 L, .int .u64 G] 24)) W → Calls Tryz.prog 7 #[] W fun e w' => e = .returned (.bool true) ∧ Below w.heap.size w w' from fun W h => (awake_any W).mono fun e w' ⟨h1, h2⟩ => ⟨h1, chain (past_old h) h2⟩)
  unfold maxLen at hl
  have HB1 := Lib.hid (show Below (w.heap.size + 1) (w.alloc (.cells #[.int .i64 T, .int .i64 N, .int .i64 L, .int .u64 G] 24)) (w.alloc (.cells #[.int .i64 T, .int .i64 N, .int .i64 L, .int .u64 G] 24)) from Below.refl _ _)
  obtain ⟨i0, hi0, hz0, hz1, hz2⟩ := info_parts WordRows.info_w
  clear hn hf hR hr hi hgd
  obtain ⟨c_0, c_1, c_2, c_3⟩ := HBX.out _ HB1.out
  go_enter Tryz.func3, Tryz.ntmps3
  go_wp2_with fail
  refine (HI.out _).mono ?_
  rintro e w' ⟨rfl, rfl⟩
  go_wp2_with fail
  refine (HGD.out _ HB1.out).mono ?_
  rintro e w1 ⟨rfl, b1⟩
  have HB2 := Lib.hid (past_later HB1.out b1)
  clear b1 c_0 c_1 c_2 c_3
  obtain ⟨c_0, c_1, c_2, c_3⟩ := HBX.out _ HB2.out
  cases b with
  | false =>
    clear hb
    go_wp2_with fail
    refine (HAW.out _ HB2.out).mono ?_
    rintro e w2 ⟨rfl, b2⟩
    go_wp2
    go_ret
    exact ⟨rfl, b2⟩
  | true =>
    by_cases hi1 : i < 1
    · have d1 : decide (i < 1) = true := decide_eq_true hi1
      clear hb
      go_wp2_with fail
      refine (HAW.out _ HB2.out).mono ?_
      rintro e w2 ⟨rfl, b2⟩
      go_wp2
      go_ret
      exact ⟨rfl, b2⟩
    have d1 : decide (i < 1) = false := decide_eq_false hi1
    by_cases hi2 : N < i
    · have d2 : decide (N < i) = true := decide_eq_true hi2
      clear hb
      go_wp2_with fail
      refine (HAW.out _ HB2.out).mono ?_
      rintro e w2 ⟨rfl, b2⟩
      go_wp2
      go_ret
      exact ⟨rfl, b2⟩
    have d2 : decide (N < i) = false := decide_eq_false hi2
    by_cases hm : r % 2 = 1
    · rw [decide_eq_true hm] at HMK
      clear hb hm
      go_wp2_with fail
      refine (HMK.out _).mono ?_
      rintro e w' ⟨rfl, rfl⟩
      go_wp2_with fail
      refine (HAW.out _ HB2.out).mono ?_
      rintro e w2 ⟨rfl, b2⟩
      go_wp2
      go_ret
      exact ⟨rfl, b2⟩
    rw [decide_eq_false hm] at HMK
    clear hm
    obtain ⟨T, N, L, rfl, rfl, rfl, hright, hlen, hg⟩ := hb rfl
    obtain ⟨t1, t8, s1, s64, l1, l8⟩ := right_nat hright
    have hn4 : n ≤ 4096 := by rw [HN.out, hlen]; exact words_small (by omega) (by omega) (by omega)
    have hn0 : 0 < n := by rw [HN.out, hlen]; unfold wordsN; omega
    have HCH := Lib.hid (show ∀ (h : Nat) W, Below (w.heap.size + 1) (w.alloc (.cells #[.int .i64 T, .int .i64 N, .int .i64 L, .int .u64 G] 24)) W → Calls Tryz.prog 8 #[.slice A n c, .agg #[.int .i64 T, .int .i64 N, .int .i64 L, .int .u64 G], .int .i64 h] W (Chained W (chainI T L N l h)) from fun h W hb => Chain_any c HN.out (by omega) (HROW.out W hb) HF.out s64 h)
    have HRF := Lib.hid (show ∀ h : Nat, (chainI T L N l h).1.length ≤ 64 from fun h => Nat.le_trans (chain_few HF.out (h : Int)) s64)
    have HCW := Lib.hid (show ∀ (h : Nat), ∀ y ∈ (chainI T L N l h).1, Word y from fun h y hy => ((chain_refs HF.out (h : Int)).1 y hy).1)
    have HKY := Lib.hid (show ∀ W, Below (w.heap.size + 1) (w.alloc (.cells #[.int .i64 T, .int .i64 N, .int .i64 L, .int .u64 G] 24)) W → Calls Tryz.prog 14 #[.slice A n c, .agg #[.int .i64 T, .int .i64 N, .int .i64 L, .int .u64 G], .int .u64 r] W fun e w' => e = .returned (.agg #[.int .i64 (keyI T L l r).1, .int .u64 (keyI T L l r).2]) ∧ Below W.heap.size W w' from fun W hb => Key_any c HN.out (by omega) (HROW.out W hb) T N L G HRW.out)
    obtain ⟨KL, hKE⟩ : ∃ KL : Nat → List Int, ∀ h : Nat, keptL T L N l h = KL h := ⟨fun h => keptL T L N l h, fun h => rfl⟩
    have HKE := Lib.hid hKE
    clear hKE
    have HKL := Lib.hid (show ∀ (h : Nat) W, Below (w.heap.size + 1) (w.alloc (.cells #[.int .i64 T, .int .i64 N, .int .i64 L, .int .u64 G] 24)) W → Calls Tryz.prog 20 #[.slice A n c, .agg #[.int .i64 T, .int .i64 N, .int .i64 L, .int .u64 G], .int .i64 h] W (SeekRef.Listed W (KL h)) from fun h W hb => by rw [← HKE.out]; exact Kept_any c HN.out (by omega) (HROW.out W hb) HF.out s64 h)
    have HKF := Lib.hid (show ∀ h : Nat, (KL h).length ≤ 64 from fun h => by rw [← HKE.out]; exact Nat.le_trans (kept_few HF.out (h : Int)) s64)
    have HEND := Lib.hid (show ∀ (dl sq : Int) (t : Nat), keyI T L l r = (dl, sq) → t ≤ L → Mine (chainI T L N l) r L t → ∃ K m s, K ≤ 3000 ∧ steps (finA T L r) (finT L dl sq) K (setI (setI l (atI T L i 4) 1) (atI T L i 3) (t : Int)) .look = some (m, s) ∧ finA T L r s = none ∧ wtB s = true ∧ epI s = getI l 0 ∧
        m.length = wordsN T N L ∧ BM.Fits m ∧ BM.Fits (setI (setI l (atI T L i 4) 1) (atI T L i 3) (t : Int)) ∧ ∀ h : Nat, h < L → (∃ cl, chainI T L N m h = (cl, true) ∧ ¬ r ∈ cl) ∧ keptL T L N m h = (KL h).filter (fun c => !decide (c = r)) from fun dl sq t hk ht hm => by
      obtain ⟨K, m, s, h1, h2, h3, h4, h5, h6, h7, h8⟩ := finish_run (T := T) (N := N) (L := L) (t := t) (r := r) (dl := dl) (sq := sq) (by omega) s64 (by omega) (by omega) hlen HF.out hg (by rw [← HIR.out]; omega) (by rw [← HIR.out]; omega) hk ht (fun h hh c hc e => hm h hh c hc e)
      rw [← HIR.out] at h2
      exact ⟨K, m, s, h1, h2, h3, h4, h5, h6, h7, BM.fits_set (BM.fits_set HF.out _ (by omega)) _ (by omega), fun h hh => ⟨(h8 h hh).1, by rw [← HKE.out]; exact (h8 h hh).2⟩⟩)
    have HKQ := Lib.hid (show keyI (T : Int) (L : Int) l r = ((keyI (T : Int) (L : Int) l r).1, (keyI (T : Int) (L : Int) l r).2) from rfl)
    have HHD := Lib.hid (fun W : World => Plan.Hold_any T N L G i W)
    have HTL := Lib.hid (fun W : World => Plan.Tall_any T N L G i W)
    have HLEN := Lib.hid hlen
    generalize chainI (T : Int) (L : Int) (N : Int) l = ch at HCH HRF HCW HEND
    generalize (keyI (T : Int) (L : Int) l r).1 = dl at HKY HKQ
    generalize (keyI (T : Int) (L : Int) l r).2 = sq at HKY HKQ
    clear hg hlen
    go_wp2_with fail
    refine (HMK.out _).mono ?_
    rintro e w' ⟨rfl, rfl⟩
    go_wp2
    go_loopw [8, 9] (fun tv hv wr => ∃ h t : Nat, h ≤ L ∧ t ≤ h ∧ tv = .int .i64 t ∧ hv = .int .i64 h ∧ Mine ch r h t ∧ Below (w.heap.size + 1) (w.alloc (.cells #[.int .i64 T, .int .i64 N, .int .i64 L, .int .u64 G] 24)) wr) (fun _ hv _ => L - (intOf hv).toNat)
    case atStart => exact ⟨0, 0, Nat.zero_le _, Nat.le_refl _, rfl, rfl, mine_0 ch r 0, HB2.out⟩
    case round =>
      obtain ⟨h, t, hh, hth, rfl, rfl, hall, hb⟩ := hrel
      have HALL := Lib.hid hall
      have HB := Lib.hid hb
      clear hall hb c_0 c_1 c_2 c_3
      obtain ⟨c_0, c_1, c_2, c_3⟩ := HBX.out _ HB.out
      by_cases hlt : h < L
      · have hil : (h : Int) < (L : Int) := by omega
        go_wp2_with fail
        refine (HCH.out h _ HB.out).mono ?_
        rintro e w3 ⟨A2, n2, d2', rfl, h2, r2, -, b3⟩
        have HB3 := Lib.hid (past_later HB.out b3)
        have HN2 := Lib.hid h2
        have HR2 := Lib.hid r2
        have hn2 : n2 ≤ 64 := by have := HRF.out h; omega
        clear r2 h2 b3 c_0 c_1 c_2 c_3
        generalize (ch h).2 = okv
        go_wp2
        go_loopw [8, 12] (fun tv kv wr2 => ∃ k t2 : Nat, k ≤ n2 ∧ t ≤ t2 ∧ t2 ≤ h + 1 ∧ tv = .int .i64 t2 ∧ kv = .int .i64 k ∧ Mine2 (ch h).1 r h k t2 ∧ w3 = wr2) (fun _ kv _ => n2 - (intOf kv).toNat)
        case atStart => exact ⟨0, t, Nat.zero_le _, Nat.le_refl _, by omega, rfl, rfl, mine2_0 _ r h t, rfl⟩
        case round =>
          obtain ⟨k, t2, hk, htt, ht2, rfl, rfl, hm2, rfl⟩ := hrel
          have HM2 := Lib.hid hm2
          clear hm2
          obtain ⟨c_0, c_1, c_2, c_3⟩ := HBX.out _ HB3.out
          by_cases hkl : k < n2
          · obtain ⟨y, hy⟩ : ∃ y, (ch h).1[k]? = some y := ⟨_, List.getElem?_eq_getElem (by have := HN2.out; omega)⟩
            have HY := Lib.hid hy
            obtain ⟨yi, hyi⟩ : ∃ yi, yi = idx y := ⟨_, rfl⟩
            have HYI := Lib.hid hyi
            have HIK := Lib.hid (HIY.out y (HCW.out h y (List.mem_of_getElem? hy)))
            rw [← hyi] at HIK
            obtain ⟨b0, o0, rfl, -, hc0⟩ := int_at HR2.out (show k < (ch h).1.length by have := HN2.out; omega)
            have q0 := hc0 k y hy
            have hil2 : (k : Int) < (n2 : Int) := by omega
            clear hc0 hy hyi
            by_cases he : yi = i
            · have e1 : (yi == i) = true := by simpa using he
              by_cases hyr : y = r
              · have e2 : (y == r) = true := by simpa using hyr
                have HM3 := Lib.hid (mine2_next (mine2_up HM2.out ht2) HY.out (fun _ => ⟨hyr, Nat.lt_succ_self h⟩))
                clear he hyr
                go_wp2_with fail
                refine (HIK.out _).mono ?_
                rintro e w' ⟨rfl, rfl⟩
                go_wp2_with fail
                refine (HIK.out _).mono ?_
                rintro e w' ⟨rfl, rfl⟩
                go_wp2
                go_roundw
                case rel => exact ⟨k + 1, h + 1, by omega, by omega, by omega, by go_num, by go_num, HM3.out, by trivial⟩
                case measure => simp [intOf]; omega
              · have e2 : (y == r) = false := by simpa using hyr
                clear he hyr
                go_wp2_with fail
                refine (HIK.out _).mono ?_
                rintro e w' ⟨rfl, rfl⟩
                go_wp2_with fail
                refine (HIK.out _).mono ?_
                rintro e w' ⟨rfl, rfl⟩
                go_wp2_with fail
                refine (HAW.out _ HB3.out).mono ?_
                rintro e w2 ⟨rfl, b2⟩
                go_wp2
                go_ret
                exact ⟨rfl, b2⟩
            · have e1 : (yi == i) = false := by simpa using he
              have HM3 := Lib.hid (mine2_next HM2.out HY.out (fun z => absurd (HYI.out.trans (z.trans HIR.out.symm)) he))
              clear he
              go_wp2_with fail
              refine (HIK.out _).mono ?_
              rintro e w' ⟨rfl, rfl⟩
              go_wp2_with fail
              refine (HIK.out _).mono ?_
              rintro e w' ⟨rfl, rfl⟩
              go_wp2
              go_roundw
              case rel => exact ⟨k + 1, t2, by omega, htt, ht2, rfl, by go_num, HM3.out, by trivial⟩
              case measure => simp [intOf]; omega
          · obtain rfl : k = n2 := by omega
            have HM3 := Lib.hid (mine_next (mine_up HALL.out htt) HN2.out HM2.out)
            go_wp2
            go_roundw
            case rel => exact ⟨h + 1, t2, by omega, ht2, rfl, by go_num, HM3.out, HB3.out⟩
            case measure => simp [intOf]; omega
      · obtain rfl : L = h := by omega
        obtain ⟨K, m, s, hK, hsteps, hst, hw1, hep, hlm, hfm, hf1, hall⟩ := HEND.out dl sq t HKQ.out hth HALL.out
        have HMN := Lib.hid (show n = m.length by rw [hlm, ← HLEN.out]; exact HN.out)
        have HFM := Lib.hid hfm
        have HF1 := Lib.hid hf1
        have HKK := Lib.hid hK
        have HSTEPS := Lib.hid hsteps
        have HA1 := Lib.hid (And.intro hst (And.intro hw1 hep))
        have HCM := Lib.hid (show ∀ h : Nat, h < L → ∃ cl, (∀ (A7 : Option Addr) (c7 : Nat) W, Row W W.heap.size A7 (flat (encZ .u64) m) → Calls Tryz.prog 8 #[.slice A7 n c7, .agg #[.int .i64 T, .int .i64 N, .int .i64 L, .int .u64 G], .int .i64 h] W (Chained W (cl, true))) ∧ decide (r ∈ cl) = false ∧ cl.length ≤ 64 from fun h hh => by
          obtain ⟨⟨cl, e1, e2⟩, -⟩ := hall h hh
          refine ⟨cl, fun A7 c7 W hr => ?_, decide_eq_false e2, ?_⟩
          · rw [← e1]
            exact Chain_any c7 HMN.out (by omega) hr HFM.out s64 h
          · have h3 := chain_few (T := (T : Int)) (L := (L : Int)) (N := N) HFM.out (h : Int)
            rw [e1] at h3
            exact Nat.le_trans h3 s64)
        have HKM := Lib.hid (show ∀ h : Nat, h < L → ∀ (A7 : Option Addr) (c7 : Nat) W, Row W W.heap.size A7 (flat (encZ .u64) m) → Calls Tryz.prog 20 #[.slice A7 n c7, .agg #[.int .i64 T, .int .i64 N, .int .i64 L, .int .u64 G], .int .i64 h] W (SeekRef.Listed W ((KL h).filter (fun c => !decide (c = r)))) from fun h hh A7 c7 W hr => by
          rw [← (hall h hh).2]
          exact Kept_any c7 HMN.out (by omega) hr HFM.out s64 h)
        have HL9 := Lib.hid (show -9223372036854775808 ≤ (L : Int) ∧ (L : Int) ≤ 9223372036854775807 by omega)
        have hwt : IntKind.u64.wrap (t : Int) = (t : Int) := by rw [IntKind.wrap_u64]; omega
        clear hK hsteps hst hw1 hep hlm hfm hf1 hall
        generalize atI (T : Int) (L : Int) i 4 = qh at HHD HSTEPS HF1
        generalize atI (T : Int) (L : Int) i 3 = qt at HTL HSTEPS HF1
        go_wp2_with fail
        refine (Of_any (HROW.out _ HB.out) HN.out hn4).mono ?_
        rintro e w2 ⟨pc, hc, rfl, m2, p2, h2, b2⟩
        have HB2 := Lib.hid (past_later HB.out b2)
        have HM2 := Lib.hid m2
        have HP2 := Lib.hid (show w.heap.size + 1 ≤ pc ∧ w.heap.size + 1 ≤ hc from by have h3 := past_lt HB.out; omega)
        clear m2 p2 h2 b2 c_0 c_1 c_2 c_3
        obtain ⟨c_0, c_1, c_2, c_3⟩ := HBX.out _ HB2.out
        go_wp2_with fail
        refine (HHD.out _).mono ?_
        rintro e w3 ⟨rfl, b3⟩
        have HB3 := Lib.hid (past_later HB2.out b3)
        have HM3 := Lib.hid (HM2.out.later b3)
        clear b3
        go_wp2_with fail
        refine (Store_any HM3.out qh 1).mono ?_
        rintro e w4 ⟨rfl, g4, m4⟩
        have HM4 := Lib.hid m4
        have HB4 := Lib.hid (show Below (w.heap.size + 1) (w.alloc (.cells #[.int .i64 T, .int .i64 N, .int .i64 L, .int .u64 G] 24)) w4 from past_only HB3.out (only_grown (R := fun k => k = hc) g4 fun k e => by cases e; rfl) (fun k e => by subst e; exact HP2.out.2))
        clear g4 m4 c_0 c_1 c_2 c_3
        obtain ⟨c_0, c_1, c_2, c_3⟩ := HBX.out _ HB4.out
        go_wp2_with fail
        refine (HTL.out _).mono ?_
        rintro e w5 ⟨rfl, b5⟩
        have HB5 := Lib.hid (past_later HB4.out b5)
        have HM5 := Lib.hid (HM4.out.later b5)
        clear b5
        go_wp2_with fail
        refine (Store_any HM5.out qt t).mono ?_
        rintro e w6 ⟨rfl, g6, m6⟩
        have HM6 := Lib.hid m6
        have HB6 := Lib.hid (show Below (w.heap.size + 1) (w.alloc (.cells #[.int .i64 T, .int .i64 N, .int .i64 L, .int .u64 G] 24)) w6 from past_only HB5.out (only_grown (R := fun k => k = hc) g6 fun k e => by cases e; rfl) (fun k e => by subst e; exact HP2.out.2))
        have HD6 := Lib.hid (show Below (w.heap.size + 1) (w.alloc (.cells #[.int .i64 T, .int .i64 N, .int .i64 L, .int .u64 G] 24)) w6.drew from HB6.out.drew)
        clear g6 m6 c_0 c_1 c_2 c_3 hwt
        go_upto_region 19 with fail
        go_region_held3 (fun W => (W.cell? ⟨w.heap.size, 0, none⟩ = some (.int .i64 T) ∧ W.cell? ⟨w.heap.size, 1, none⟩ = some (.int .i64 N) ∧ W.cell? ⟨w.heap.size, 2, none⟩ = some (.int .i64 L) ∧ W.cell? ⟨w.heap.size, 3, none⟩ = some (.int .u64 G)))
          ((first | (with_reducible exact HBX.out _ HD6.out) | (with_reducible assumption) | (with_reducible exact HBX.out _ HB7.out) | (with_reducible exact HBX.out _ HB8.out)))
          (first
            | (go_at_call 14; refine (HKY.out _ HD6.out).mono ?_; rintro e w7 ⟨rfl, hb⟩; have HB7 := Lib.hid (past_later HD6.out hb); have HX7 := Lib.hid (show Below w6.heap.size w6 w7 from (Below.refl _ _).drew.trans hb); clear hb)
            | (go_at_call 13; refine (Finish_any T N L G r dl sq HL9.out HRW.out _).mono ?_; rintro e w8 ⟨fq, S0, rfl, f8, k8, b8⟩; have HB8 := Lib.hid (past_later HB7.out b8); have HM8 := Lib.hid (HM6.out.later (chain HX7.out b8)); have HF8 := Lib.hid f8; have HK8 := Lib.hid (show (∀ k, S0 k → w.heap.size + 1 ≤ k) ∧ ¬ S0 pc ∧ ¬ S0 hc from ⟨fun k e => by have h1 := (k8 k e).1; have h2 := past_lt HB7.out; omega, fun e => by have h1 := (k8 _ e).1; have h2 := (HM6.out.later HX7.out).lt; omega, fun e => by have h1 := (k8 _ e).1; have h2 := (HM6.out.later HX7.out).lt; omega⟩); clear f8 k8 b8))
        have HM80 := Lib.hid (show Amid w8 S0 pc hc n fq T N L G r dl sq K m s 0 w8 from ⟨_, .look, S0, Nat.zero_le _, HM8.out, HF1.out, HF8.out, HSTEPS.out, fun k e => .inl e, Only.refl _ _⟩)
        have HLT8 := Lib.hid HM8.out.lt
        clear HSTEPS HF1
        go_wp2
        go_loopw [16] (fun kv wr => ∃ j : Nat, kv = .int .i64 j ∧ Amid w8 S0 pc hc n fq T N L G r dl sq K m s j wr) (fun kv _ => 5000 - (intOf kv).toNat)
        case atStart => exact ⟨0, rfl, HM80.out⟩
        case round =>
          obtain ⟨j, rfl, ⟨mj, sj, S, hj, hmj, hfj, hsj, ha, hsb, ho⟩⟩ := hrel
          have HMJ := Lib.hid hmj
          have HFJ := Lib.hid hfj
          have HSJ := Lib.hid hsj
          have HAJ := Lib.hid ha
          have HSB := Lib.hid hsb
          have HOJ := Lib.hid ho
          have hj5 : (j : Int) < 5000 := by have := HKK.out; omega
          have HNX := Lib.hid (Fin_next hsj)
          clear hmj hfj hsj ha hsb ho
          cases hx : finA T L r sj with
          | none =>
            have HE := Lib.hid (show mj = m ∧ sj = s by
              have h1 := HAJ.out
              cases hkj : K - j with
              | zero => rw [hkj] at h1; simp only [steps, Option.some.injEq, Prod.mk.injEq] at h1; exact h1
              | succ k => rw [hkj] at h1; obtain ⟨d, h2, -⟩ := steps_amid h1; rw [hx] at h2; cases h2)
            rw [hx] at HNX
            clear hx
            go_wp2_with fail
            refine HNX.out.mono ?_
            rintro e w9 ⟨rfl, b9⟩
            simp only [Option.getD_none, Option.isSome_none]
            have hb9 := chain b9 (ba w9 (.cells #[.int .i64 0, .int .i64 0, .int .u64 0, .int .u64 0, .int .u64 0] 44))
            have HB9 := Lib.hid (past_later (show Below (w.heap.size + 1) (w.alloc (.cells #[.int .i64 T, .int .i64 N, .int .i64 L, .int .u64 G] 24)) wr from past_only HB8.out HOJ.out (fun k e => e.elim (fun e => by subst e; exact HP2.out.2) (HK8.out.1 k))) hb9)
            have HM9 := Lib.hid (show Mem (w9.alloc (.cells #[.int .i64 0, .int .i64 0, .int .u64 0, .int .u64 0, .int .u64 0] 44)) pc hc n m from HE.out.1 ▸ HMJ.out.later hb9)
            have HR9 := Lib.hid (Fin_retired (HSJ.out.later hb9))
            rw [HE.out.2, HA1.out.2.1, HA1.out.2.2] at HR9
            rw [if_pos rfl, if_pos rfl] at HR9
            obtain ⟨e0, he0⟩ : ∃ e0, e0 = getI l 0 := ⟨_, rfl⟩
            rw [← he0] at HR9
            have HE0 := Lib.hid (show l[0]? = some e0 from by
              obtain ⟨x, hx⟩ : ∃ x, l[0]? = some x := ⟨_, List.getElem?_eq_getElem (by rw [← HN.out]; exact hn0)⟩
              rw [he0, hx, show (0 : Int) = ((0 : Nat) : Int) from rfl, getI_some hx])
            clear b9 hb9 he0
            clear HNX HAJ HSB HOJ HSJ HFJ HMJ HE hj hj5 HM80 HLT8 HK8 HF8 HM8 HX7 HB7 HB8 HB6 HD6 HM6 HM5 HM4 HM3 HM2 HB5 HB4 HB3 HB2 HHD HTL HKY HKQ HEND HCH HRF HCW HMK HI HIY HGD HALL HIR HLEN hth HA1 HKK HFM HMN HP2
            go_wp2_with fail
            refine HR9.out.mono ?_
            rintro e w10 ⟨rfl, b10⟩
            have hb10 := chain b10 (ba w10 (.cells #[.int .u64 r, .int .u64 e0] 50))
            have HB10 := Lib.hid (past_later HB9.out hb10)
            have HM10 := Lib.hid (HM9.out.later hb10)
            have HXX := Lib.hid (show ∀ W, Below (w10.alloc (.cells #[.int .u64 r, .int .u64 e0] 50)).heap.size (w10.alloc (.cells #[.int .u64 r, .int .u64 e0] 50)) W → W.cell? ⟨w10.heap.size, 0, none⟩ = some (.int .u64 r) ∧ W.cell? ⟨w10.heap.size, 1, none⟩ = some (.int .u64 e0) from fun W hb => ⟨cell_later hb (cell_heap (new_heap w10 (.cells #[.int .u64 r, .int .u64 e0] 50)) 0).1, cell_later hb (cell_heap (new_heap w10 (.cells #[.int .u64 r, .int .u64 e0] 50)) 1).1⟩)
            clear b10 hb10
            go_wp2_with fail
            refine (Words_new HM10.out).mono ?_
            rintro e w12 ⟨A7, rfl, r12, b12⟩
            have HB12 := Lib.hid (past_later HB10.out b12)
            have HR12 := Lib.hid r12
            have HX12 := Lib.hid b12
            clear r12 b12
            go_wp2
            go_loopw [22] (fun hv wr0 => ∃ h : Nat, h ≤ L ∧ hv = .int .i64 h ∧ Below w12.heap.size w12 wr0) (fun hv _ => L - (intOf hv).toNat)
            case atStart => exact ⟨0, Nat.zero_le _, rfl, Below.refl _ _⟩
            case round =>
              obtain ⟨wr0, hwr0⟩ : ∃ wr0, wr0 = wr := ⟨_, rfl⟩
              subst hwr0
              obtain ⟨h, hh, rfl, hb⟩ := hrel
              have HBH := Lib.hid hb
              have HPH := Lib.hid (past_later HB12.out hb)
              clear hb
              obtain ⟨c_0, c_1, c_2, c_3⟩ := HBX.out _ HPH.out
              by_cases hlt : h < L
              · have hil : (h : Int) < (L : Int) := by omega
                obtain ⟨cl, hcl, hno, hfew⟩ := HCM.out h hlt
                have HCL := Lib.hid hcl
                have HNO := Lib.hid (And.intro hno hfew)
                have HKN := Lib.hid (HKM.out h hlt A7 n)
                clear hcl hno hfew
                go_wp2_with fail
                refine (HCL.out A7 n _ (HR12.out.later HBH.out)).mono ?_
                rintro e w13 ⟨A8, n8, c8, rfl, h8, r8, -, b13⟩
                have HB13 := Lib.hid b13
                have HP13 := Lib.hid (past_later HPH.out b13)
                have HH8 := Lib.hid (fun W (hb : Below w13.heap.size w13 W) => Has_is (c := c8) HNO.out.1 h8 (by have h9 := HNO.out.2; simp only at h8; omega) (r8.later hb))
                clear b13 h8 r8 c_0 c_1 c_2 c_3
                obtain ⟨c_0, c_1, c_2, c_3⟩ := HBX.out _ HP13.out
                go_wp2_with fail
                refine (HKL.out h _ HP13.out).mono ?_
                rintro e w14 ⟨A9, n9, c9, rfl, h9, r9, -, b14⟩
                have HB14 := Lib.hid b14
                have HP14 := Lib.hid (past_later HP13.out b14)
                have HN9 := Lib.hid h9
                have HR9b := Lib.hid r9
                have hn9 : n9 ≤ 64 := by have := HKF.out h; omega
                clear b14 h9 r9 c_0 c_1 c_2 c_3
                obtain ⟨f, hfd⟩ : ∃ f : Int → Bool, f = fun c => !decide (c = r) := ⟨_, rfl⟩
                have HFD := Lib.hid hfd
                rw [← hfd] at HKN
                clear hfd
                go_wp2
                go_loopw [25, 27] (fun ov kv wr1 => ∃ (k m2 : Nat), k ≤ n9 ∧ m2 ≤ k ∧ kv = .int .i64 k ∧ m2 = (((KL h).take k).filter f).length ∧ wr1.ownsRow w14.heap.size 22 1 ov m2 (flat (encZ .u64) (((KL h).take k).filter f)) ∧ Below w14.heap.size w14 wr1)
                  (fun _ kv _ => n9 - (intOf kv).toNat)
                case atStart => exact ⟨0, 0, Nat.zero_le _, Nat.le_refl _, rfl, by simp, by simpa [flat] using World.ownsRow_nil w14 w14.heap.size _ _, Below.refl _ _⟩
                case round =>
                  obtain ⟨wr1, hwr1⟩ : ∃ wr1, wr1 = wr := ⟨_, rfl⟩
                  subst hwr1
                  obtain ⟨k, m2, hk, hmk, rfl, hm2, ho2, hb2⟩ := hrel
                  obtain ⟨A5, c5, rfl, -⟩ := slice_of_own ho2
                  have HO5 := Lib.hid ho2
                  have HB5 := Lib.hid hb2
                  have HM5 := Lib.hid hm2
                  clear ho2 hb2 hm2
                  obtain ⟨c_0, c_1, c_2, c_3⟩ := HBX.out _ (past_later HP14.out HB5.out)
                  by_cases hkl : k < n9
                  · obtain ⟨y, hy⟩ : ∃ y, (KL h)[k]? = some y := ⟨_, List.getElem?_eq_getElem (by have := HN9.out; omega)⟩
                    have HTF := Lib.hid (take_filter (f := f) hy)
                    obtain ⟨b0, o0, rfl, -, hc0⟩ := int_at (HR9b.out.later HB5.out) (show k < (KL h).length by have := HN9.out; omega)
                    have q0 := hc0 k y hy
                    have hil2 : (k : Int) < (n9 : Int) := by omega
                    clear hc0 hy
                    by_cases hyr : y = r
                    · have e2 : (y == r) = true := by simpa using hyr
                      have H4 := Lib.hid (show ((KL h).take (k + 1)).filter f = ((KL h).take k).filter f by rw [HTF.out, HFD.out, hyr]; simp)
                      clear hyr
                      go_upto_region 36 with fail
                      clear e2 q0 c_0 c_1 c_2 c_3
                      go_wp2
                      go_roundw
                      case rel => exact ⟨k + 1, m2, by omega, by omega, by go_num, by rw [H4.out]; exact HM5.out, by rw [H4.out]; exact HO5.out, HB5.out⟩
                      case measure => simp [intOf]; omega
                    · have e2 : (y == r) = false := by simpa using hyr
                      have H4 := Lib.hid (show ((KL h).take (k + 1)).filter f = ((KL h).take k).filter f ++ [y] by rw [HTF.out, HFD.out]; simp [hyr])
                      have K0 := fun o => cell_later (box_below wr1 o) q0
                      clear hyr
                      go_upto_region 38 with fail
                      clear e2 c_0 c_1 c_2 c_3
                      go_wp2_with (at_builtin; refine wpList_append_only _ rfl (.tmp 169) (.tmp 174) 25 rfl w14.heap.size 22 i0 _ 1 8 Tryz.underlying25 hi0 hz0 hz1 hz2 rfl (by decide) _ m2 _ rfl (HO5.out.alloc _) ⟨wr1.heap.size, 0, none⟩ 1 1 (encZ .u64 y) rfl (by decide) rfl (cells_new _ _ _) (encZ_one _ _) (by simp only [maxLen]; omega) (by omega) (by have := HB5.out.size; simp; omega) ?_; intro g2 cap w3 ho3 hg3 hlt3 hor3 hon3; have HO3 := Lib.hid ho3; have HB3 := Lib.hid (show Below w14.heap.size w14 w3 from (HB5.out.alloc HB5.out.size _).trans (hon3.below (by have := HB5.out.size; simp; omega) (fun k hk => (HO5.out.lt k hk).1))); clear ho3 hg3 hlt3 hor3 hon3)
                      go_roundw
                      case rel => exact ⟨k + 1, m2 + 1, by omega, by omega, by go_num, by rw [H4.out, List.length_append, ← HM5.out]; rfl, by rw [H4.out, flat_append, flat_one]; exact HO3.out, HB3.out⟩
                      case measure => simp [intOf]; omega
                  · obtain rfl : k = n9 := by omega
                    have HALL9 := Lib.hid (show (KL h).take k = KL h from List.take_of_length_le (by have := HN9.out; omega))
                    have HRF := Lib.hid (show m2 = ((KL h).filter f).length ∧ Row wr1 wr1.heap.size (A5) (flat (encZ .u64) ((KL h).filter f)) from ⟨HALL9.out ▸ HM5.out, HALL9.out ▸ Row.of_own HO5.out⟩)
                    have HHX := Lib.hid (HH8.out wr1 (chain HB14.out HB5.out))
                    have HKX := Lib.hid (HKN.out wr1 (HR12.out.later (HBH.out.trans ((chain HB13.out (chain HB14.out HB5.out)).mono HBH.out.size))))
                    go_wp2_with fail
                    refine HHX.out.mono ?_
                    rintro e w' ⟨rfl, rfl⟩
                    go_wp2_with fail
                    refine HKX.out.mono ?_
                    rintro e w15 ⟨A10, n10, c10, rfl, h10, r10, -, hb⟩
                    have HR10 := Lib.hid (And.intro h10 r10)
                    have HB15 := Lib.hid hb
                    clear h10 r10 hb
                    go_wp2_with fail
                    refine (CellsRef.Same_yes (l := (KL h).filter f) HR10.out.1 HRF.out.1 HR10.out.2 (HRF.out.2.later HB15.out) (Nat.le_trans (List.length_filter_le _ _) (by have := HKF.out h; unfold maxLen; omega))).mono ?_
                    rintro e w16 ⟨rfl, hb⟩
                    have HEB := Lib.hid (HBH.out.trans ((chain HB13.out (chain HB14.out (chain HB5.out (chain HB15.out hb)))).mono HBH.out.size))
                    clear hb
                    go_wp2
                    go_roundw
                    case rel => exact ⟨h + 1, by omega, by go_num, HEB.out⟩
                    case measure => simp [intOf]; omega
              · obtain rfl : L = h := by omega
                obtain ⟨b0, o0, ea, -, hc0⟩ := int_at (HROW.out _ HPH.out) (show 0 < l.length by rw [← HN.out]; exact hn0)
                have q0 := hc0 0 e0 HE0.out
                rw [Nat.add_zero] at q0
                have HK := Lib.hid (show ∀ W, Below wr0.heap.size wr0 W → (W.cell? ⟨w10.heap.size, 0, none⟩ = some (.int .u64 r) ∧ W.cell? ⟨w10.heap.size, 1, none⟩ = some (.int .u64 e0)) ∧ W.cell? ⟨b0, o0, none⟩ = some (.int .u64 e0) from fun W hb => ⟨HXX.out W (HX12.out.trans ((HBH.out.mono (Nat.le_refl _)).trans (hb.mono HBH.out.size) |>.mono HX12.out.size)), cell_later hb q0⟩)
                have hgn : (0 : Int) < (n : Int) := by omega
                have N1 := fun W => eqlR r e0 r e0 W
                simp only [and_self, decide_true] at N1
                have hgu := guardR
                clear hc0 q0 hlt
                subst ea
                go_upto_region 41 with fail
                clear c_0 c_1 c_2 c_3
                go_region_held3 (fun W => (W.cell? ⟨w10.heap.size, 0, none⟩ = some (.int .u64 r) ∧ W.cell? ⟨w10.heap.size, 1, none⟩ = some (.int .u64 e0)) ∧ W.cell? ⟨b0, o0, none⟩ = some (.int .u64 e0))
                  ((first | (with_reducible exact HK.out _ (Below.refl _ _).drew) | (with_reducible assumption) | (with_reducible exact HK.out _ HB14.out)))
                  ((go_at_call 7; refine (awake_any _).mono ?_; rintro e w14 ⟨rfl, hb⟩; have HB14 := Lib.hid (show Below wr0.heap.size wr0 w14 from (Below.refl _ _).drew.trans hb); clear hb))
                have HEB := Lib.hid (show Below w.heap.size w w14 from past_old (past_later HPH.out HB14.out))
                go_wp2
                go_ret
                exact ⟨rfl, HEB.out⟩
          | some d =>
            have HE := Lib.hid (show j < K ∧ steps (finA T L r) (finT L dl sq) (K - (j + 1)) (nextD mj d) (finT L dl sq sj (foundD mj d)) = some (m, s) by
              have h1 := HAJ.out
              cases hkj : K - j with
              | zero =>
                exfalso
                rw [hkj] at h1
                simp only [steps, Option.some.injEq, Prod.mk.injEq] at h1
                have h2 := HA1.out.1
                rw [← h1.2, hx] at h2
                cases h2
              | succ k =>
                rw [hkj] at h1
                obtain ⟨d2, h2, h3⟩ := steps_amid h1
                rw [hx] at h2
                cases h2
                exact ⟨by omega, by rw [show K - (j + 1) = k by omega]; exact h3⟩)
            have HDF := Lib.hid (fin_fits HSJ.out.1 HRW.out hx)
            rw [hx] at HNX
            clear hx
            go_wp2_with fail
            refine HNX.out.mono ?_
            rintro e w9 ⟨rfl, b9⟩
            simp only [Option.getD_some, Option.isSome_some]
            have HB9 := Lib.hid (chain b9 (ba w9 (.cells #[.int .i64 d.1, .int .i64 d.2.1, .int .u64 d.2.2.1, .int .u64 d.2.2.2.1, .int .u64 d.2.2.2.2] 44)))
            have HM9 := Lib.hid (HMJ.out.later HB9.out)
            have HS9 := Lib.hid (HSJ.out.later HB9.out)
            have HO9 := Lib.hid (HOJ.out.then_below HB9.out)
            have HSB9 := Lib.hid (show ∀ k, S k → S0 k ∨ (w8.heap.size ≤ k ∧ k < (w9.alloc (.cells #[.int .i64 d.1, .int .i64 d.2.1, .int .u64 d.2.2.1, .int .u64 d.2.2.2.1, .int .u64 d.2.2.2.2] 44)).heap.size) from fun k e => (HSB.out k e).imp id fun z => ⟨z.1, Nat.lt_of_lt_of_le z.2 HB9.out.size⟩)
            have HNS := Lib.hid (show ¬ S pc ∧ ¬ S hc from ⟨fun e => (HSB.out _ e).elim HK8.out.2.1 fun z => by have := HLT8.out; omega, fun e => (HSB.out _ e).elim HK8.out.2.2 fun z => by have := HLT8.out; omega⟩)
            clear b9
            go_wp2_with fail
            refine (DeedDo.Do_any HM9.out d).mono ?_
            rintro e w10 ⟨rfl, g10, m10⟩
            have HM10 := Lib.hid m10
            have HO10 := Lib.hid (only_grown (R := fun k => k = hc) g10 fun k e => by cases e; rfl)
            have HS10 := Lib.hid (HS9.out.only HO10.out (fun k z e => HNS.out.2 (e ▸ z)))
            have HO910 := Lib.hid (HO9.out.trans (HO10.out.wide (R' := fun k => k = hc ∨ S0 k) fun k e => .inl (.inl e)))
            clear g10 m10
            go_wp2_with fail
            refine (Fin_tell HS10.out (by have := HE.out.1; have := HKK.out; omega) (fits_found HFJ.out d)).mono ?_
            rintro e w11 ⟨rfl, S11, s11, o11, k11⟩
            have H11 := Lib.hid (show Amid w8 S0 pc hc n fq T N L G r dl sq K m s (j + 1) w11 from ⟨_, _, S11, by have := HE.out.1; omega, ⟨HM10.out.1, HM10.out.2.1, HM10.out.2.2.1, o11.cell HM10.out.box HNS.out.1, o11.own HM10.out.own (fun k e => by cases e; exact HNS.out.2)⟩, fits_next HFJ.out HDF.out, s11, HE.out.2,
              fun k z => (k11 k z).elim (fun z => (HSB9.out k z).imp id fun z => ⟨z.1, Nat.lt_of_lt_of_le z.2 (Nat.le_trans HO10.out.size o11.size)⟩) (fun z => .inr ⟨Nat.le_trans HO910.out.size z.1, z.2⟩), HO910.out.more o11 (fun k z => (HSB9.out k z).imp (fun z => .inr z) fun z => z.1)⟩)
            have hj2 := HE.out.1
            clear s11 o11 k11
            go_wp2
            go_roundw
            case rel => exact ⟨j + 1, by go_num, H11.out⟩
            case measure => simp [intOf]; omega

theorem walk (x : Int × Int × Int × Int) (A : Option Addr) (l : List Int) (c : Nat) (r : Int) (_ : (Lit.int .i64 x.1).wf = true) (_ : (Lit.int .i64 x.2.1).wf = true) (_ : (Lit.int .i64 x.2.2.1).wf = true) (_ : (Lit.int .u64 x.2.2.2).wf = true) (hr : (Lit.int .u64 r).wf = true) (w : World)
    (hR : Row w w.heap.size A (flat (encZ .u64) l)) (hl : l.length ≤ maxLen) (hw : ∀ z ∈ l, (Lit.int .u64 z).wf = true) (_ : True) :
    Calls Tryz.prog 3 #[.agg #[.int .i64 x.1, .int .i64 x.2.1, .int .i64 x.2.2.1, .int .u64 x.2.2.2], .slice A l.length c, .int .u64 r] w fun e w' => e = .returned (.bool true) ∧ Below w.heap.size w w' := by
  obtain ⟨T, N, L, G⟩ := x
  exact walk_any T N L G r A l c w hR hl (fun z hz => wf_u64 (hw z hz)) (wf_u64 hr)
theorem laidOut : laidOutB Tryz.prog = true := by kernel_rfl
theorem own : ownKnob Tryz.prog.godebug = none := by kernel_rfl
theorem door_met (os : Os) (args : Array Value) : laidMetH Tryz.prog Rows.finishOutsRow.laid ((World.doorLaid Tryz.prog 400 os).forCall (fun _ _ => 0) ⟨#[], args, []⟩).memory :=
  laidMetH_of_parts3 (fuel := 8) (laidMet_of_run' 8 (by kernel_rfl) (by kernel_rfl)) (by kernel_rfl) (by kernel_rfl)
set_option maxRecDepth 100000 in
theorem lifted (os : Os) (started : os.Started) (H : Type) (enc : TypeId × Value → H) :
    ReturnsInHanded {} Tryz.checked os 3 .any (fun w args => (Rows.finishOutsSpec.pre enc Tryz.prog Tryz.f3 [] false w args ∧ laidMetH Tryz.prog Rows.finishOutsRow.laid w) ∧ sizedMet enc Tryz.prog Tryz.f3 (OpenSpec.ofChange Rows.finishOutsSpec) false w args) (Rows.finishOutsSpec.post enc Tryz.prog Tryz.f3 false true false false) := by
  refine Frame.liftedLaid (C := Tryz.checked) (fn := Tryz.f3) (tb := 4) own started (by kernel_rfl) Tryz.func3
    (ChangeSpec.witness_shaped (enc := enc) (C := Tryz.checked) (os := os) (X := fun w _ => laidMetH Tryz.prog Rows.finishOutsRow.laid w) false (World.doorLaid Tryz.prog 400 os) #[.agg #[.int .i64 0, .int .i64 0, .int .i64 0, .int .u64 0], .slice none 0 0, .int .u64 0] 8 rfl (World.shaped_of_RefB (by kernel_rfl) (by kernel_rfl)) (by kernel_rfl) (by kernel_rfl) (by kernel_rfl) (door_met os _))
    rfl rfl Tryz.underlying4 laidOut (by kernel_rfl) (fun ds h => by match ds, h with | [_, _, _], _ => rfl) ?_
  intro W base args ds ps hval0 hA0 hlt hL
  have hval : ∀ (j : Nat) t v, Tryz.f3.params[j]? = some t → args[j]? = some v → Value.okWide Tryz.prog W .any base t v := hval0
  have hA : DataW.TrodAll enc Tryz.prog W 0 (fun _ => true) true Tryz.f3.params.toList args.toList ds ps := hA0
  rw [Tryz.params3] at hA hval
  obtain ⟨v0, vs0, d0, ds0, p0, q0, hargs, rfl, rfl, h0, r0⟩ := trodAll_cons hA
  obtain ⟨v1, vs1, d1, ds1, p1, q1, rfl, rfl, rfl, h1, r1⟩ := trodAll_cons r0
  obtain ⟨v2, vs2, d2, ds2, p2, q2, rfl, rfl, rfl, h2, r2⟩ := trodAll_cons r1
  obtain ⟨rfl, rfl, rfl⟩ := trodAll_nil r2
  obtain rfl : args = #[v0, v1, v2] := by cases args; simp_all
  obtain ⟨x0, rfl, w0_0, w0_1, w0_2, w0_3⟩ := Open.open_four_ints Tryz.underlying24 (by kernel_rfl) (by kernel_rfl) Tryz.underlying3 Tryz.underlying3 Tryz.underlying3 Tryz.underlying22 (hval 0 24 v0 rfl rfl) h0
  obtain ⟨A1, x1, c1, rfl, b1, m1, R1, g1⟩ := Open.open_rows (k := 1) (Ints.encZ .u64) (fun x => (Lit.int .u64 x).wf = true) Tryz.underlying25 (by kernel_rfl) (by decide) (Ints.encZ_length _) (fun n cs y h hl => Ints.one_int Tryz.underlying22 n cs y h hl) (hval 1 25 v1 rfl rfl) h1
  obtain ⟨a2, rfl, _, _, w2⟩ := open_int Tryz.underlying22 (hval 2 22 v2 rfl rfl) h2
  refine (walk x0 A1 x1 c1 a2 w0_0 w0_1 w0_2 w0_3 w2 W R1 (Nat.le_trans b1 m1) g1 (held hL)).mono fun e W' h => ?_
  exact h

theorem over : Rows.finishOutsRow.holds Tryz.pinned (OpenSpec.ofChange Rows.finishOutsSpec) :=
  OpenClaim.holds_of_wide 3 Tryz.f3 rfl rfl rfl rfl rfl rfl rfl ⟨rfl, rfl, rfl, rfl, rfl⟩ rfl rfl rfl rfl rfl (by kernel_rfl) Tryz.func3 (by kernel_rfl)
    (of_decide_eq_true (by kernel_rfl)) (by unfold Func.isWrapper; first | (rw [if_pos (by decide +kernel)]; kernel_rfl) | (rw [if_neg (by decide +kernel)]; exact ⟨rfl, rfl⟩))
    (fun os started H enc _ => lifted os started H enc)

theorem proved : Rows.FinishOutsCardSaid :=
  Claim7.holds_tied_plain_at .later [] Rows.finishOutsCard.laidKinds true Rows.finishOutsCard.stood.harness Rows.finishOutsCard.stood.looks
    over (fun _ h => by cases h) (by kernel_rfl) (fun _ h => by cases h) finishOuts_row_tie rfl ⟨rfl, rfl⟩ (by kernel_rfl) rfl
    (fun f fn hf hfn => by
      obtain rfl : f = 3 := Option.some.inj ((show Tryz.prog.funcNamed Rows.finishOutsRow.func = some 3 by kernel_rfl).symm.trans hf) |>.symm
      obtain rfl : fn = Tryz.f3 := (Option.some.inj (Tryz.func3.symm.trans hfn)).symm
      exact ⟨by kernel_rfl, fun j t ht => by
        rw [Tryz.params3] at ht
        have hm : t ∈ [24, 25, 22] := by simpa using Array.mem_of_getElem? ht
        have hall : ([24, 25, 22].all fun u => !Tryz.prog.wantsStandIn u) = true := by kernel_rfl
        exact (show Tryz.prog.wantsStandIn t = false by simpa using List.all_eq_true.1 hall t hm)⟩)
    (by kernel_rfl)
#print axioms proved
end Go.Proofs.YtiejfhipkolmhaaGreatDoor.FinishOuts
