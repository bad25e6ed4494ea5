import Derived.Test.YtchpahkjgpcdjaaGreatDoorLiftComesAllP19
import Derived.Test.YtchpahkjgpcdjaaGreatDoorLiftComesAllP27
import Derived.Test.YtchpahkjgpcdjaaGreatDoorLiftComesAllP2
import Derived.Test.YtchpahkjgpcdjaaGreatDoorLiftComesAllP28
import Derived.Test.YtchpahkjgpcdjaaGreatDoorLiftComesAllP29
import Derived.Test.YtchpahkjgpcdjaaGreatDoorLiftComesAllP30
import Derived.Test.YtchpahkjgpcdjaaGreatDoorTie
import Derived.Test.YtchpahkjgpcdjaaGreatDoorCards
/- LiftComes: for every plan, every list of words and every reference, key and height, where the document calls the chains that the words tell right, the lowest one has the reference, without a mark, its slot's words have the key, the height is from 1 to how many levels there are, and the slot is in no higher chain: with none as its higher ways on, a lifter that is done alone to a memory of these words, from what the document finds for the key on, is done soon; all chains rise then, and those of all levels below the height, and no other ones, have the reference (else just the chapter's example is asked); and that example comes out; the arguments read as they did. Condition: the library's listed tables hold what its own text lays in them (tied by the card). -/
namespace Go.Proofs.YtchpahkjgpcdjaaGreatDoor.LiftComes
set_option maxRecDepth 20000
open Go.ChangeShapes Go.WideShapes Go.ChangeAt Go.RowKit CM DM PM KM LfM MM Runs Lay Plan Ints Go.Proofs.YtchpahkjgpcdjaaGreatDoor.Task
open Go.Proofs.YtchpahkjgpcdjaaGreatDoor.Cells (Mem Does Of_any Words_any Store_any)
open Go.Proofs.YtchpahkjgpcdjaaGreatDoor.SeekRef (Good_dec Chain_any Kept_any Key_any Has_any Has_is Chained right_nat kept_few kept_refs chain_refs chain_few)
open Go.Proofs.YtchpahkjgpcdjaaGreatDoor.Law21 (awake_any wf_u64 wf_i64)
open Go.Proofs.YtchpahkjgpcdjaaGreatDoor.LiftAlone (Boxes boxes_start past_later past_all past_old Words_new ba chain alone_any)
set_option linter.unusedVariables false
set_option linter.unusedSimpArgs false

theorem held {W : World} (h : laidMetH Tryz.prog Rows.liftComesRow.laid W) : True := trivial
/-- Two keys compared. -/
theorem eqlK (x1 x2 y1 y2 : Int) (w : World) : (binOp .neq 27 (.agg #[.int .i64 x1, .int .u64 x2]) (.agg #[.int .i64 y1, .int .u64 y2])).run Tryz.prog w = .ok (.bool (!decide (x1 = y1 ∧ x2 = y2))) w := by
  have u3 := Tryz.underlying3
  have a3 := Tryz.isAgg3
  have z3 := Tryz.sizeOf3
  have u4 := Tryz.underlying22
  have a4 := Tryz.isAgg22
  have z4 := Tryz.sizeOf22
  have hS : Tryz.prog.underlying 27 = some (.struct (Tryz.prog.fieldsOf 27)) := by kernel_rfl
  have hp : Tryz.prog.stoodInHeld 27 = false := by kernel_rfl
  rw [run_neq_struct, show (10000 : Nat) = 9999 + 1 from rfl, run_equalIn_agg w 9999 27 _ _ hS hp]
  simp only [Program.fieldsOf, Tryz.underlying27]
  go_simp
  by_cases h1 : x1 = y1 <;> by_cases h2 : x2 = y2 <;> simp [h1, h2]
theorem guardK : Tryz.prog.eqGuardType Tryz.prog.depth 27 = false := by kernel_rfl
/-- In a drawn region: the one that may come up is guarded off. -/
theorem off {P : Program} {md : Region.Mode} {ops : Array Oper} {Q : Exit → Act → World → Prop} {S : World → Prop} {i : Nat} {o : Oper} {fuel : Nat} {listed : Array Bool} {a : Act} {w : World} (hr : Region.ready md ops listed = [i]) (ho : ops[i]? = some o) (hw : Region.wanted o (yielded ops a.tmps) = false) (hS : S w)
    (h : wpAnyH P md ops Q S fuel (listed.setIfInBounds i true) (a.put o.dst undef) w) : wpAnyH P md ops Q S (fuel + 1) listed a w :=
  wpAnyH_all hr (by simp) (fun j hj => by
    obtain rfl : j = i := by simpa using hj
    unfold wpOp
    simp only [ho, hw]
    exact ⟨hS, h⟩)
/-- What coming into the higher chains comes to, in plain lists. -/
theorem comes_fun {T N L : Nat} {r dl sq tall : Int} (hT : T ≤ 8) (hN : N ≤ 64) (hL : L ≤ 8) (hL1 : 1 ≤ L) {l : List Int} (hl : l.length = wordsN T N L) (hf : BM.Fits l) (hg : GoodW T L N l) (hr0 : r ∈ keptL T L N l (0 : Nat)) (hk : keyI T L l r = (dl, sq)) (t1 : 1 ≤ tall) (tL : tall ≤ (L : Int))
    (hap : ∀ g : Nat, 1 ≤ g → g < L → ∀ c ∈ (chainI T L N l g).1, idx c ≠ idx r) :
    (Base T N L (zeroL T L (idx r) l (L - 1)) r dl sq tall fun c => OM.ltK (keyI T L (zeroL T L (idx r) l (L - 1)) c) (dl, sq)) ∧ (zeroL T L (idx r) l (L - 1)).length = wordsN T N L ∧ BM.Fits (zeroL T L (idx r) l (L - 1)) ∧ (∀ g : Nat, 1 ≤ g → g < L → wayI T L (zeroL T L (idx r) l (L - 1)) r g = 0) ∧
      ∀ lf, Up T N L (zeroL T L (idx r) l (L - 1)) r tall.toNat lf → ∀ h : Nat, h < L → ∃ cl, chainI T L N lf h = (cl, true) ∧ decide (r ∈ cl) = decide ((h : Int) < tall) := by
  have hrr := (kept_refs (T := (T : Int)) (L := (L : Int)) (N := N) hf ((0 : Nat) : Int)) r hr0
  have h1 : 1 ≤ idx r := hrr.2.1
  have h2 : idx r ≤ (N : Int) := hrr.2.2
  have he : r % 2 = 0 := by
    obtain ⟨cl, -, -, k1, k2⟩ := good_chain hg (show 0 < L by omega)
    rw [k1] at hr0
    exact (k2 r (List.mem_filter.1 hr0).1).2.2
  have hlen : (zeroL T L (idx r) l (L - 1)).length = wordsN T N L := (zero_len (L - 1)).trans hl
  have hfit := zero_fits (T := T) (L := L) (r := r) hf (L - 1)
  have hway := fun {x : Int} {g : Nat} (a : idx x ≤ (N : Int)) (b : g < L) => zero_way hT hN hL hl h2 a b (L - 1) (by omega)
  have hkey := fun {x : Int} (a : 1 ≤ idx x) (b : idx x ≤ (N : Int)) => zero_key (l := l) hT hN hL h2 a b (L - 1) (by omega)
  generalize zeroL T L (idx r) l (L - 1) = l0 at hlen hfit hway hkey ⊢
  have hch : ∀ g : Nat, g < L → ∃ cl, chainI T L N l g = (cl, true) ∧ chainI T L N l0 g = (cl, true) ∧ Chain T L N l0 g cl ∧ keptL T L N l0 g = keptL T L N l g := fun g a => by
    obtain ⟨cl, e, hc, k1, k2⟩ := good_chain hg a
    obtain ⟨c1, c2⟩ := chain_off (m := l0) (l := l) (by rw [hway (by rw [idx_zero]; omega) a, if_neg fun q => by rw [idx_zero] at q; omega]) (fun c hc2 => by
      rw [hway (k2 c hc2).2.1 a, if_neg]
      rintro ⟨q1, q2, -⟩
      exact hap g q2 a c (by rw [e]; exact hc2) q1) (fun c hc2 => hkey (k2 c hc2).1 (k2 c hc2).2.1) hc
    exact ⟨cl, e, chain_is hN c1, c1, by rw [kept_of hN c1, k1]; exact c2⟩
  have hkp : ∀ g : Nat, g < L → keptL T L N l0 g = keptL T L N l g := fun g a => by obtain ⟨_, -, -, -, e⟩ := hch g a; exact e
  have hg0 : GoodW T L N l0 := good_of hN (fun g a => by obtain ⟨cl, -, -, e, -⟩ := hch g a; exact ⟨cl, e⟩) fun g a x hx => by
    rw [hkp (g + 1) a] at hx
    rw [hkp g (by omega)]
    exact good_kept hg a hx
  have hap0 : ∀ g : Nat, 1 ≤ g → g < L → ∀ c ∈ (chainI T L N l0 g).1, idx c ≠ idx r := fun g a b c hc => by
    obtain ⟨cl, e1, e2, -⟩ := hch g b
    rw [e2] at hc
    exact hap g a b c (by rw [e1]; exact hc)
  refine ⟨⟨hT, hN, hL, hg0, fun g c hc => (kept_refs hfit (g : Int) c hc).1, hrr.1, h1, h2, he, (hkey h1 h2).trans hk, by rw [hkp 0 hL1]; exact hr0, fun _ _ _ => rfl, hap0, t1, tL⟩, hlen, hfit, fun g a b => by rw [hway h2 b, if_pos ⟨rfl, a, by omega⟩], fun lf hu h hh => ?_⟩
  by_cases ht : (h : Int) < tall
  · obtain ⟨cl, e, -, k1, -⟩ := good_chain hu.good hh
    have h3 := (hu.low h (by omega) hh).1
    rw [k1] at h3
    exact ⟨cl, e, by rw [decide_eq_true ht]; exact decide_eq_true (List.mem_filter.1 h3).1⟩
  · obtain ⟨cl, c1, c2, -⟩ := hu.high h (by omega) hh
    refine ⟨cl, chain_is hN c1, ?_⟩
    rw [decide_eq_false ht]
    exact decide_eq_false fun hm => hap0 h (by omega) hh r (c2.subset hm) rfl

set_option maxHeartbeats 4000000 in
theorem walk_any (T N L G r dl sq tall : Int) (A : Option Addr) (l : List Int) (c : Nat) (w : World) (hR : Row w w.heap.size A (flat (encZ .u64) l)) (hl : l.length ≤ maxLen) (hf : BM.Fits l) (hr : Word r) :
    Calls Tryz.prog 3 #[.agg #[.int .i64 T, .int .i64 N, .int .i64 L, .int .u64 G], .slice A l.length c, .agg #[.int .u64 r, .int .i64 dl, .int .u64 sq, .int .i64 tall]] w fun e w' => e = .returned (.bool true) ∧ Below w.heap.size w w' := by
  obtain ⟨n, hn⟩ : ∃ n, n = l.length := ⟨_, rfl⟩
  rw [← hn] at hl ⊢
  have HN := Lib.hid hn
  have HF := Lib.hid hf
  have HROW := Lib.hid (show ∀ W, Below (w.heap.size + 2) ((w.alloc (.cells #[.int .i64 T, .int .i64 N, .int .i64 L, .int .u64 G] 24)).alloc (.cells #[.int .u64 r, .int .i64 dl, .int .u64 sq, .int .i64 tall] 29)) W → Row W W.heap.size A (flat (encZ .u64) l) from fun W hb => hR.later (past_old hb))
  have HBX := Lib.hid (show ∀ W, Below (w.heap.size + 2) ((w.alloc (.cells #[.int .i64 T, .int .i64 N, .int .i64 L, .int .u64 G] 24)).alloc (.cells #[.int .u64 r, .int .i64 dl, .int .u64 sq, .int .i64 tall] 29)) W → Boxes W w.heap.size T N L G r dl sq tall from fun W hb => (boxes_start w T N L G r dl sq tall).later (past_all hb))
  have HRW := Lib.hid hr
  obtain ⟨i, hi⟩ : ∃ i, i = idx r := ⟨_, rfl⟩
  have HI := Lib.hid (show ∀ W : World, Calls Tryz.prog 4 #[.int .u64 r] W fun e w' => e = .returned (.int .i64 i) ∧ W = w' from fun W => by rw [hi]; exact Refer.Index_any r hr.1 hr.2 W)
  have HIR := Lib.hid hi
  obtain ⟨b, hb, hgd⟩ := Good_dec hn hl hf T N L G
  have HGD := Lib.hid (show ∀ W, Below (w.heap.size + 2) ((w.alloc (.cells #[.int .i64 T, .int .i64 N, .int .i64 L, .int .u64 G] 24)).alloc (.cells #[.int .u64 r, .int .i64 dl, .int .u64 sq, .int .i64 tall] 29)) W → Calls Tryz.prog 5 #[.slice A n c, .agg #[.int .i64 T, .int .i64 N, .int .i64 L, .int .u64 G]] W fun e w' => e = .returned (.bool b) ∧ Below W.heap.size W w' from fun W h => hgd A c W (HROW.out W h))
  have HAW := Lib.hid (show ∀ W, Below (w.heap.size + 2) ((w.alloc (.cells #[.int .i64 T, .int .i64 N, .int .i64 L, .int .u64 G] 24)).alloc (.cells #[.int .u64 r, .int .i64 dl, .int .u64 sq, .int .i64 tall] 29)) W → Calls Tryz.prog 9 #[] W fun e w' => e = .returned (.bool true) ∧ Below w.heap.size w w' from fun W h => (awake_any W).mono fun e w' ⟨h1, h2⟩ => ⟨h1, chain (past_old h) h2⟩)
  unfold maxLen at hl
  have HB1 := Lib.hid (show Below (w.heap.size + 2) ((w.alloc (.cells #[.int .i64 T, .int .i64 N, .int .i64 L, .int .u64 G] 24)).alloc (.cells #[.int .u64 r, .int .i64 dl, .int .u64 sq, .int .i64 tall] 29)) ((w.alloc (.cells #[.int .i64 T, .int .i64 N, .int .i64 L, .int .u64 G] 24)).alloc (.cells #[.int .u64 r, .int .i64 dl, .int .u64 sq, .int .i64 tall] 29)) from Below.refl _ _)
  obtain ⟨⟨c_0, c_1, c_2, c_3⟩, k_0, k_1, k_2, k_3⟩ := HBX.out _ HB1.out
  cases b with
  | false =>
    have C_0 := fun p : After ((w.alloc (.cells #[.int .i64 T, .int .i64 N, .int .i64 L, .int .u64 G] 24)).alloc (.cells #[.int .u64 r, .int .i64 dl, .int .u64 sq, .int .i64 tall] 29)) => p.cell c_0
    have C_1 := fun p : After ((w.alloc (.cells #[.int .i64 T, .int .i64 N, .int .i64 L, .int .u64 G] 24)).alloc (.cells #[.int .u64 r, .int .i64 dl, .int .u64 sq, .int .i64 tall] 29)) => p.cell c_1
    have C_2 := fun p : After ((w.alloc (.cells #[.int .i64 T, .int .i64 N, .int .i64 L, .int .u64 G] 24)).alloc (.cells #[.int .u64 r, .int .i64 dl, .int .u64 sq, .int .i64 tall] 29)) => p.cell c_2
    have C_3 := fun p : After ((w.alloc (.cells #[.int .i64 T, .int .i64 N, .int .i64 L, .int .u64 G] 24)).alloc (.cells #[.int .u64 r, .int .i64 dl, .int .u64 sq, .int .i64 tall] 29)) => p.cell c_3
    have HPQ := Lib.hid (show ∀ p : After ((w.alloc (.cells #[.int .i64 T, .int .i64 N, .int .i64 L, .int .u64 G] 24)).alloc (.cells #[.int .u64 r, .int .i64 dl, .int .u64 sq, .int .i64 tall] 29)), Below (w.heap.size + 2) ((w.alloc (.cells #[.int .i64 T, .int .i64 N, .int .i64 L, .int .u64 G] 24)).alloc (.cells #[.int .u64 r, .int .i64 dl, .int .u64 sq, .int .i64 tall] 29)) p.x from fun p => past_later HB1.out p.ok)
    clear hn hf hR hr hi hb hgd c_0 c_1 c_2 c_3
    go_enter Tryz.func3, Tryz.ntmps3
    go_wp2_with fail
    refine (HI.out _).mono ?_
    rintro e w' ⟨rfl, rfl⟩
    go_wp2
    refine wp_region_after mixed (by kernel_rfl) ?_
    repeat (first | go_big_quiet_step ((with_reducible exact calls_after (HGD.out _ (HPQ.out _)))) | quiet_step ((with_reducible exact calls_after (HGD.out _ (HPQ.out _)))))
    refine wpQuiet_nil ?_
    intro _ hw'
    obtain ⟨pq, hw''⟩ := hw'
    subst hw''
    have HQ := Lib.hid (HPQ.out pq)
    generalize pq.x = wq at HQ ⊢
    clear C_0 C_1 C_2 C_3
    go_wp2_with fail
    refine (HAW.out _ HQ.out).mono ?_
    rintro e w2 ⟨rfl, b2⟩
    go_wp2
    go_ret
    exact ⟨rfl, b2⟩
  | true =>
    obtain ⟨T, N, L, rfl, rfl, rfl, hright, hlen, hg⟩ := hb rfl
    obtain ⟨t1, t8, s1, s64, l1, l8⟩ := right_nat hright
    have hn4 : n ≤ 4096 := by rw [HN.out, hlen]; exact words_small (by omega) (by omega) (by omega)
    have HKP := Lib.hid (show ∀ W, Below (w.heap.size + 2) ((w.alloc (.cells #[.int .i64 T, .int .i64 N, .int .i64 L, .int .u64 G] 24)).alloc (.cells #[.int .u64 r, .int .i64 dl, .int .u64 sq, .int .i64 tall] 29)) W → Calls Tryz.prog 7 #[.slice A n c, .agg #[.int .i64 T, .int .i64 N, .int .i64 L, .int .u64 G], .int .i64 0] W (SeekRef.Listed W (keptL T L N l ((0 : Nat) : Int))) from fun W hb => Kept_any c HN.out (by omega) (HROW.out W hb) HF.out s64 0)
    have HKF := Lib.hid (show (keptL T L N l ((0 : Nat) : Int)).length ≤ 64 from Nat.le_trans (kept_few HF.out _) s64)
    have HKY := Lib.hid (show ∀ W, Below (w.heap.size + 2) ((w.alloc (.cells #[.int .i64 T, .int .i64 N, .int .i64 L, .int .u64 G] 24)).alloc (.cells #[.int .u64 r, .int .i64 dl, .int .u64 sq, .int .i64 tall] 29)) W → Calls Tryz.prog 8 #[.slice A n c, .agg #[.int .i64 T, .int .i64 N, .int .i64 L, .int .u64 G], .int .u64 r] W fun e w' => e = .returned (.agg #[.int .i64 (keyI T L l r).1, .int .u64 (keyI T L l r).2]) ∧ Below W.heap.size W w' from fun W hb => Key_any c HN.out (by omega) (HROW.out W hb) T N L G HRW.out)
    have HEND := Lib.hid (show r ∈ keptL T L N l ((0 : Nat) : Int) → (keyI T L l r).1 = dl ∧ (keyI T L l r).2 = sq → ¬ tall < 1 → ¬ (L : Int) < tall → (∀ g : Nat, 1 ≤ g → g < L → ∀ c ∈ (chainI T L N l g).1, idx c ≠ i) →
      (Base T N L (zeroL T L i l (L - 1)) r dl sq tall fun c => OM.ltK (keyI T L (zeroL T L i l (L - 1)) c) (dl, sq)) ∧ (zeroL T L i l (L - 1)).length = wordsN T N L ∧ BM.Fits (zeroL T L i l (L - 1)) ∧ (∀ g : Nat, 1 ≤ g → g < L → wayI T L (zeroL T L i l (L - 1)) r g = 0) ∧
      ∀ lf, Up T N L (zeroL T L i l (L - 1)) r tall.toNat lf → ∀ h : Nat, h < L → ∃ cl, chainI T L N lf h = (cl, true) ∧ decide (r ∈ cl) = decide ((h : Int) < tall) from fun a b d e k => by
        rw [HIR.out] at k ⊢
        exact comes_fun (by omega) s64 (by omega) (by omega) hlen HF.out hg a (Prod.ext b.1 b.2) (by omega) (by omega) k)
    have HCH := Lib.hid (show ∀ (h : Nat) W, Below (w.heap.size + 2) ((w.alloc (.cells #[.int .i64 T, .int .i64 N, .int .i64 L, .int .u64 G] 24)).alloc (.cells #[.int .u64 r, .int .i64 dl, .int .u64 sq, .int .i64 tall] 29)) W → Calls Tryz.prog 11 #[.slice A n c, .agg #[.int .i64 T, .int .i64 N, .int .i64 L, .int .u64 G], .int .i64 h] W (Chained W (chainI T L N l h)) from fun h W hb => Chain_any c HN.out (by omega) (HROW.out W hb) HF.out s64 h)
    have HRF := Lib.hid (show ∀ h : Nat, (∀ y ∈ (chainI T L N l h).1, Word y) ∧ (chainI T L N l h).1.length ≤ 64 from fun h => ⟨fun y hy => ((chain_refs HF.out (h : Int)).1 y hy).1, Nat.le_trans (chain_few HF.out (h : Int)) s64⟩)
    generalize chainI (T : Int) (L : Int) (N : Int) l = ch at HCH HRF HEND
    generalize keptL (T : Int) (L : Int) (N : Int) l ((0 : Nat) : Int) = KL at HKP HKF HEND
    generalize (keyI (T : Int) (L : Int) l r).1 = k1 at HKY HEND
    generalize (keyI (T : Int) (L : Int) l r).2 = k2 at HKY HEND
    have HLEN := Lib.hid hlen
    have hgk := guardK
    clear hn hf hR hr hi hb hgd hg hlen
    go_enter Tryz.func3, Tryz.ntmps3
    go_wp2_with fail
    refine (HI.out _).mono ?_
    rintro e w' ⟨rfl, rfl⟩
    go_upto_region 2 with fail
    go_cut [55] (fun s55 wx => (s55 = .bool true ∨ (s55 = .bool false ∧ r ∈ KL ∧ (k1 = dl ∧ k2 = sq) ∧ ¬ tall < 1 ∧ ¬ (L : Int) < tall)) ∧ Below (w.heap.size + 2) ((w.alloc (.cells #[.int .i64 T, .int .i64 N, .int .i64 L, .int .u64 G] 24)).alloc (.cells #[.int .u64 r, .int .i64 dl, .int .u64 sq, .int .i64 tall] 29)) wx)
    case first =>
      have HD1 := Lib.hid (show Below (w.heap.size + 2) ((w.alloc (.cells #[.int .i64 T, .int .i64 N, .int .i64 L, .int .u64 G] 24)).alloc (.cells #[.int .u64 r, .int .i64 dl, .int .u64 sq, .int .i64 tall] 29)) ((w.alloc (.cells #[.int .i64 T, .int .i64 N, .int .i64 L, .int .u64 G] 24)).alloc (.cells #[.int .u64 r, .int .i64 dl, .int .u64 sq, .int .i64 tall] 29)).drew from HB1.out.drew)
      clear c_0 c_1 c_2 c_3 k_0 k_1 k_2 k_3
      refine wp_region_held_drew (S := fun W => Below (w.heap.size + 2) ((w.alloc (.cells #[.int .i64 T, .int .i64 N, .int .i64 L, .int .u64 G] 24)).alloc (.cells #[.int .u64 r, .int .i64 dl, .int .u64 sq, .int .i64 tall] 29)) W) (by kernel_rfl) HD1.out (fun _ => ?_)
      refine wpAnyH_take (i := 0) (v := ?_) (by simp only [List.getElem?_toArray, List.getElem?_cons_succ, List.getElem?_cons_zero]; rfl) (by kernel_rfl) (by kernel_rfl) (by kernel_rfl) (fun _ _ _ h => by exact h) (Or.inl ⟨by rfl, ?_⟩) HD1.out ?_
      rotate_left
      · intro W' hW'
        obtain ⟨⟨d_0, d_1, d_2, d_3⟩, e_0, e_1, e_2, e_3⟩ := HBX.out W' hW'
        go_simp
        all_goals (try with_reducible rfl)
      try simp only [Act.put, List.setIfInBounds_toArray, List.set_cons_zero, List.set_cons_succ]
      refine wpAnyH_take (i := 1) (v := ?_) (by simp only [List.getElem?_toArray, List.getElem?_cons_succ, List.getElem?_cons_zero]; rfl) (by kernel_rfl) (by kernel_rfl) (by kernel_rfl) (fun _ _ _ h => by exact h) (Or.inl ⟨by rfl, ?_⟩) HD1.out ?_
      rotate_left
      · intro W' hW'
        obtain ⟨⟨d_0, d_1, d_2, d_3⟩, e_0, e_1, e_2, e_3⟩ := HBX.out W' hW'
        go_simp
        all_goals (try with_reducible rfl)
      try simp only [Act.put, List.setIfInBounds_toArray, List.set_cons_zero, List.set_cons_succ]
      refine HeldIn.wpAnyH_one (i := 2) (by kernel_rfl) (by simp only [List.getElem?_toArray, List.getElem?_cons_succ, List.getElem?_cons_zero]; rfl) (by rfl) ?_
      intro K' hK'
      go_simp
      refine (HGD.out _ HD1.out).mono ?_
      rintro e w2 ⟨rfl, b2⟩
      have HB2 := Lib.hid (past_later HD1.out b2)
      clear b2
      refine hK'.out _ _ HB2.out ?_
      clear hK'
      try simp only [Act.put, List.setIfInBounds_toArray, List.set_cons_zero, List.set_cons_succ]
      refine wpAnyH_take (i := 3) (v := ?_) (by simp only [List.getElem?_toArray, List.getElem?_cons_succ, List.getElem?_cons_zero]; rfl) (by kernel_rfl) (by kernel_rfl) (by kernel_rfl) (fun _ _ _ h => by exact h) (Or.inl ⟨by rfl, ?_⟩) HB2.out ?_
      rotate_left
      · intro W' hW'
        obtain ⟨⟨d_0, d_1, d_2, d_3⟩, e_0, e_1, e_2, e_3⟩ := HBX.out W' hW'
        go_simp
        all_goals (try with_reducible rfl)
      try simp only [Act.put, List.setIfInBounds_toArray, List.set_cons_zero, List.set_cons_succ]
      refine wpAnyH_take (i := 4) (v := ?_) (by simp only [List.getElem?_toArray, List.getElem?_cons_succ, List.getElem?_cons_zero]; rfl) (by kernel_rfl) (by kernel_rfl) (by kernel_rfl) (fun _ _ _ h => by exact h) (Or.inl ⟨by rfl, ?_⟩) HB2.out ?_
      rotate_left
      · intro W' hW'
        obtain ⟨⟨d_0, d_1, d_2, d_3⟩, e_0, e_1, e_2, e_3⟩ := HBX.out W' hW'
        go_simp
        all_goals (try with_reducible rfl)
      try simp only [Act.put, List.setIfInBounds_toArray, List.set_cons_zero, List.set_cons_succ]
      refine wpAnyH_take (i := 5) (v := ?_) (by simp only [List.getElem?_toArray, List.getElem?_cons_succ, List.getElem?_cons_zero]; rfl) (by kernel_rfl) (by kernel_rfl) (by kernel_rfl) (fun _ _ _ h => by exact h) (Or.inl ⟨by rfl, ?_⟩) HB2.out ?_
      rotate_left
      · intro W' hW'
        obtain ⟨⟨d_0, d_1, d_2, d_3⟩, e_0, e_1, e_2, e_3⟩ := HBX.out W' hW'
        go_simp
        all_goals (try with_reducible rfl)
      try simp only [Act.put, List.setIfInBounds_toArray, List.set_cons_zero, List.set_cons_succ]
      refine wpAnyH_take (i := 6) (v := ?_) (by simp only [List.getElem?_toArray, List.getElem?_cons_succ, List.getElem?_cons_zero]; rfl) (by kernel_rfl) (by kernel_rfl) (by kernel_rfl) (fun _ _ _ h => by exact h) (Or.inl ⟨by rfl, ?_⟩) HB2.out ?_
      rotate_left
      · intro W' hW'
        obtain ⟨⟨d_0, d_1, d_2, d_3⟩, e_0, e_1, e_2, e_3⟩ := HBX.out W' hW'
        go_simp
        all_goals (try with_reducible rfl)
      try simp only [Act.put, List.setIfInBounds_toArray, List.set_cons_zero, List.set_cons_succ]
      refine wpAnyH_take (i := 8) (v := ?_) (by simp only [List.getElem?_toArray, List.getElem?_cons_succ, List.getElem?_cons_zero]; rfl) (by kernel_rfl) (by kernel_rfl) (by kernel_rfl) (fun _ _ _ h => by exact h) (Or.inl ⟨by rfl, ?_⟩) HB2.out ?_
      rotate_left
      · intro W' hW'
        obtain ⟨⟨d_0, d_1, d_2, d_3⟩, e_0, e_1, e_2, e_3⟩ := HBX.out W' hW'
        go_simp
        all_goals (try with_reducible rfl)
      try simp only [Act.put, List.setIfInBounds_toArray, List.set_cons_zero, List.set_cons_succ]
      refine wpAnyH_take (i := 9) (v := ?_) (by simp only [List.getElem?_toArray, List.getElem?_cons_succ, List.getElem?_cons_zero]; rfl) (by kernel_rfl) (by kernel_rfl) (by kernel_rfl) (fun _ _ _ h => by exact h) (Or.inl ⟨by rfl, ?_⟩) HB2.out ?_
      rotate_left
      · intro W' hW'
        obtain ⟨⟨d_0, d_1, d_2, d_3⟩, e_0, e_1, e_2, e_3⟩ := HBX.out W' hW'
        go_simp
        all_goals (try with_reducible rfl)
      try simp only [Act.put, List.setIfInBounds_toArray, List.set_cons_zero, List.set_cons_succ]
      refine HeldIn.wpAnyH_one (i := 7) (by kernel_rfl) (by simp only [List.getElem?_toArray, List.getElem?_cons_succ, List.getElem?_cons_zero]; rfl) (by rfl) ?_
      intro K' hK'
      go_simp
      refine (HKP.out _ HB2.out).mono ?_
      rintro e w3 ⟨A2, n2, c2, rfl, h2, r2, -, b3⟩
      have HB3 := Lib.hid (past_later HB2.out b3)
      have HR3 := Lib.hid (And.intro h2 r2)
      clear h2 r2 b3
      refine hK'.out _ _ HB3.out ?_
      clear hK'
      try simp only [Act.put, List.setIfInBounds_toArray, List.set_cons_zero, List.set_cons_succ]
      by_cases hr0 : r ∈ KL
      · have HR0 := Lib.hid hr0
        have HHA := Lib.hid (Has_is (c := c2) (decide_eq_true hr0) HR3.out.1 (by have := HKF.out; have := HR3.out.1; omega) HR3.out.2)
        clear hr0
        refine HeldIn.wpAnyH_one (i := 10) (by kernel_rfl) (by simp only [List.getElem?_toArray, List.getElem?_cons_succ, List.getElem?_cons_zero]; rfl) (by rfl) ?_
        intro K' hK'
        go_simp
        refine (HHA.out).mono ?_
        rintro e w' ⟨rfl, rfl⟩
        refine hK'.out _ _ HB3.out ?_
        clear hK'
        try simp only [Act.put, List.setIfInBounds_toArray, List.set_cons_zero, List.set_cons_succ]
        refine wpAnyH_take (i := 11) (v := ?_) (by simp only [List.getElem?_toArray, List.getElem?_cons_succ, List.getElem?_cons_zero]; rfl) (by kernel_rfl) (by kernel_rfl) (by kernel_rfl) (fun _ _ _ h => by exact h) (Or.inl ⟨by rfl, ?_⟩) HB3.out ?_
        rotate_left
        · intro W' hW'
          obtain ⟨⟨d_0, d_1, d_2, d_3⟩, e_0, e_1, e_2, e_3⟩ := HBX.out W' hW'
          go_simp
          all_goals (try with_reducible rfl)
        try simp only [Act.put, List.setIfInBounds_toArray, List.set_cons_zero, List.set_cons_succ]
        refine wpAnyH_take (i := 12) (v := ?_) (by simp only [List.getElem?_toArray, List.getElem?_cons_succ, List.getElem?_cons_zero]; rfl) (by kernel_rfl) (by kernel_rfl) (by kernel_rfl) (fun _ _ _ h => by exact h) (Or.inl ⟨by rfl, ?_⟩) HB3.out ?_
        rotate_left
        · intro W' hW'
          obtain ⟨⟨d_0, d_1, d_2, d_3⟩, e_0, e_1, e_2, e_3⟩ := HBX.out W' hW'
          go_simp
          all_goals (try with_reducible rfl)
        try simp only [Act.put, List.setIfInBounds_toArray, List.set_cons_zero, List.set_cons_succ]
        refine wpAnyH_take (i := 13) (v := ?_) (by simp only [List.getElem?_toArray, List.getElem?_cons_succ, List.getElem?_cons_zero]; rfl) (by kernel_rfl) (by kernel_rfl) (by kernel_rfl) (fun _ _ _ h => by exact h) (Or.inl ⟨by rfl, ?_⟩) HB3.out ?_
        rotate_left
        · intro W' hW'
          obtain ⟨⟨d_0, d_1, d_2, d_3⟩, e_0, e_1, e_2, e_3⟩ := HBX.out W' hW'
          go_simp
          all_goals (try with_reducible rfl)
        try simp only [Act.put, List.setIfInBounds_toArray, List.set_cons_zero, List.set_cons_succ]
        refine wpAnyH_take (i := 14) (v := ?_) (by simp only [List.getElem?_toArray, List.getElem?_cons_succ, List.getElem?_cons_zero]; rfl) (by kernel_rfl) (by kernel_rfl) (by kernel_rfl) (fun _ _ _ h => by exact h) (Or.inl ⟨by rfl, ?_⟩) HB3.out ?_
        rotate_left
        · intro W' hW'
          obtain ⟨⟨d_0, d_1, d_2, d_3⟩, e_0, e_1, e_2, e_3⟩ := HBX.out W' hW'
          go_simp
          all_goals (try with_reducible rfl)
        try simp only [Act.put, List.setIfInBounds_toArray, List.set_cons_zero, List.set_cons_succ]
        refine wpAnyH_take (i := 15) (v := ?_) (by simp only [List.getElem?_toArray, List.getElem?_cons_succ, List.getElem?_cons_zero]; rfl) (by kernel_rfl) (by kernel_rfl) (by kernel_rfl) (fun _ _ _ h => by exact h) (Or.inl ⟨by rfl, ?_⟩) HB3.out ?_
        rotate_left
        · intro W' hW'
          obtain ⟨⟨d_0, d_1, d_2, d_3⟩, e_0, e_1, e_2, e_3⟩ := HBX.out W' hW'
          go_simp
          all_goals (try with_reducible rfl)
        try simp only [Act.put, List.setIfInBounds_toArray, List.set_cons_zero, List.set_cons_succ]
        refine wpAnyH_take (i := 16) (v := ?_) (by simp only [List.getElem?_toArray, List.getElem?_cons_succ, List.getElem?_cons_zero]; rfl) (by kernel_rfl) (by kernel_rfl) (by kernel_rfl) (fun _ _ _ h => by exact h) (Or.inl ⟨by rfl, ?_⟩) HB3.out ?_
        rotate_left
        · intro W' hW'
          obtain ⟨⟨d_0, d_1, d_2, d_3⟩, e_0, e_1, e_2, e_3⟩ := HBX.out W' hW'
          go_simp
          all_goals (try with_reducible rfl)
        try simp only [Act.put, List.setIfInBounds_toArray, List.set_cons_zero, List.set_cons_succ]
        refine wpAnyH_take (i := 17) (v := ?_) (by simp only [List.getElem?_toArray, List.getElem?_cons_succ, List.getElem?_cons_zero]; rfl) (by kernel_rfl) (by kernel_rfl) (by kernel_rfl) (fun _ _ _ h => by exact h) (Or.inl ⟨by rfl, ?_⟩) HB3.out ?_
        rotate_left
        · intro W' hW'
          obtain ⟨⟨d_0, d_1, d_2, d_3⟩, e_0, e_1, e_2, e_3⟩ := HBX.out W' hW'
          go_simp
          all_goals (try with_reducible rfl)
        try simp only [Act.put, List.setIfInBounds_toArray, List.set_cons_zero, List.set_cons_succ]
        refine wpAnyH_take (i := 19) (v := ?_) (by simp only [List.getElem?_toArray, List.getElem?_cons_succ, List.getElem?_cons_zero]; rfl) (by kernel_rfl) (by kernel_rfl) (by kernel_rfl) (fun _ _ _ h => by exact h) (Or.inl ⟨by rfl, ?_⟩) HB3.out ?_
        rotate_left
        · intro W' hW'
          obtain ⟨⟨d_0, d_1, d_2, d_3⟩, e_0, e_1, e_2, e_3⟩ := HBX.out W' hW'
          go_simp
          all_goals (try with_reducible rfl)
        try simp only [Act.put, List.setIfInBounds_toArray, List.set_cons_zero, List.set_cons_succ]
        refine wpAnyH_take (i := 20) (v := ?_) (by simp only [List.getElem?_toArray, List.getElem?_cons_succ, List.getElem?_cons_zero]; rfl) (by kernel_rfl) (by kernel_rfl) (by kernel_rfl) (fun _ _ _ h => by exact h) (Or.inl ⟨by rfl, ?_⟩) HB3.out ?_
        rotate_left
        · intro W' hW'
          obtain ⟨⟨d_0, d_1, d_2, d_3⟩, e_0, e_1, e_2, e_3⟩ := HBX.out W' hW'
          go_simp
          all_goals (try with_reducible rfl)
        try simp only [Act.put, List.setIfInBounds_toArray, List.set_cons_zero, List.set_cons_succ]
        refine HeldIn.wpAnyH_one (i := 18) (by kernel_rfl) (by simp only [List.getElem?_toArray, List.getElem?_cons_succ, List.getElem?_cons_zero]; rfl) (by rfl) ?_
        intro K' hK'
        go_simp
        refine (HKY.out _ HB3.out).mono ?_
        rintro e w4 ⟨rfl, b4⟩
        have HB4 := Lib.hid (past_later HB3.out b4)
        clear b4
        refine hK'.out _ _ HB4.out ?_
        clear hK'
        try simp only [Act.put, List.setIfInBounds_toArray, List.set_cons_zero, List.set_cons_succ]
        by_cases hkk : k1 = dl ∧ k2 = sq
        · have HKK := Lib.hid hkk
          have N1 := fun W => eqlK k1 k2 dl sq W
          simp only [decide_eq_true hkk, Bool.not_true] at N1
          clear hkk
          refine wpAnyH_take (i := 21) (v := ?_) (by simp only [List.getElem?_toArray, List.getElem?_cons_succ, List.getElem?_cons_zero]; rfl) (by kernel_rfl) (by kernel_rfl) (by kernel_rfl) (fun _ _ _ h => by exact h) (Or.inl ⟨by rfl, ?_⟩) HB4.out ?_
          rotate_left
          · intro W' hW'
            obtain ⟨⟨d_0, d_1, d_2, d_3⟩, e_0, e_1, e_2, e_3⟩ := HBX.out W' hW'
            go_simp
            all_goals (try with_reducible rfl)
          try simp only [Act.put, List.setIfInBounds_toArray, List.set_cons_zero, List.set_cons_succ]
          refine wpAnyH_take (i := 22) (v := ?_) (by simp only [List.getElem?_toArray, List.getElem?_cons_succ, List.getElem?_cons_zero]; rfl) (by kernel_rfl) (by kernel_rfl) (by kernel_rfl) (fun _ _ _ h => by exact h) (Or.inl ⟨by rfl, ?_⟩) HB4.out ?_
          rotate_left
          · intro W' hW'
            obtain ⟨⟨d_0, d_1, d_2, d_3⟩, e_0, e_1, e_2, e_3⟩ := HBX.out W' hW'
            go_simp
            all_goals (try with_reducible rfl)
          try simp only [Act.put, List.setIfInBounds_toArray, List.set_cons_zero, List.set_cons_succ]
          refine wpAnyH_take (i := 23) (v := ?_) (by simp only [List.getElem?_toArray, List.getElem?_cons_succ, List.getElem?_cons_zero]; rfl) (by kernel_rfl) (by kernel_rfl) (by kernel_rfl) (fun _ _ _ h => by exact h) (Or.inl ⟨by rfl, ?_⟩) HB4.out ?_
          rotate_left
          · intro W' hW'
            obtain ⟨⟨d_0, d_1, d_2, d_3⟩, e_0, e_1, e_2, e_3⟩ := HBX.out W' hW'
            go_simp
            all_goals (try with_reducible rfl)
          try simp only [Act.put, List.setIfInBounds_toArray, List.set_cons_zero, List.set_cons_succ]
          refine wpAnyH_take (i := 24) (v := ?_) (by simp only [List.getElem?_toArray, List.getElem?_cons_succ, List.getElem?_cons_zero]; rfl) (by kernel_rfl) (by kernel_rfl) (by kernel_rfl) (fun _ _ _ h => by exact h) (Or.inl ⟨by rfl, ?_⟩) HB4.out ?_
          rotate_left
          · intro W' hW'
            obtain ⟨⟨d_0, d_1, d_2, d_3⟩, e_0, e_1, e_2, e_3⟩ := HBX.out W' hW'
            go_simp
            all_goals (try with_reducible rfl)
          try simp only [Act.put, List.setIfInBounds_toArray, List.set_cons_zero, List.set_cons_succ]
          refine wpAnyH_take (i := 25) (v := ?_) (by simp only [List.getElem?_toArray, List.getElem?_cons_succ, List.getElem?_cons_zero]; rfl) (by kernel_rfl) (by kernel_rfl) (by kernel_rfl) (fun _ _ _ h => by exact h) (Or.inl ⟨by rfl, ?_⟩) HB4.out ?_
          rotate_left
          · intro W' hW'
            obtain ⟨⟨d_0, d_1, d_2, d_3⟩, e_0, e_1, e_2, e_3⟩ := HBX.out W' hW'
            go_simp
            all_goals (try with_reducible rfl)
          try simp only [Act.put, List.setIfInBounds_toArray, List.set_cons_zero, List.set_cons_succ]
          by_cases ht1 : tall < 1
          · have d3 : decide (tall < 1) = true := decide_eq_true ht1
            clear ht1
            refine wpAnyH_take (i := 26) (v := ?_) (by simp only [List.getElem?_toArray, List.getElem?_cons_succ, List.getElem?_cons_zero]; rfl) (by kernel_rfl) (by kernel_rfl) (by kernel_rfl) (fun _ _ _ h => by exact h) (Or.inl ⟨by rfl, ?_⟩) HB4.out ?_
            rotate_left
            · intro W' hW'
              obtain ⟨⟨d_0, d_1, d_2, d_3⟩, e_0, e_1, e_2, e_3⟩ := HBX.out W' hW'
              go_simp
              all_goals (try with_reducible rfl)
            try simp only [Act.put, List.setIfInBounds_toArray, List.set_cons_zero, List.set_cons_succ]
            refine wpAnyH_take (i := 27) (v := ?_) (by simp only [List.getElem?_toArray, List.getElem?_cons_succ, List.getElem?_cons_zero]; rfl) (by kernel_rfl) (by kernel_rfl) (by kernel_rfl) (fun _ _ _ h => by exact h) (Or.inl ⟨by rfl, ?_⟩) HB4.out ?_
            rotate_left
            · intro W' hW'
              obtain ⟨⟨d_0, d_1, d_2, d_3⟩, e_0, e_1, e_2, e_3⟩ := HBX.out W' hW'
              go_simp
              all_goals (try with_reducible rfl)
            try simp only [Act.put, List.setIfInBounds_toArray, List.set_cons_zero, List.set_cons_succ]
            refine wpAnyH_take (i := 28) (v := ?_) (by simp only [List.getElem?_toArray, List.getElem?_cons_succ, List.getElem?_cons_zero]; rfl) (by kernel_rfl) (by kernel_rfl) (by kernel_rfl) (fun _ _ _ h => by exact h) (Or.inl ⟨by rfl, ?_⟩) HB4.out ?_
            rotate_left
            · intro W' hW'
              obtain ⟨⟨d_0, d_1, d_2, d_3⟩, e_0, e_1, e_2, e_3⟩ := HBX.out W' hW'
              go_simp
              all_goals (try with_reducible rfl)
            try simp only [Act.put, List.setIfInBounds_toArray, List.set_cons_zero, List.set_cons_succ]
            refine wpAnyH_take (i := 29) (v := undef) (by simp only [List.getElem?_toArray, List.getElem?_cons_succ, List.getElem?_cons_zero]; rfl) (by kernel_rfl) (by kernel_rfl) (by kernel_rfl) (fun _ _ _ h => by exact h) (Or.inr ⟨by rfl, rfl⟩) HB4.out ?_
            try simp only [Act.put, List.setIfInBounds_toArray, List.set_cons_zero, List.set_cons_succ]
            refine wpAnyH_take (i := 30) (v := undef) (by simp only [List.getElem?_toArray, List.getElem?_cons_succ, List.getElem?_cons_zero]; rfl) (by kernel_rfl) (by kernel_rfl) (by kernel_rfl) (fun _ _ _ h => by exact h) (Or.inr ⟨by rfl, rfl⟩) HB4.out ?_
            try simp only [Act.put, List.setIfInBounds_toArray, List.set_cons_zero, List.set_cons_succ]
            refine wpAnyH_take (i := 31) (v := undef) (by simp only [List.getElem?_toArray, List.getElem?_cons_succ, List.getElem?_cons_zero]; rfl) (by kernel_rfl) (by kernel_rfl) (by kernel_rfl) (fun _ _ _ h => by exact h) (Or.inr ⟨by rfl, rfl⟩) HB4.out ?_
            try simp only [Act.put, List.setIfInBounds_toArray, List.set_cons_zero, List.set_cons_succ]
            refine wpAnyH_take (i := 32) (v := undef) (by simp only [List.getElem?_toArray, List.getElem?_cons_succ, List.getElem?_cons_zero]; rfl) (by kernel_rfl) (by kernel_rfl) (by kernel_rfl) (fun _ _ _ h => by exact h) (Or.inr ⟨by rfl, rfl⟩) HB4.out ?_
            try simp only [Act.put, List.setIfInBounds_toArray, List.set_cons_zero, List.set_cons_succ]
            refine wpAnyH_take (i := 33) (v := undef) (by simp only [List.getElem?_toArray, List.getElem?_cons_succ, List.getElem?_cons_zero]; rfl) (by kernel_rfl) (by kernel_rfl) (by kernel_rfl) (fun _ _ _ h => by exact h) (Or.inr ⟨by rfl, rfl⟩) HB4.out ?_
            try simp only [Act.put, List.setIfInBounds_toArray, List.set_cons_zero, List.set_cons_succ]
            refine wpAnyH_take (i := 34) (v := ?_) (by simp only [List.getElem?_toArray, List.getElem?_cons_succ, List.getElem?_cons_zero]; rfl) (by kernel_rfl) (by kernel_rfl) (by kernel_rfl) (fun _ _ _ h => by exact h) (Or.inl ⟨by rfl, ?_⟩) HB4.out ?_
            rotate_left
            · intro W' hW'
              obtain ⟨⟨d_0, d_1, d_2, d_3⟩, e_0, e_1, e_2, e_3⟩ := HBX.out W' hW'
              go_simp
              all_goals (try with_reducible rfl)
            try simp only [Act.put, List.setIfInBounds_toArray, List.set_cons_zero, List.set_cons_succ]
            refine wpAnyH_done (by kernel_rfl) ?_ _
            go_wp2_with fail
            go_meet
            case rel => exact ⟨.inl rfl, HB4.out⟩
          · have d3 : decide (tall < 1) = false := decide_eq_false ht1
            have HT1 := Lib.hid ht1
            clear ht1
            refine wpAnyH_take (i := 26) (v := ?_) (by simp only [List.getElem?_toArray, List.getElem?_cons_succ, List.getElem?_cons_zero]; rfl) (by kernel_rfl) (by kernel_rfl) (by kernel_rfl) (fun _ _ _ h => by exact h) (Or.inl ⟨by rfl, ?_⟩) HB4.out ?_
            rotate_left
            · intro W' hW'
              obtain ⟨⟨d_0, d_1, d_2, d_3⟩, e_0, e_1, e_2, e_3⟩ := HBX.out W' hW'
              go_simp
              all_goals (try with_reducible rfl)
            try simp only [Act.put, List.setIfInBounds_toArray, List.set_cons_zero, List.set_cons_succ]
            refine wpAnyH_take (i := 27) (v := ?_) (by simp only [List.getElem?_toArray, List.getElem?_cons_succ, List.getElem?_cons_zero]; rfl) (by kernel_rfl) (by kernel_rfl) (by kernel_rfl) (fun _ _ _ h => by exact h) (Or.inl ⟨by rfl, ?_⟩) HB4.out ?_
            rotate_left
            · intro W' hW'
              obtain ⟨⟨d_0, d_1, d_2, d_3⟩, e_0, e_1, e_2, e_3⟩ := HBX.out W' hW'
              go_simp
              all_goals (try with_reducible rfl)
            try simp only [Act.put, List.setIfInBounds_toArray, List.set_cons_zero, List.set_cons_succ]
            refine wpAnyH_take (i := 28) (v := ?_) (by simp only [List.getElem?_toArray, List.getElem?_cons_succ, List.getElem?_cons_zero]; rfl) (by kernel_rfl) (by kernel_rfl) (by kernel_rfl) (fun _ _ _ h => by exact h) (Or.inl ⟨by rfl, ?_⟩) HB4.out ?_
            rotate_left
            · intro W' hW'
              obtain ⟨⟨d_0, d_1, d_2, d_3⟩, e_0, e_1, e_2, e_3⟩ := HBX.out W' hW'
              go_simp
              all_goals (try with_reducible rfl)
            try simp only [Act.put, List.setIfInBounds_toArray, List.set_cons_zero, List.set_cons_succ]
            refine wpAnyH_take (i := 29) (v := ?_) (by simp only [List.getElem?_toArray, List.getElem?_cons_succ, List.getElem?_cons_zero]; rfl) (by kernel_rfl) (by kernel_rfl) (by kernel_rfl) (fun _ _ _ h => by exact h) (Or.inl ⟨by rfl, ?_⟩) HB4.out ?_
            rotate_left
            · intro W' hW'
              obtain ⟨⟨d_0, d_1, d_2, d_3⟩, e_0, e_1, e_2, e_3⟩ := HBX.out W' hW'
              go_simp
              all_goals (try with_reducible rfl)
            try simp only [Act.put, List.setIfInBounds_toArray, List.set_cons_zero, List.set_cons_succ]
            refine wpAnyH_take (i := 30) (v := ?_) (by simp only [List.getElem?_toArray, List.getElem?_cons_succ, List.getElem?_cons_zero]; rfl) (by kernel_rfl) (by kernel_rfl) (by kernel_rfl) (fun _ _ _ h => by exact h) (Or.inl ⟨by rfl, ?_⟩) HB4.out ?_
            rotate_left
            · intro W' hW'
              obtain ⟨⟨d_0, d_1, d_2, d_3⟩, e_0, e_1, e_2, e_3⟩ := HBX.out W' hW'
              go_simp
              all_goals (try with_reducible rfl)
            try simp only [Act.put, List.setIfInBounds_toArray, List.set_cons_zero, List.set_cons_succ]
            refine wpAnyH_take (i := 31) (v := ?_) (by simp only [List.getElem?_toArray, List.getElem?_cons_succ, List.getElem?_cons_zero]; rfl) (by kernel_rfl) (by kernel_rfl) (by kernel_rfl) (fun _ _ _ h => by exact h) (Or.inl ⟨by rfl, ?_⟩) HB4.out ?_
            rotate_left
            · intro W' hW'
              obtain ⟨⟨d_0, d_1, d_2, d_3⟩, e_0, e_1, e_2, e_3⟩ := HBX.out W' hW'
              go_simp
              all_goals (try with_reducible rfl)
            try simp only [Act.put, List.setIfInBounds_toArray, List.set_cons_zero, List.set_cons_succ]
            refine wpAnyH_take (i := 32) (v := ?_) (by simp only [List.getElem?_toArray, List.getElem?_cons_succ, List.getElem?_cons_zero]; rfl) (by kernel_rfl) (by kernel_rfl) (by kernel_rfl) (fun _ _ _ h => by exact h) (Or.inl ⟨by rfl, ?_⟩) HB4.out ?_
            rotate_left
            · intro W' hW'
              obtain ⟨⟨d_0, d_1, d_2, d_3⟩, e_0, e_1, e_2, e_3⟩ := HBX.out W' hW'
              go_simp
              all_goals (try with_reducible rfl)
            try simp only [Act.put, List.setIfInBounds_toArray, List.set_cons_zero, List.set_cons_succ]
            by_cases htL : (L : Int) < tall
            · have d4 : decide ((L : Int) < tall) = true := decide_eq_true htL
              clear htL
              refine wpAnyH_take (i := 33) (v := ?_) (by simp only [List.getElem?_toArray, List.getElem?_cons_succ, List.getElem?_cons_zero]; rfl) (by kernel_rfl) (by kernel_rfl) (by kernel_rfl) (fun _ _ _ h => by exact h) (Or.inl ⟨by rfl, ?_⟩) HB4.out ?_
              rotate_left
              · intro W' hW'
                obtain ⟨⟨d_0, d_1, d_2, d_3⟩, e_0, e_1, e_2, e_3⟩ := HBX.out W' hW'
                go_simp
                all_goals (try with_reducible rfl)
              try simp only [Act.put, List.setIfInBounds_toArray, List.set_cons_zero, List.set_cons_succ]
              refine wpAnyH_take (i := 34) (v := ?_) (by simp only [List.getElem?_toArray, List.getElem?_cons_succ, List.getElem?_cons_zero]; rfl) (by kernel_rfl) (by kernel_rfl) (by kernel_rfl) (fun _ _ _ h => by exact h) (Or.inl ⟨by rfl, ?_⟩) HB4.out ?_
              rotate_left
              · intro W' hW'
                obtain ⟨⟨d_0, d_1, d_2, d_3⟩, e_0, e_1, e_2, e_3⟩ := HBX.out W' hW'
                go_simp
                all_goals (try with_reducible rfl)
              try simp only [Act.put, List.setIfInBounds_toArray, List.set_cons_zero, List.set_cons_succ]
              refine wpAnyH_done (by kernel_rfl) ?_ _
              go_wp2_with fail
              go_meet
              case rel => exact ⟨.inl rfl, HB4.out⟩
            · have d4 : decide ((L : Int) < tall) = false := decide_eq_false htL
              have HTL := Lib.hid htL
              clear htL
              refine wpAnyH_take (i := 33) (v := ?_) (by simp only [List.getElem?_toArray, List.getElem?_cons_succ, List.getElem?_cons_zero]; rfl) (by kernel_rfl) (by kernel_rfl) (by kernel_rfl) (fun _ _ _ h => by exact h) (Or.inl ⟨by rfl, ?_⟩) HB4.out ?_
              rotate_left
              · intro W' hW'
                obtain ⟨⟨d_0, d_1, d_2, d_3⟩, e_0, e_1, e_2, e_3⟩ := HBX.out W' hW'
                go_simp
                all_goals (try with_reducible rfl)
              try simp only [Act.put, List.setIfInBounds_toArray, List.set_cons_zero, List.set_cons_succ]
              refine wpAnyH_take (i := 34) (v := ?_) (by simp only [List.getElem?_toArray, List.getElem?_cons_succ, List.getElem?_cons_zero]; rfl) (by kernel_rfl) (by kernel_rfl) (by kernel_rfl) (fun _ _ _ h => by exact h) (Or.inl ⟨by rfl, ?_⟩) HB4.out ?_
              rotate_left
              · intro W' hW'
                obtain ⟨⟨d_0, d_1, d_2, d_3⟩, e_0, e_1, e_2, e_3⟩ := HBX.out W' hW'
                go_simp
                all_goals (try with_reducible rfl)
              try simp only [Act.put, List.setIfInBounds_toArray, List.set_cons_zero, List.set_cons_succ]
              refine wpAnyH_done (by kernel_rfl) ?_ _
              go_wp2_with fail
              go_meet
              case rel => exact ⟨.inr ⟨rfl, HR0.out, HKK.out, HT1.out, HTL.out⟩, HB4.out⟩
        · have N1 := fun W => eqlK k1 k2 dl sq W
          simp only [decide_eq_false hkk, Bool.not_false] at N1
          clear hkk
          refine wpAnyH_take (i := 21) (v := ?_) (by simp only [List.getElem?_toArray, List.getElem?_cons_succ, List.getElem?_cons_zero]; rfl) (by kernel_rfl) (by kernel_rfl) (by kernel_rfl) (fun _ _ _ h => by exact h) (Or.inl ⟨by rfl, ?_⟩) HB4.out ?_
          rotate_left
          · intro W' hW'
            obtain ⟨⟨d_0, d_1, d_2, d_3⟩, e_0, e_1, e_2, e_3⟩ := HBX.out W' hW'
            go_simp
            all_goals (try with_reducible rfl)
          try simp only [Act.put, List.setIfInBounds_toArray, List.set_cons_zero, List.set_cons_succ]
          refine wpAnyH_take (i := 22) (v := ?_) (by simp only [List.getElem?_toArray, List.getElem?_cons_succ, List.getElem?_cons_zero]; rfl) (by kernel_rfl) (by kernel_rfl) (by kernel_rfl) (fun _ _ _ h => by exact h) (Or.inl ⟨by rfl, ?_⟩) HB4.out ?_
          rotate_left
          · intro W' hW'
            obtain ⟨⟨d_0, d_1, d_2, d_3⟩, e_0, e_1, e_2, e_3⟩ := HBX.out W' hW'
            go_simp
            all_goals (try with_reducible rfl)
          try simp only [Act.put, List.setIfInBounds_toArray, List.set_cons_zero, List.set_cons_succ]
          refine wpAnyH_take (i := 23) (v := ?_) (by simp only [List.getElem?_toArray, List.getElem?_cons_succ, List.getElem?_cons_zero]; rfl) (by kernel_rfl) (by kernel_rfl) (by kernel_rfl) (fun _ _ _ h => by exact h) (Or.inl ⟨by rfl, ?_⟩) HB4.out ?_
          rotate_left
          · intro W' hW'
            obtain ⟨⟨d_0, d_1, d_2, d_3⟩, e_0, e_1, e_2, e_3⟩ := HBX.out W' hW'
            go_simp
            all_goals (try with_reducible rfl)
          try simp only [Act.put, List.setIfInBounds_toArray, List.set_cons_zero, List.set_cons_succ]
          refine wpAnyH_take (i := 24) (v := undef) (by simp only [List.getElem?_toArray, List.getElem?_cons_succ, List.getElem?_cons_zero]; rfl) (by kernel_rfl) (by kernel_rfl) (by kernel_rfl) (fun _ _ _ h => by exact h) (Or.inr ⟨by rfl, rfl⟩) HB4.out ?_
          try simp only [Act.put, List.setIfInBounds_toArray, List.set_cons_zero, List.set_cons_succ]
          refine wpAnyH_take (i := 25) (v := undef) (by simp only [List.getElem?_toArray, List.getElem?_cons_succ, List.getElem?_cons_zero]; rfl) (by kernel_rfl) (by kernel_rfl) (by kernel_rfl) (fun _ _ _ h => by exact h) (Or.inr ⟨by rfl, rfl⟩) HB4.out ?_
          try simp only [Act.put, List.setIfInBounds_toArray, List.set_cons_zero, List.set_cons_succ]
          refine wpAnyH_take (i := 26) (v := undef) (by simp only [List.getElem?_toArray, List.getElem?_cons_succ, List.getElem?_cons_zero]; rfl) (by kernel_rfl) (by kernel_rfl) (by kernel_rfl) (fun _ _ _ h => by exact h) (Or.inr ⟨by rfl, rfl⟩) HB4.out ?_
          try simp only [Act.put, List.setIfInBounds_toArray, List.set_cons_zero, List.set_cons_succ]
          refine wpAnyH_take (i := 27) (v := ?_) (by simp only [List.getElem?_toArray, List.getElem?_cons_succ, List.getElem?_cons_zero]; rfl) (by kernel_rfl) (by kernel_rfl) (by kernel_rfl) (fun _ _ _ h => by exact h) (Or.inl ⟨by rfl, ?_⟩) HB4.out ?_
          rotate_left
          · intro W' hW'
            obtain ⟨⟨d_0, d_1, d_2, d_3⟩, e_0, e_1, e_2, e_3⟩ := HBX.out W' hW'
            go_simp
            all_goals (try with_reducible rfl)
          try simp only [Act.put, List.setIfInBounds_toArray, List.set_cons_zero, List.set_cons_succ]
          refine wpAnyH_take (i := 28) (v := ?_) (by simp only [List.getElem?_toArray, List.getElem?_cons_succ, List.getElem?_cons_zero]; rfl) (by kernel_rfl) (by kernel_rfl) (by kernel_rfl) (fun _ _ _ h => by exact h) (Or.inl ⟨by rfl, ?_⟩) HB4.out ?_
          rotate_left
          · intro W' hW'
            obtain ⟨⟨d_0, d_1, d_2, d_3⟩, e_0, e_1, e_2, e_3⟩ := HBX.out W' hW'
            go_simp
            all_goals (try with_reducible rfl)
          try simp only [Act.put, List.setIfInBounds_toArray, List.set_cons_zero, List.set_cons_succ]
          refine wpAnyH_take (i := 29) (v := undef) (by simp only [List.getElem?_toArray, List.getElem?_cons_succ, List.getElem?_cons_zero]; rfl) (by kernel_rfl) (by kernel_rfl) (by kernel_rfl) (fun _ _ _ h => by exact h) (Or.inr ⟨by rfl, rfl⟩) HB4.out ?_
          try simp only [Act.put, List.setIfInBounds_toArray, List.set_cons_zero, List.set_cons_succ]
          refine wpAnyH_take (i := 30) (v := undef) (by simp only [List.getElem?_toArray, List.getElem?_cons_succ, List.getElem?_cons_zero]; rfl) (by kernel_rfl) (by kernel_rfl) (by kernel_rfl) (fun _ _ _ h => by exact h) (Or.inr ⟨by rfl, rfl⟩) HB4.out ?_
          try simp only [Act.put, List.setIfInBounds_toArray, List.set_cons_zero, List.set_cons_succ]
          refine wpAnyH_take (i := 31) (v := undef) (by simp only [List.getElem?_toArray, List.getElem?_cons_succ, List.getElem?_cons_zero]; rfl) (by kernel_rfl) (by kernel_rfl) (by kernel_rfl) (fun _ _ _ h => by exact h) (Or.inr ⟨by rfl, rfl⟩) HB4.out ?_
          try simp only [Act.put, List.setIfInBounds_toArray, List.set_cons_zero, List.set_cons_succ]
          refine wpAnyH_take (i := 32) (v := undef) (by simp only [List.getElem?_toArray, List.getElem?_cons_succ, List.getElem?_cons_zero]; rfl) (by kernel_rfl) (by kernel_rfl) (by kernel_rfl) (fun _ _ _ h => by exact h) (Or.inr ⟨by rfl, rfl⟩) HB4.out ?_
          try simp only [Act.put, List.setIfInBounds_toArray, List.set_cons_zero, List.set_cons_succ]
          refine wpAnyH_take (i := 33) (v := undef) (by simp only [List.getElem?_toArray, List.getElem?_cons_succ, List.getElem?_cons_zero]; rfl) (by kernel_rfl) (by kernel_rfl) (by kernel_rfl) (fun _ _ _ h => by exact h) (Or.inr ⟨by rfl, rfl⟩) HB4.out ?_
          try simp only [Act.put, List.setIfInBounds_toArray, List.set_cons_zero, List.set_cons_succ]
          refine wpAnyH_take (i := 34) (v := ?_) (by simp only [List.getElem?_toArray, List.getElem?_cons_succ, List.getElem?_cons_zero]; rfl) (by kernel_rfl) (by kernel_rfl) (by kernel_rfl) (fun _ _ _ h => by exact h) (Or.inl ⟨by rfl, ?_⟩) HB4.out ?_
          rotate_left
          · intro W' hW'
            obtain ⟨⟨d_0, d_1, d_2, d_3⟩, e_0, e_1, e_2, e_3⟩ := HBX.out W' hW'
            go_simp
            all_goals (try with_reducible rfl)
          try simp only [Act.put, List.setIfInBounds_toArray, List.set_cons_zero, List.set_cons_succ]
          refine wpAnyH_done (by kernel_rfl) ?_ _
          go_wp2_with fail
          go_meet
          case rel => exact ⟨.inl rfl, HB4.out⟩
      · have HHA := Lib.hid (Has_is (c := c2) (decide_eq_false hr0) HR3.out.1 (by have := HKF.out; have := HR3.out.1; omega) HR3.out.2)
        clear hr0
        refine HeldIn.wpAnyH_one (i := 10) (by kernel_rfl) (by simp only [List.getElem?_toArray, List.getElem?_cons_succ, List.getElem?_cons_zero]; rfl) (by rfl) ?_
        intro K' hK'
        go_simp
        refine (HHA.out).mono ?_
        rintro e w' ⟨rfl, rfl⟩
        refine hK'.out _ _ HB3.out ?_
        clear hK'
        try simp only [Act.put, List.setIfInBounds_toArray, List.set_cons_zero, List.set_cons_succ]
        refine wpAnyH_take (i := 11) (v := ?_) (by simp only [List.getElem?_toArray, List.getElem?_cons_succ, List.getElem?_cons_zero]; rfl) (by kernel_rfl) (by kernel_rfl) (by kernel_rfl) (fun _ _ _ h => by exact h) (Or.inl ⟨by rfl, ?_⟩) HB3.out ?_
        rotate_left
        · intro W' hW'
          obtain ⟨⟨d_0, d_1, d_2, d_3⟩, e_0, e_1, e_2, e_3⟩ := HBX.out W' hW'
          go_simp
          all_goals (try with_reducible rfl)
        try simp only [Act.put, List.setIfInBounds_toArray, List.set_cons_zero, List.set_cons_succ]
        refine wpAnyH_take (i := 12) (v := ?_) (by simp only [List.getElem?_toArray, List.getElem?_cons_succ, List.getElem?_cons_zero]; rfl) (by kernel_rfl) (by kernel_rfl) (by kernel_rfl) (fun _ _ _ h => by exact h) (Or.inl ⟨by rfl, ?_⟩) HB3.out ?_
        rotate_left
        · intro W' hW'
          obtain ⟨⟨d_0, d_1, d_2, d_3⟩, e_0, e_1, e_2, e_3⟩ := HBX.out W' hW'
          go_simp
          all_goals (try with_reducible rfl)
        try simp only [Act.put, List.setIfInBounds_toArray, List.set_cons_zero, List.set_cons_succ]
        refine wpAnyH_take (i := 13) (v := ?_) (by simp only [List.getElem?_toArray, List.getElem?_cons_succ, List.getElem?_cons_zero]; rfl) (by kernel_rfl) (by kernel_rfl) (by kernel_rfl) (fun _ _ _ h => by exact h) (Or.inl ⟨by rfl, ?_⟩) HB3.out ?_
        rotate_left
        · intro W' hW'
          obtain ⟨⟨d_0, d_1, d_2, d_3⟩, e_0, e_1, e_2, e_3⟩ := HBX.out W' hW'
          go_simp
          all_goals (try with_reducible rfl)
        try simp only [Act.put, List.setIfInBounds_toArray, List.set_cons_zero, List.set_cons_succ]
        refine wpAnyH_take (i := 14) (v := undef) (by simp only [List.getElem?_toArray, List.getElem?_cons_succ, List.getElem?_cons_zero]; rfl) (by kernel_rfl) (by kernel_rfl) (by kernel_rfl) (fun _ _ _ h => by exact h) (Or.inr ⟨by rfl, rfl⟩) HB3.out ?_
        try simp only [Act.put, List.setIfInBounds_toArray, List.set_cons_zero, List.set_cons_succ]
        refine wpAnyH_take (i := 15) (v := undef) (by simp only [List.getElem?_toArray, List.getElem?_cons_succ, List.getElem?_cons_zero]; rfl) (by kernel_rfl) (by kernel_rfl) (by kernel_rfl) (fun _ _ _ h => by exact h) (Or.inr ⟨by rfl, rfl⟩) HB3.out ?_
        try simp only [Act.put, List.setIfInBounds_toArray, List.set_cons_zero, List.set_cons_succ]
        refine wpAnyH_take (i := 16) (v := undef) (by simp only [List.getElem?_toArray, List.getElem?_cons_succ, List.getElem?_cons_zero]; rfl) (by kernel_rfl) (by kernel_rfl) (by kernel_rfl) (fun _ _ _ h => by exact h) (Or.inr ⟨by rfl, rfl⟩) HB3.out ?_
        try simp only [Act.put, List.setIfInBounds_toArray, List.set_cons_zero, List.set_cons_succ]
        refine wpAnyH_take (i := 17) (v := undef) (by simp only [List.getElem?_toArray, List.getElem?_cons_succ, List.getElem?_cons_zero]; rfl) (by kernel_rfl) (by kernel_rfl) (by kernel_rfl) (fun _ _ _ h => by exact h) (Or.inr ⟨by rfl, rfl⟩) HB3.out ?_
        try simp only [Act.put, List.setIfInBounds_toArray, List.set_cons_zero, List.set_cons_succ]
        refine wpAnyH_take (i := 19) (v := undef) (by simp only [List.getElem?_toArray, List.getElem?_cons_succ, List.getElem?_cons_zero]; rfl) (by kernel_rfl) (by kernel_rfl) (by kernel_rfl) (fun _ _ _ h => by exact h) (Or.inr ⟨by rfl, rfl⟩) HB3.out ?_
        try simp only [Act.put, List.setIfInBounds_toArray, List.set_cons_zero, List.set_cons_succ]
        refine wpAnyH_take (i := 20) (v := undef) (by simp only [List.getElem?_toArray, List.getElem?_cons_succ, List.getElem?_cons_zero]; rfl) (by kernel_rfl) (by kernel_rfl) (by kernel_rfl) (fun _ _ _ h => by exact h) (Or.inr ⟨by rfl, rfl⟩) HB3.out ?_
        try simp only [Act.put, List.setIfInBounds_toArray, List.set_cons_zero, List.set_cons_succ]
        refine off (i := 18) (by kernel_rfl) (by simp only [List.getElem?_toArray, List.getElem?_cons_succ, List.getElem?_cons_zero]; rfl) (by rfl) HB3.out ?_
        try simp only [Act.put, List.setIfInBounds_toArray, List.set_cons_zero, List.set_cons_succ]
        refine wpAnyH_take (i := 21) (v := undef) (by simp only [List.getElem?_toArray, List.getElem?_cons_succ, List.getElem?_cons_zero]; rfl) (by kernel_rfl) (by kernel_rfl) (by kernel_rfl) (fun _ _ _ h => by exact h) (Or.inr ⟨by rfl, rfl⟩) HB3.out ?_
        try simp only [Act.put, List.setIfInBounds_toArray, List.set_cons_zero, List.set_cons_succ]
        refine wpAnyH_take (i := 22) (v := ?_) (by simp only [List.getElem?_toArray, List.getElem?_cons_succ, List.getElem?_cons_zero]; rfl) (by kernel_rfl) (by kernel_rfl) (by kernel_rfl) (fun _ _ _ h => by exact h) (Or.inl ⟨by rfl, ?_⟩) HB3.out ?_
        rotate_left
        · intro W' hW'
          obtain ⟨⟨d_0, d_1, d_2, d_3⟩, e_0, e_1, e_2, e_3⟩ := HBX.out W' hW'
          go_simp
          all_goals (try with_reducible rfl)
        try simp only [Act.put, List.setIfInBounds_toArray, List.set_cons_zero, List.set_cons_succ]
        refine wpAnyH_take (i := 23) (v := ?_) (by simp only [List.getElem?_toArray, List.getElem?_cons_succ, List.getElem?_cons_zero]; rfl) (by kernel_rfl) (by kernel_rfl) (by kernel_rfl) (fun _ _ _ h => by exact h) (Or.inl ⟨by rfl, ?_⟩) HB3.out ?_
        rotate_left
        · intro W' hW'
          obtain ⟨⟨d_0, d_1, d_2, d_3⟩, e_0, e_1, e_2, e_3⟩ := HBX.out W' hW'
          go_simp
          all_goals (try with_reducible rfl)
        try simp only [Act.put, List.setIfInBounds_toArray, List.set_cons_zero, List.set_cons_succ]
        refine wpAnyH_take (i := 24) (v := undef) (by simp only [List.getElem?_toArray, List.getElem?_cons_succ, List.getElem?_cons_zero]; rfl) (by kernel_rfl) (by kernel_rfl) (by kernel_rfl) (fun _ _ _ h => by exact h) (Or.inr ⟨by rfl, rfl⟩) HB3.out ?_
        try simp only [Act.put, List.setIfInBounds_toArray, List.set_cons_zero, List.set_cons_succ]
        refine wpAnyH_take (i := 25) (v := undef) (by simp only [List.getElem?_toArray, List.getElem?_cons_succ, List.getElem?_cons_zero]; rfl) (by kernel_rfl) (by kernel_rfl) (by kernel_rfl) (fun _ _ _ h => by exact h) (Or.inr ⟨by rfl, rfl⟩) HB3.out ?_
        try simp only [Act.put, List.setIfInBounds_toArray, List.set_cons_zero, List.set_cons_succ]
        refine wpAnyH_take (i := 26) (v := undef) (by simp only [List.getElem?_toArray, List.getElem?_cons_succ, List.getElem?_cons_zero]; rfl) (by kernel_rfl) (by kernel_rfl) (by kernel_rfl) (fun _ _ _ h => by exact h) (Or.inr ⟨by rfl, rfl⟩) HB3.out ?_
        try simp only [Act.put, List.setIfInBounds_toArray, List.set_cons_zero, List.set_cons_succ]
        refine wpAnyH_take (i := 27) (v := ?_) (by simp only [List.getElem?_toArray, List.getElem?_cons_succ, List.getElem?_cons_zero]; rfl) (by kernel_rfl) (by kernel_rfl) (by kernel_rfl) (fun _ _ _ h => by exact h) (Or.inl ⟨by rfl, ?_⟩) HB3.out ?_
        rotate_left
        · intro W' hW'
          obtain ⟨⟨d_0, d_1, d_2, d_3⟩, e_0, e_1, e_2, e_3⟩ := HBX.out W' hW'
          go_simp
          all_goals (try with_reducible rfl)
        try simp only [Act.put, List.setIfInBounds_toArray, List.set_cons_zero, List.set_cons_succ]
        refine wpAnyH_take (i := 28) (v := ?_) (by simp only [List.getElem?_toArray, List.getElem?_cons_succ, List.getElem?_cons_zero]; rfl) (by kernel_rfl) (by kernel_rfl) (by kernel_rfl) (fun _ _ _ h => by exact h) (Or.inl ⟨by rfl, ?_⟩) HB3.out ?_
        rotate_left
        · intro W' hW'
          obtain ⟨⟨d_0, d_1, d_2, d_3⟩, e_0, e_1, e_2, e_3⟩ := HBX.out W' hW'
          go_simp
          all_goals (try with_reducible rfl)
        try simp only [Act.put, List.setIfInBounds_toArray, List.set_cons_zero, List.set_cons_succ]
        refine wpAnyH_take (i := 29) (v := undef) (by simp only [List.getElem?_toArray, List.getElem?_cons_succ, List.getElem?_cons_zero]; rfl) (by kernel_rfl) (by kernel_rfl) (by kernel_rfl) (fun _ _ _ h => by exact h) (Or.inr ⟨by rfl, rfl⟩) HB3.out ?_
        try simp only [Act.put, List.setIfInBounds_toArray, List.set_cons_zero, List.set_cons_succ]
        refine wpAnyH_take (i := 30) (v := undef) (by simp only [List.getElem?_toArray, List.getElem?_cons_succ, List.getElem?_cons_zero]; rfl) (by kernel_rfl) (by kernel_rfl) (by kernel_rfl) (fun _ _ _ h => by exact h) (Or.inr ⟨by rfl, rfl⟩) HB3.out ?_
        try simp only [Act.put, List.setIfInBounds_toArray, List.set_cons_zero, List.set_cons_succ]
        refine wpAnyH_take (i := 31) (v := undef) (by simp only [List.getElem?_toArray, List.getElem?_cons_succ, List.getElem?_cons_zero]; rfl) (by kernel_rfl) (by kernel_rfl) (by kernel_rfl) (fun _ _ _ h => by exact h) (Or.inr ⟨by rfl, rfl⟩) HB3.out ?_
        try simp only [Act.put, List.setIfInBounds_toArray, List.set_cons_zero, List.set_cons_succ]
        refine wpAnyH_take (i := 32) (v := undef) (by simp only [List.getElem?_toArray, List.getElem?_cons_succ, List.getElem?_cons_zero]; rfl) (by kernel_rfl) (by kernel_rfl) (by kernel_rfl) (fun _ _ _ h => by exact h) (Or.inr ⟨by rfl, rfl⟩) HB3.out ?_
        try simp only [Act.put, List.setIfInBounds_toArray, List.set_cons_zero, List.set_cons_succ]
        refine wpAnyH_take (i := 33) (v := undef) (by simp only [List.getElem?_toArray, List.getElem?_cons_succ, List.getElem?_cons_zero]; rfl) (by kernel_rfl) (by kernel_rfl) (by kernel_rfl) (fun _ _ _ h => by exact h) (Or.inr ⟨by rfl, rfl⟩) HB3.out ?_
        try simp only [Act.put, List.setIfInBounds_toArray, List.set_cons_zero, List.set_cons_succ]
        refine wpAnyH_take (i := 34) (v := ?_) (by simp only [List.getElem?_toArray, List.getElem?_cons_succ, List.getElem?_cons_zero]; rfl) (by kernel_rfl) (by kernel_rfl) (by kernel_rfl) (fun _ _ _ h => by exact h) (Or.inl ⟨by rfl, ?_⟩) HB3.out ?_
        rotate_left
        · intro W' hW'
          obtain ⟨⟨d_0, d_1, d_2, d_3⟩, e_0, e_1, e_2, e_3⟩ := HBX.out W' hW'
          go_simp
          all_goals (try with_reducible rfl)
        try simp only [Act.put, List.setIfInBounds_toArray, List.set_cons_zero, List.set_cons_succ]
        refine wpAnyH_done (by kernel_rfl) ?_ _
        go_wp2_with fail
        go_meet
        case rel => exact ⟨.inl rfl, HB3.out⟩
    case rest =>
      obtain ⟨hor, hp⟩ := hcut
      have HP2 := Lib.hid hp
      clear hp c_0 c_1 c_2 c_3 k_0 k_1 k_2 k_3 hgk
      rcases hor with rfl | ⟨rfl, hr0, hkk, ht1, htL⟩
      · go_wp2_with fail
        refine (HAW.out _ HP2.out).mono ?_
        rintro e w2 ⟨rfl, b2⟩
        go_wp2
        go_ret
        exact ⟨rfl, b2⟩
      have HEN2 := Lib.hid (HEND.out hr0 hkk (by omega) (by omega))
      clear hr0 hkk HEND HKY HKP HKF HGD
      have HLG := Lib.hid (And.intro l1 l8)
      obtain ⟨⟨c_0, c_1, c_2, c_3⟩, k_0, k_1, k_2, k_3⟩ := HBX.out _ HP2.out
      go_wp2_with fail
      refine (Of_any (HROW.out _ HP2.out) HN.out hn4).mono ?_
      rintro e w2 ⟨pc, hc, rfl, m2, p2, h2, b2⟩
      have HB2 := Lib.hid (past_later HP2.out b2)
      have HM2 := Lib.hid m2
      have HPC := Lib.hid (show w.heap.size + 2 ≤ pc ∧ w.heap.size + 2 ≤ hc from by have h3 := HP2.out.size; simp only [World.size_alloc] at h3; omega)
      clear m2 p2 h2 b2 c_0 c_1 c_2 c_3 k_0 k_1 k_2 k_3
      go_wp2
      go_loopw [10] (fun hv wr => ∃ k : Nat, k + 1 ≤ L ∧ hv = .int .i64 ((k : Int) + 1) ∧ Mem wr pc hc n (zeroL T L i l k) ∧ (∀ g : Nat, 1 ≤ g → g ≤ k → ∀ c ∈ (ch g).1, idx c ≠ i) ∧ Below (w.heap.size + 2) ((w.alloc (.cells #[.int .i64 T, .int .i64 N, .int .i64 L, .int .u64 G] 24)).alloc (.cells #[.int .u64 r, .int .i64 dl, .int .u64 sq, .int .i64 tall] 29)) wr) (fun hv _ => L - (intOf hv).toNat)
      case atStart => exact ⟨0, by omega, rfl, HM2.out, fun g e1 e2 => by omega, HB2.out⟩
      case round =>
        obtain ⟨k, hk, rfl, hm, hall, hb⟩ := hrel
        have HM := Lib.hid hm
        have HALL := Lib.hid hall
        have HB := Lib.hid hb
        clear hm hall hb
        obtain ⟨⟨c_0, c_1, c_2, c_3⟩, k_0, k_1, k_2, k_3⟩ := HBX.out _ HB.out
        obtain ⟨h, hh⟩ : ∃ h : Nat, h = k + 1 := ⟨_, rfl⟩
        rw [show (k : Int) + 1 = (h : Int) by omega]
        have HH := Lib.hid hh
        by_cases hlt : h < L
        · have hil : (h : Int) < (L : Int) := by omega
          clear hh
          go_wp2_with fail
          refine (HCH.out h _ HB.out).mono ?_
          rintro e w3 ⟨A2, n2, d2', rfl, h2, r2, -, b3⟩
          have HB3 := Lib.hid (past_later HB.out b3)
          have HM3 := Lib.hid (HM.out.later b3)
          have HR2 := Lib.hid r2
          have HN2 := Lib.hid h2
          have hn2 : n2 ≤ 64 := by have := (HRF.out h).2; omega
          clear r2 h2 b3 c_0 c_1 c_2 c_3 k_0 k_1 k_2 k_3
          generalize (ch h).2 = okv
          go_wp2
          go_loopw [13] (fun kv wr => ∃ j : Nat, j ≤ n2 ∧ kv = .int .i64 j ∧ Below w3.heap.size w3 wr ∧ ∀ c ∈ (ch h).1.take j, idx c ≠ i) (fun kv _ => n2 - (intOf kv).toNat)
          case atStart => exact ⟨0, Nat.zero_le _, rfl, Below.refl _ _, fun c hc => by simp at hc⟩
          case round =>
            obtain ⟨j, hj, rfl, hb, hin⟩ := hrel
            have HBJ := Lib.hid hb
            have HIN := Lib.hid hin
            have HPJ := Lib.hid (past_later HB3.out hb)
            clear hin hb
            by_cases hjl : j < n2
            · have hil2 : (j : Int) < (n2 : Int) := by omega
              obtain ⟨y, hy⟩ : ∃ y, (ch h).1[j]? = some y := ⟨_, List.getElem?_eq_getElem (by have := HN2.out; omega)⟩
              have HY := Lib.hid ((HRF.out h).1 y (List.mem_of_getElem? hy))
              have HTS := Lib.hid (show (ch h).1.take (j + 1) = (ch h).1.take j ++ [y] from by rw [List.take_add_one, hy]; rfl)
              obtain ⟨b0, o0, ea, -, hc0⟩ := int_at (HR2.out.later HBJ.out) (show j < (ch h).1.length by have := HN2.out; omega)
              subst ea
              have q0 := hc0 j y hy
              have HIY := Lib.hid (show ∀ W : World, Calls Tryz.prog 4 #[.int .u64 y] W fun e w' => e = .returned (.int .i64 (idx y)) ∧ W = w' from fun W => Refer.Index_any y HY.out.1 HY.out.2 W)
              clear hc0 hy
              by_cases hyi : idx y = i
              · have e1 : (idx y == i) = true := by simpa using hyi
                clear hyi
                go_wp2_with fail
                refine (HIY.out _).mono ?_
                rintro e w' ⟨rfl, rfl⟩
                go_wp2_with fail
                refine (HAW.out _ HPJ.out).mono ?_
                rintro e w4 ⟨rfl, b4⟩
                go_wp2
                go_ret
                exact ⟨rfl, b4⟩
              · have e1 : (idx y == i) = false := by simpa using hyi
                have HNW := Lib.hid (show ∀ c ∈ (ch h).1.take (j + 1), idx c ≠ i from fun c hc => by
                  rw [HTS.out, List.mem_append, List.mem_singleton] at hc
                  rcases hc with hc | rfl
                  · exact HIN.out c hc
                  · exact hyi)
                clear hyi
                go_wp2_with fail
                refine (HIY.out _).mono ?_
                rintro e w' ⟨rfl, rfl⟩
                go_wp2
                go_roundw
                case rel => exact ⟨j + 1, by omega, by go_num, HBJ.out, HNW.out⟩
                case measure => simp [intOf]; omega
            · obtain rfl : j = n2 := by omega
              have HNW := Lib.hid (show ∀ g : Nat, 1 ≤ g → g ≤ k + 1 → ∀ c ∈ (ch g).1, idx c ≠ i from fun g e1 e2 => by
                by_cases e : g = h
                · subst e
                  intro c hc
                  exact HIN.out c (by rw [List.take_of_length_le (by have := HN2.out; omega)]; exact hc)
                · exact HALL.out g e1 (by have := HH.out; omega))
              have HNX := Lib.hid (fun W => Plan.Next_any T N L G i (h : Int) W)
              have HM4 := Lib.hid (HM3.out.later HBJ.out)
              obtain ⟨⟨c_0, c_1, c_2, c_3⟩, k_0, k_1, k_2, k_3⟩ := HBX.out _ HPJ.out
              go_wp2_with fail
              refine (HNX.out _).mono ?_
              rintro e w5 ⟨rfl, b5⟩
              have HM5 := Lib.hid (HM4.out.later b5)
              have HP5 := Lib.hid (past_later HPJ.out b5)
              clear b5 c_0 c_1 c_2 c_3 k_0 k_1 k_2 k_3
              go_wp2_with fail
              refine (Store_any HM5.out _ _).mono ?_
              rintro e w6 ⟨rfl, g6, m6⟩
              have HM6 := Lib.hid (show Mem w6 pc hc n (zeroL T L i l (k + 1)) from by unfold zeroL; rw [← HH.out]; exact m6)
              have HP6 := Lib.hid (show Below (w.heap.size + 2) ((w.alloc (.cells #[.int .i64 T, .int .i64 N, .int .i64 L, .int .u64 G] 24)).alloc (.cells #[.int .u64 r, .int .i64 dl, .int .u64 sq, .int .i64 tall] 29)) w6 from HP5.out.trans ((only_grown (R := fun k => k = hc) g6 fun k e => by cases e; rfl).below (by have h3 := HP5.out.size; simp only [World.size_alloc] at h3; omega) (fun k e => by subst e; exact HPC.out.2)))
              clear g6 m6
              have hw : IntKind.i64.wrap ((h : Int) + 1) = ((k + 1 : Nat) : Int) + 1 := by rw [HH.out]; exact IntWalk.i64_in _ ⟨by omega, by omega⟩
              go_wp2
              go_roundw
              case rel => exact ⟨k + 1, by have := HH.out; omega, rfl, HM6.out, HNW.out, HP6.out⟩
              case measure => simp [intOf]; have := HH.out; omega
        · obtain rfl : L = h := by omega
          obtain ⟨hbase, hlen0, hfit0, hz0, hfin⟩ := HEN2.out fun g e1 e2 => HALL.out g e1 (by omega)
          rw [show L - 1 = k by omega] at hbase hlen0 hfit0 hz0 hfin
          have HN0 := Lib.hid (show n = (zeroL (T : Int) (L : Int) i l k).length from by rw [hlen0, ← HLEN.out]; exact HN.out)
          generalize zeroL (T : Int) (L : Int) i l k = l0 at hbase hlen0 hfit0 hz0 hfin HM HN0
          have HAL := Lib.hid (show ∀ W, Mem W pc hc n l0 → Calls Tryz.prog 14 #[.agg #[.int .i64 T, .int .i64 N, .int .i64 L, .int .u64 G], .pointer (some ⟨pc, 0, none⟩), .agg #[.int .u64 r, .int .i64 dl, .int .u64 sq, .int .i64 tall]] W fun e w' => e = .returned (.bool true) ∧ ∃ lf, Mem w' pc hc n lf ∧ BM.Fits lf ∧ Up T N L l0 r tall.toNat lf ∧ Only (fun k => k = hc) W w' from fun W hm => alone_any hbase hlen0 hfit0 hz0 (by omega) HN0.out hn4 hm)
          have HFIN := Lib.hid hfin
          clear hbase hlen0 hfit0 hz0 hfin hh hlt
          go_wp2_with fail
          refine (HAL.out _ HM.out).mono ?_
          rintro e w3 ⟨rfl, lf, m3, f3, u3, o3⟩
          have HM3 := Lib.hid m3
          have HB3 := Lib.hid (show Below (w.heap.size + 2) ((w.alloc (.cells #[.int .i64 T, .int .i64 N, .int .i64 L, .int .u64 G] 24)).alloc (.cells #[.int .u64 r, .int .i64 dl, .int .u64 sq, .int .i64 tall] 29)) w3 from HB.out.trans (o3.below (by have h3 := HB.out.size; simp only [World.size_alloc] at h3; omega) (fun k e => by subst e; exact HPC.out.2)))
          have HF3 := Lib.hid f3
          have HCL := Lib.hid (HFIN.out lf u3)
          clear m3 f3 u3 o3 c_0 c_1 c_2 c_3 k_0 k_1 k_2 k_3
          go_wp2_with fail
          refine (Words_new HM3.out).mono ?_
          rintro e w7 ⟨A7, rfl, r7, b7⟩
          have HP7 := Lib.hid (past_later HB3.out b7)
          have HR7 := Lib.hid r7
          have HC7 := Lib.hid (show ∀ (h : Nat) W, Below w7.heap.size w7 W → Calls Tryz.prog 11 #[.slice A7 n n, .agg #[.int .i64 T, .int .i64 N, .int .i64 L, .int .u64 G], .int .i64 h] W (Chained W (chainI T L N lf h)) from fun h W hb => Chain_any n HM3.out.len (by omega) (HR7.out.later hb) HF3.out s64 h)
          have HFW := Lib.hid (show ∀ h : Nat, (chainI T L N lf h).1.length ≤ 64 from fun h => Nat.le_trans (chain_few HF3.out (h : Int)) s64)
          clear r7 b7
          go_wp2
          go_loopw [15] (fun hv wr => ∃ h : Nat, h ≤ L ∧ hv = .int .i64 h ∧ Below w7.heap.size w7 wr) (fun hv _ => L - (intOf hv).toNat)
          case atStart => exact ⟨0, Nat.zero_le _, rfl, Below.refl _ _⟩
          case round =>
            obtain ⟨h, hh, rfl, hb⟩ := hrel
            have HBH := Lib.hid hb
            have HPH := Lib.hid (past_later HP7.out hb)
            clear hb
            obtain ⟨⟨c_0, c_1, c_2, c_3⟩, k_0, k_1, k_2, k_3⟩ := HBX.out _ HPH.out
            by_cases hlt : h < L
            · have hil : (h : Int) < (L : Int) := by omega
              obtain ⟨cl, ecl, edc⟩ := HCL.out h hlt
              have HC8 := Lib.hid (HC7.out h wr HBH.out)
              have HFH := Lib.hid (HFW.out h)
              rw [ecl] at HC8 HFH
              have HED := Lib.hid edc
              clear ecl edc
              go_wp2_with fail
              refine HC8.out.mono ?_
              rintro e w8 ⟨A8, n8, d8, rfl, h8, r8, -, b8⟩
              have HB8 := Lib.hid (chain HBH.out b8)
              have HP8 := Lib.hid (past_later HPH.out b8)
              have HHA := Lib.hid (show ∀ v : Bool, decide ((h : Int) < tall) = v → ∀ p : After w8, Calls Tryz.prog 6 #[.slice A8 n8 d8, .int .u64 r] p.x fun e w' => e = .returned (.bool v) ∧ p.x = w' from fun v hv p => Has_is (HED.out.trans hv) h8 (by have := HFH.out; simp only at h8 this; omega) (r8.after p))
              clear h8 r8 b8 c_0 c_1 c_2 c_3 k_0 k_1 k_2 k_3
              obtain ⟨-, k_0, -, -, k_3⟩ := HBX.out _ HP8.out
              have K_0 := fun p : After w8 => p.cell k_0
              have K_3 := fun p : After w8 => p.cell k_3
              clear k_0 k_3
              by_cases hta : (h : Int) < tall
              · have d5 : decide ((h : Int) < tall) = true := decide_eq_true hta
                have HH8 := Lib.hid (HHA.out true d5)
                clear hta
                go_wp2
                refine wp_region_after mixed (by kernel_rfl) ?_
                repeat (first | go_big_quiet_step ((with_reducible exact calls_after_same (HH8.out _))) | quiet_step ((with_reducible exact calls_after_same (HH8.out _))))
                refine wpQuiet_nil ?_
                intro _ hw'
                obtain ⟨pq, hw''⟩ := hw'
                subst hw''
                have HQ := Lib.hid (show Below w7.heap.size w7 pq.x from chain HB8.out pq.ok)
                generalize pq.x = wq at HQ ⊢
                go_wp2
                go_roundw
                case rel => exact ⟨h + 1, by omega, by go_num, HQ.out⟩
                case measure => simp [intOf]; omega
              · have d5 : decide ((h : Int) < tall) = false := decide_eq_false hta
                have HH8 := Lib.hid (HHA.out false d5)
                clear hta
                go_wp2
                refine wp_region_after mixed (by kernel_rfl) ?_
                repeat (first | go_big_quiet_step ((with_reducible exact calls_after_same (HH8.out _))) | quiet_step ((with_reducible exact calls_after_same (HH8.out _))))
                refine wpQuiet_nil ?_
                intro _ hw'
                obtain ⟨pq, hw''⟩ := hw'
                subst hw''
                have HQ := Lib.hid (show Below w7.heap.size w7 pq.x from chain HB8.out pq.ok)
                generalize pq.x = wq at HQ ⊢
                go_wp2
                go_roundw
                case rel => exact ⟨h + 1, by omega, by go_num, HQ.out⟩
                case measure => simp [intOf]; omega
            · obtain rfl : L = h := by omega
              go_wp2_with fail
              refine (HAW.out _ HPH.out).mono ?_
              rintro e w2 ⟨rfl, b2⟩
              go_wp2
              go_ret
              exact ⟨rfl, b2⟩

theorem walk (x : Int × Int × Int × Int) (A : Option Addr) (l : List Int) (c : Nat) (y : Int × Int × Int × Int) (_ : (Lit.int .i64 x.1).wf = true) (_ : (Lit.int .i64 x.2.1).wf = true) (_ : (Lit.int .i64 x.2.2.1).wf = true) (_ : (Lit.int .u64 x.2.2.2).wf = true) (hr : (Lit.int .u64 y.1).wf = true) (_ : (Lit.int .i64 y.2.1).wf = true) (_ : (Lit.int .u64 y.2.2.1).wf = true) (_ : (Lit.int .i64 y.2.2.2).wf = true) (w : World)
    (hR : Row w w.heap.size A (flat (encZ .u64) l)) (hl : l.length ≤ maxLen) (hw : ∀ z ∈ l, (Lit.int .u64 z).wf = true) (_ : True) :
    Calls Tryz.prog 3 #[.agg #[.int .i64 x.1, .int .i64 x.2.1, .int .i64 x.2.2.1, .int .u64 x.2.2.2], .slice A l.length c, .agg #[.int .u64 y.1, .int .i64 y.2.1, .int .u64 y.2.2.1, .int .i64 y.2.2.2]] w fun e w' => e = .returned (.bool true) ∧ Below w.heap.size w w' := by
  obtain ⟨T, N, L, G⟩ := x
  obtain ⟨r, dl, sq, tall⟩ := y
  exact walk_any T N L G r dl sq tall A l c w hR hl (fun z hz => wf_u64 (hw z hz)) (wf_u64 hr)
theorem laidOut : laidOutB Tryz.prog = true := by kernel_rfl
theorem own : ownKnob Tryz.prog.godebug = none := by kernel_rfl
theorem door_met (os : Os) (args : Array Value) : laidMetH Tryz.prog Rows.liftComesRow.laid ((World.doorLaid Tryz.prog 400 os).forCall (fun _ _ => 0) ⟨#[], args, []⟩).memory :=
  laidMetH_of_parts3 (fuel := 8) (laidMet_of_run' 8 (by kernel_rfl) (by kernel_rfl)) (by kernel_rfl) (by kernel_rfl)
set_option maxRecDepth 100000 in
theorem lifted (os : Os) (started : os.Started) (H : Type) (enc : TypeId × Value → H) :
    ReturnsInHanded {} Tryz.checked os 3 .any (fun w args => (Rows.liftComesSpec.pre enc Tryz.prog Tryz.f3 [] false w args ∧ laidMetH Tryz.prog Rows.liftComesRow.laid w) ∧ sizedMet enc Tryz.prog Tryz.f3 (OpenSpec.ofChange Rows.liftComesSpec) false w args) (Rows.liftComesSpec.post enc Tryz.prog Tryz.f3 false true false false) := by
  refine Frame.liftedLaid (C := Tryz.checked) (fn := Tryz.f3) (tb := 4) own started (by kernel_rfl) Tryz.func3
    (ChangeSpec.witness_shaped (enc := enc) (C := Tryz.checked) (os := os) (X := fun w _ => laidMetH Tryz.prog Rows.liftComesRow.laid w) false (World.doorLaid Tryz.prog 400 os) #[.agg #[.int .i64 0, .int .i64 0, .int .i64 0, .int .u64 0], .slice none 0 0, .agg #[.int .u64 0, .int .i64 0, .int .u64 0, .int .i64 0]] 8 rfl (World.shaped_of_RefB (by kernel_rfl) (by kernel_rfl)) (by kernel_rfl) (by kernel_rfl) (by kernel_rfl) (door_met os _))
    rfl rfl Tryz.underlying4 laidOut (by kernel_rfl) (fun ds h => by match ds, h with | [_, _, _], _ => rfl) ?_
  intro W base args ds ps hval0 hA0 hlt hL
  have hval : ∀ (j : Nat) t v, Tryz.f3.params[j]? = some t → args[j]? = some v → Value.okWide Tryz.prog W .any base t v := hval0
  have hA : DataW.TrodAll enc Tryz.prog W 0 (fun _ => true) true Tryz.f3.params.toList args.toList ds ps := hA0
  rw [Tryz.params3] at hA hval
  obtain ⟨v0, vs0, d0, ds0, p0, q0, hargs, rfl, rfl, h0, r0⟩ := trodAll_cons hA
  obtain ⟨v1, vs1, d1, ds1, p1, q1, rfl, rfl, rfl, h1, r1⟩ := trodAll_cons r0
  obtain ⟨v2, vs2, d2, ds2, p2, q2, rfl, rfl, rfl, h2, r2⟩ := trodAll_cons r1
  obtain ⟨rfl, rfl, rfl⟩ := trodAll_nil r2
  obtain rfl : args = #[v0, v1, v2] := by cases args; simp_all
  obtain ⟨x0, rfl, w0_0, w0_1, w0_2, w0_3⟩ := Open.open_four_ints Tryz.underlying24 (by kernel_rfl) (by kernel_rfl) Tryz.underlying3 Tryz.underlying3 Tryz.underlying3 Tryz.underlying22 (hval 0 24 v0 rfl rfl) h0
  obtain ⟨A1, x1, c1, rfl, b1, m1, R1, g1⟩ := Open.open_rows (k := 1) (Ints.encZ .u64) (fun x => (Lit.int .u64 x).wf = true) Tryz.underlying25 (by kernel_rfl) (by decide) (Ints.encZ_length _) (fun n cs y h hl => Ints.one_int Tryz.underlying22 n cs y h hl) (hval 1 25 v1 rfl rfl) h1
  obtain ⟨x2, rfl, w2_0, w2_1, w2_2, w2_3⟩ := Open.open_nest Tryz.underlying29 rfl rfl rfl (by kernel_rfl) (by kernel_rfl) (by kernel_rfl) (by kernel_rfl) Tryz.underlying27 (by kernel_rfl) Tryz.underlying22 Tryz.underlying3 Tryz.underlying22 Tryz.underlying3 (hval 2 29 v2 rfl rfl) h2
  refine (walk x0 A1 x1 c1 x2 w0_0 w0_1 w0_2 w0_3 w2_0 w2_1 w2_2 w2_3 W R1 (Nat.le_trans b1 m1) g1 (held hL)).mono fun e W' h => ?_
  exact h

theorem over : Rows.liftComesRow.holds Tryz.pinned (OpenSpec.ofChange Rows.liftComesSpec) :=
  OpenClaim.holds_of_wide 3 Tryz.f3 rfl rfl rfl rfl rfl rfl rfl ⟨rfl, rfl, rfl, rfl, rfl⟩ rfl rfl rfl rfl rfl (by kernel_rfl) Tryz.func3 (by kernel_rfl)
    (of_decide_eq_true (by kernel_rfl)) (by unfold Func.isWrapper; first | (rw [if_pos (by decide +kernel)]; kernel_rfl) | (rw [if_neg (by decide +kernel)]; exact ⟨rfl, rfl⟩))
    (fun os started H enc _ => lifted os started H enc)

theorem proved : Rows.LiftComesCardSaid :=
  Claim7.holds_tied_plain_at .later [] Rows.liftComesCard.laidKinds true Rows.liftComesCard.stood.harness Rows.liftComesCard.stood.looks
    over (fun _ h => by cases h) (by kernel_rfl) (fun _ h => by cases h) liftComes_row_tie rfl ⟨rfl, rfl⟩ (by kernel_rfl) rfl
    (fun f fn hf hfn => by
      obtain rfl : f = 3 := Option.some.inj ((show Tryz.prog.funcNamed Rows.liftComesRow.func = some 3 by kernel_rfl).symm.trans hf) |>.symm
      obtain rfl : fn = Tryz.f3 := (Option.some.inj (Tryz.func3.symm.trans hfn)).symm
      exact ⟨by kernel_rfl, fun j t ht => by
        rw [Tryz.params3] at ht
        have hm : t ∈ [24, 25, 29] := by simpa using Array.mem_of_getElem? ht
        have hall : ([24, 25, 29].all fun u => !Tryz.prog.wantsStandIn u) = true := by kernel_rfl
        exact (show Tryz.prog.wantsStandIn t = false by simpa using List.all_eq_true.1 hall t hm)⟩)
    (by kernel_rfl)
#print axioms proved
end Go.Proofs.YtchpahkjgpcdjaaGreatDoor.LiftComes
