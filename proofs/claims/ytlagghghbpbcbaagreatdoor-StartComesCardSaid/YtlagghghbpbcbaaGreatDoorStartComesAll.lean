import Derived.Test.YtlagghghbpbcbaaGreatDoorStartComesAllP40
import Derived.Test.YtlagghghbpbcbaaGreatDoorStartComesAllP36
import Derived.Test.YtlagghghbpbcbaaGreatDoorStartComesAllP29
import Derived.Test.YtlagghghbpbcbaaGreatDoorStartComesAllP35
import Derived.Test.YtlagghghbpbcbaaGreatDoorStartComesAllP6
import Derived.Test.YtlagghghbpbcbaaGreatDoorStartComesAllP8
import Derived.Laws.Bits64b
import Derived.Test.YtlagghghbpbcbaaGreatDoorStartComesAllP21
import Derived.Test.YtlagghghbpbcbaaGreatDoorStartComesAllP34
import Derived.Test.YtlagghghbpbcbaaGreatDoorTie
import Derived.Test.YtlagghghbpbcbaaGreatDoorCards
/- StartComes: for every plan, every list of words, every thread and call, where the document calls the chains that the words tell right, the thread is one of the plan's, the deadline is in its bounds, the free slots are in no chain and the number of the next start is above all that are in one: a start that is done alone to a memory of these words is done soon; with a free slot the timer is live then, in the lowest chain, without a mark, with its deadline and that number, its handle is the slot's and its generation's, and all others without a mark are there as they were; with none no word is turned, but for the thread's Pin, and the answer is that it is full (else just the chapter's example is asked); and that example comes out; the arguments read as they did. Condition: the library's listed tables hold what its own text lays in them (tied by the card). -/
namespace Go.Proofs.YtlagghghbpbcbaaGreatDoor.StartComes
set_option maxRecDepth 20000
open Go.ChangeShapes Go.WideShapes Go.ChangeAt Go.RowKit CM DM PM KM MM Runs Lay Plan Ints
open Go.Proofs.YtlagghghbpbcbaaGreatDoor.Cells (Mem Does Of_any Words_any)
open Go.Proofs.YtlagghghbpbcbaaGreatDoor.SeekRef (Good_dec Kept_any Key_any right_nat kept_few kept_refs)
open Go.Proofs.YtlagghghbpbcbaaGreatDoor.Law31 (awake_any wf_u64 wf_i64 ba_b)
open Go.Proofs.YtlagghghbpbcbaaGreatDoor.StartApart (Apart Found apart_any differs_same)
open Go.Proofs.YtlagghghbpbcbaaGreatDoor.StartAlone (alone_any)
open Go.Proofs.YtlagghghbpbcbaaGreatDoor.Srt (Starts Start_any Answer_any ansS)
open BM (freeL)
open LM (Ls lenL addL R2 noL)
set_option linter.unusedVariables false
set_option linter.unusedSimpArgs false
theorem held {W : World} (h : laidMetH Tryz.prog Rows.startComesRow.laid W) : True := trivial
/-- Two keys compared. -/
theorem eqlK (x1 x2 y1 y2 : Int) (w : World) : (binOp .eql 58 (.agg #[.int .i64 x1, .int .u64 x2]) (.agg #[.int .i64 y1, .int .u64 y2])).run Tryz.prog w = .ok (.bool (decide (x1 = y1 ∧ x2 = y2))) w := by
  have u3 := Tryz.underlying3
  have a3 := Tryz.isAgg3
  have z3 := Tryz.sizeOf3
  have u4 := Tryz.underlying22
  have a4 := Tryz.isAgg22
  have z4 := Tryz.sizeOf22
  have hS : Tryz.prog.underlying 58 = some (.struct (Tryz.prog.fieldsOf 58)) := by kernel_rfl
  have hp : Tryz.prog.stoodInHeld 58 = false := by kernel_rfl
  rw [run_eql_struct, show (10000 : Nat) = 9999 + 1 from rfl, run_equalIn_agg w 9999 58 _ _ hS hp]
  simp only [Program.fieldsOf, Tryz.underlying58]
  go_simp
  by_cases h1 : x1 = y1 <;> by_cases h2 : x2 = y2 <;> simp [h1, h2]
theorem guardK : Tryz.prog.eqGuardType Tryz.prog.depth 58 = false := by kernel_rfl
theorem Late_is {dl : Int} {b : Bool} (h : (decide (dl < 0) || decide (1152921504606846976 < dl)) = b) (w : World) : Calls Tryz.prog 6 #[.int .i64 dl] w fun e w' => e = .returned (.bool b) ∧ w = w' := by
  by_cases h1 : dl < 0
  · have d1 : decide (dl < 0) = true := decide_eq_true h1
    rw [d1, Bool.true_or] at h
    subst h
    clear h1
    go_enter Tryz.func6, Tryz.ntmps6
    go_wp2
    go_ret
    exact ⟨rfl, rfl⟩
  · have d1 : decide (dl < 0) = false := decide_eq_false h1
    rw [d1, Bool.false_or] at h
    clear h1
    go_enter Tryz.func6, Tryz.ntmps6
    go_wp2
    go_ret
    exact ⟨by subst h; rfl, rfl⟩
/-- What the start comes to. -/
def Came (T N L : Nat) (l m : List Int) (th : Nat) (dl : Int) (sf : SrM.St) (F : List Int) : Prop :=
  (F = [] ∧ sf.err = 3 ∧ setI m (4 + th : Nat) (getI l (4 + th : Nat)) = l) ∨ ∃ (i : Int) (rest : List Int) (g r : Int), F = i :: rest ∧ g = getI l (atI T L i 0) / 4294967296 ∧ r = RM.ofI g i ∧ sf.err = 0 ∧ sf.hd = WaM.handI r ∧ (0 ≤ r ∧ r < 18446744073709551616) ∧ idx r = i ∧ r / 4294967296 = g ∧
    (∃ A B, keptL T L N m ((0 : Nat) : Int) = A ++ r :: B ∧ keptL T L N l ((0 : Nat) : Int) = A ++ B ∧ r ∉ A ∧ r ∉ B) ∧ keyI T L m r = (dl, getI l 2) ∧ getI m (atI T L i 0) = SM.stI g 2 ∧ getI m 2 = getI l 2 + 1 ∧ 1 ≤ i ∧ i ≤ (N : Int)
theorem came {T N L : Nat} {l : List Int} {th : Nat} {dl dr : Int} (hT : T ≤ 8) (hN : N ≤ 64) (hL : L ≤ 8) (hL1 : 1 ≤ L) (hlen : l.length = wordsN T N L) (hf : BM.Fits l) (hg : GoodW T L N l) (hth : th < T) (hd : 0 ≤ dl ∧ dl ≤ 1152921504606846976) (ha : Apart T N L l) :
    ∃ K m sf, K ≤ 4000 ∧ steps (SrM.stA T L (IntKind.u64.wrap dl) (IntKind.u64.wrap (DM.heightI dr L))) (SrM.stT T L th dl (IntKind.u64.wrap dl) (IntKind.u64.wrap (DM.heightI dr L)) (DM.heightI dr L)) K l (SrM.new T th) = some (m, sf) ∧
      SrM.stA T L (IntKind.u64.wrap dl) (IntKind.u64.wrap (DM.heightI dr L)) sf = none ∧ m.length = l.length ∧ Came T N L l m th dl sf (freeL T N L l) := by
  have hp := StaM.pin_nat hT hth
  cases hF : freeL T N L l with
  | nil =>
    obtain ⟨sf, k1, k2, k3, k4⟩ := SrM.full_start (T := T) (L := L) (l := l) (th := th) (dl := dl) (dw := IntKind.u64.wrap dl) (tw := IntKind.u64.wrap (DM.heightI dr L)) (tall := DM.heightI dr L) hT hth (ha.1 hF)
    rw [hp] at k4
    refine ⟨4, _, sf, by omega, k1, k2, by rw [setI_length], .inl ⟨rfl, k3, ?_⟩⟩
    rw [hp]
    exact k4
  | cons i rest =>
    obtain ⟨g, r, e1, e2, K, m, sf, k1, k2, k3, k4, k5, k6, k7, k8, k9, k10, k11, k12, k13, k14, k15, k16, k17⟩ := StC.comes_run (dr := dr) hT hN hL hL1 hlen hf hg hth hd hF ha.2.1 ha.2.2
    exact ⟨K, m, sf, k1, k2, k3, k7, .inr ⟨i, rest, g, r, rfl, e1, e2, k4, k6, k9, k10, k11, k12, k13, k14, k15, k16, k17⟩⟩
theorem boxes_start {w w2 : World} {T N L G th kd dl dr hh cn : Int} {V : Value} (h : Below (w.alloc (.cells #[.int .i64 T, .int .i64 N, .int .i64 L, .int .u64 G, .int .i64 th, .int .i64 kd, .int .i64 dl, .int .u64 dr, .int .u64 hh, .int .i64 cn, V] 29)).heap.size (w.alloc (.cells #[.int .i64 T, .int .i64 N, .int .i64 L, .int .u64 G, .int .i64 th, .int .i64 kd, .int .i64 dl, .int .u64 dr, .int .u64 hh, .int .i64 cn, V] 29)) w2) : Below w.heap.size w (w2.alloc (.cells #[.int .i64 T, .int .i64 N, .int .i64 L, .int .u64 G] 24)) ∧ ∀ W, Below (w2.alloc (.cells #[.int .i64 T, .int .i64 N, .int .i64 L, .int .u64 G] 24)).heap.size (w2.alloc (.cells #[.int .i64 T, .int .i64 N, .int .i64 L, .int .u64 G] 24)) W → W.cell? ⟨w2.heap.size, 0, none⟩ = some (.int .i64 T) ∧ W.cell? ⟨w2.heap.size, 1, none⟩ = some (.int .i64 N) ∧ W.cell? ⟨w2.heap.size, 2, none⟩ = some (.int .i64 L) ∧ W.cell? ⟨w2.heap.size, 3, none⟩ = some (.int .u64 G) ∧ W.cell? ⟨w.heap.size, 4, none⟩ = some (.int .i64 th) ∧ W.cell? ⟨w.heap.size, 5, none⟩ = some (.int .i64 kd) ∧ W.cell? ⟨w.heap.size, 6, none⟩ = some (.int .i64 dl) ∧ W.cell? ⟨w.heap.size, 7, none⟩ = some (.int .u64 dr) ∧ W.cell? ⟨w.heap.size, 8, none⟩ = some (.int .u64 hh) ∧ W.cell? ⟨w.heap.size, 9, none⟩ = some (.int .i64 cn) := by
  refine ⟨((box_below w _).trans (h.mono (by simp))).trans ((box_below _ _).mono (by have := h.size; simp only [World.size_alloc] at this; omega)), fun W hb => ?_⟩
  have g5 := (only_below (fun _ => False) hb).heap (new_heap w2 (.cells #[.int .i64 T, .int .i64 N, .int .i64 L, .int .u64 G] 24)) id
  have g2 := (only_below (fun _ => False) hb).heap ((only_below (fun _ => False) (box_below w2 (.cells #[.int .i64 T, .int .i64 N, .int .i64 L, .int .u64 G] 24))).heap ((only_below (fun _ => False) h).heap (new_heap w (.cells #[.int .i64 T, .int .i64 N, .int .i64 L, .int .u64 G, .int .i64 th, .int .i64 kd, .int .i64 dl, .int .u64 dr, .int .u64 hh, .int .i64 cn, V] 29)) id) id) id
  exact ⟨(cell_heap g5 0).1, (cell_heap g5 1).1, (cell_heap g5 2).1, (cell_heap g5 3).1, (cell_heap g2 4).1, (cell_heap g2 5).1, (cell_heap g2 6).1, (cell_heap g2 7).1, (cell_heap g2 8).1, (cell_heap g2 9).1⟩
theorem cells_start {w W : World} {T N L G th kd dl dr hh cn : Int} {V : Value} (h : Below (w.alloc (.cells #[.int .i64 T, .int .i64 N, .int .i64 L, .int .u64 G, .int .i64 th, .int .i64 kd, .int .i64 dl, .int .u64 dr, .int .u64 hh, .int .i64 cn, V] 29)).heap.size (w.alloc (.cells #[.int .i64 T, .int .i64 N, .int .i64 L, .int .u64 G, .int .i64 th, .int .i64 kd, .int .i64 dl, .int .u64 dr, .int .u64 hh, .int .i64 cn, V] 29)) W) : W.cell? ⟨w.heap.size, 0, none⟩ = some (.int .i64 T) ∧ W.cell? ⟨w.heap.size, 1, none⟩ = some (.int .i64 N) ∧ W.cell? ⟨w.heap.size, 2, none⟩ = some (.int .i64 L) ∧ W.cell? ⟨w.heap.size, 3, none⟩ = some (.int .u64 G) := by
  have g2 := (only_below (fun _ => False) h).heap (new_heap w (.cells #[.int .i64 T, .int .i64 N, .int .i64 L, .int .u64 G, .int .i64 th, .int .i64 kd, .int .i64 dl, .int .u64 dr, .int .u64 hh, .int .i64 cn, V] 29)) id
  exact ⟨(cell_heap g2 0).1, (cell_heap g2 1).1, (cell_heap g2 2).1, (cell_heap g2 3).1⟩
theorem not_words {w : World} {p h n o : Nat} {l : List Int} {x : Int} (hM : Mem w p h n l) (hc : w.cell? ⟨h, o, none⟩ = some (.int .i64 x)) : False := by
  by_cases ho : o < n
  · rw [(hM.word ho).1] at hc
    simp at hc
  · have hw := own_whole hM.own
    have hs : (flat (encZ .u64) l).toArray.size ≤ o := by have := hM.len; simp [flat_length (encZ_length .u64)]; omega
    have := (cell_heap hw o).1
    rw [this, Array.getElem?_eq_none (by simpa using hs)] at hc
    cases hc
theorem splice {A B : List Int} {r : Int} (h1 : r ∉ A) (h2 : r ∉ B) : (∀ k, k < (A ++ r :: B).length → ∃ y, (A ++ r :: B)[k]? = some y ∧ (y = r ↔ k = A.length)) ∧ ∀ k, k < (A ++ B).length → ∃ y, (A ++ B)[k]? = some y ∧ (k < A.length → (A ++ r :: B)[k]? = some y) ∧ (¬ k < A.length → (A ++ r :: B)[k + 1]? = some y) := by
  refine ⟨fun k hk => ?_, fun k hk => ?_⟩
  · by_cases h : k < A.length
    · refine ⟨A[k], by rw [List.getElem?_append_left h, List.getElem?_eq_getElem h], ⟨fun e => absurd (e ▸ List.getElem_mem h) h1, fun e => by omega⟩⟩
    · by_cases h3 : k = A.length
      · exact ⟨r, by rw [h3]; simp, ⟨fun _ => h3, fun _ => rfl⟩⟩
      · obtain ⟨j, hj⟩ : ∃ j, k = A.length + (j + 1) := ⟨k - A.length - 1, by omega⟩
        have hj2 : j < B.length := by simp at hk; omega
        refine ⟨B[j], ?_, ⟨fun e => absurd (e ▸ List.getElem_mem hj2) h2, fun e => by omega⟩⟩
        rw [hj, List.getElem?_append_right (by omega), show A.length + (j + 1) - A.length = j + 1 by omega, List.getElem?_cons_succ, List.getElem?_eq_getElem hj2]
  · refine ⟨(A ++ B)[k], List.getElem?_eq_getElem hk, fun h => ?_, fun h => ?_⟩
    · rw [List.getElem?_append_left h, List.getElem?_eq_getElem h, List.getElem_append_left h]
    · rw [List.getElem?_append_right (by omega), show k + 1 - A.length = (k - A.length) + 1 by omega, List.getElem?_cons_succ, ← List.getElem?_append_right (by omega), List.getElem?_eq_getElem hk]
theorem hand_or {g : Int} {ii : Nat} (hg : 0 ≤ g ∧ g ≤ 4294967295) (hi : ii ≤ 64) : bits .or .u64 (IntKind.u64.wrap (ii : Int)) (IntKind.u64.wrap (g * 4294967296)) = g * 4294967296 + (ii : Int) := by
  obtain ⟨a, rfl⟩ : ∃ a : Nat, g = a := ⟨g.toNat, by omega⟩
  rw [show IntKind.u64.wrap (ii : Int) = (ii : Int) by rw [IntKind.wrap_u64]; omega, show IntKind.u64.wrap ((a : Int) * 4294967296) = ((a * 4294967296 : Nat) : Int) by rw [IntKind.wrap_u64]; omega, bits_or_u64_nat _ _ (by omega) (by omega)]
  have h := Nat.shiftLeft_add_eq_or_of_lt (b := ii) (i := 32) (by omega) a
  rw [Nat.shiftLeft_eq, Nat.or_comm] at h
  have h2 : ii ||| a * 4294967296 = a * 4294967296 + ii := h.symm
  rw [h2]
  omega

set_option maxHeartbeats 8000000 in
theorem walk_any (T N L G th kd dl dr hh cn : Int) (V : Value) (A : Option Addr) (l : List Int) (c : Nat) (w : World) (hR : Row w w.heap.size A (flat (encZ .u64) l)) (hl : l.length ≤ maxLen) (hf : BM.Fits l) (hdr : 0 ≤ dr ∧ dr < 18446744073709551616) :
    Calls Tryz.prog 3 #[.agg #[.int .i64 T, .int .i64 N, .int .i64 L, .int .u64 G, .int .i64 th, .int .i64 kd, .int .i64 dl, .int .u64 dr, .int .u64 hh, .int .i64 cn, V], .slice A l.length c] w fun e w' => e = .returned (.bool true) ∧ Below w.heap.size w w' := by
  obtain ⟨n, hn⟩ : ∃ n, n = l.length := ⟨_, rfl⟩
  rw [← hn] at hl ⊢
  have HN := Lib.hid hn
  have HF := Lib.hid hf
  have HAW := Lib.hid (fun W => awake_any W)
  obtain ⟨b, hb, hgd⟩ := Good_dec hn hl hf T N L G
  have HBB := Lib.hid hb
  have HGD := Lib.hid hgd
  have HR := Lib.hid hR
  have HDR := Lib.hid hdr
  unfold maxLen at hl
  have HLM := Lib.hid hl
  clear hn hf hb hgd hR hdr hl
  obtain ⟨c_0, c_1, c_2, c_3⟩ := cells_start (Below.refl _ (w.alloc (.cells #[.int .i64 T, .int .i64 N, .int .i64 L, .int .u64 G, .int .i64 th, .int .i64 kd, .int .i64 dl, .int .u64 dr, .int .u64 hh, .int .i64 cn, V] 29)))
  go_enter Tryz.func3, Tryz.ntmps3
  go_wp2_with fail
  refine (HAW.out _).mono ?_
  rintro e w2 ⟨rfl, b2⟩
  have H2 := Lib.hid (boxes_start b2)
  clear c_0 c_1 c_2 c_3
  obtain ⟨c_0, c_1, c_2, c_3⟩ := cells_start b2
  clear b2
  go_upto_region 4 with fail
  clear c_0 c_1 c_2 c_3
  generalize w2.alloc (.cells #[.int .i64 T, .int .i64 N, .int .i64 L, .int .u64 G] 24) = w3 at H2 ⊢
  have HBX := Lib.hid (H2.out.2)
  have HPW := Lib.hid (show ∀ W, Below w3.heap.size w3 W → Below w.heap.size w W from fun W h => ba_b H2.out.1 h)
  have HROW := Lib.hid (show ∀ W, Below w3.heap.size w3 W → Row W W.heap.size A (flat (encZ .u64) l) from fun W h => HR.out.later (HPW.out W h))
  have HB3 := Lib.hid (Below.refl w3.heap.size w3)
  clear H2 HR
  obtain ⟨c_0, c_1, c_2, c_3, c_4, c_5, c_6, c_7, c_8, c_9⟩ := HBX.out _ HB3.out
  go_wp2_with fail
  refine (HGD.out _ _ _ (HROW.out _ HB3.out)).mono ?_
  rintro e w4 ⟨rfl, b4⟩
  have HB4 := Lib.hid (ba_b HB3.out b4)
  clear b4 HB3 c_0 c_1 c_2 c_3 c_4 c_5 c_6 c_7 c_8 c_9
  obtain ⟨c_0, c_1, c_2, c_3, c_4, c_5, c_6, c_7, c_8, c_9⟩ := HBX.out _ HB4.out
  cases b with
  | false =>
    go_wp2_with fail
    refine (HAW.out _).mono ?_
    rintro e w9 ⟨rfl, b9⟩
    go_wp2
    go_ret
    exact ⟨rfl, HPW.out _ (ba_b HB4.out b9)⟩
  | true =>
    by_cases h1 : th < 0
    · have d1 : decide (th < 0) = true := decide_eq_true h1
      go_wp2_with fail
      refine (HAW.out _).mono ?_
      rintro e w9 ⟨rfl, b9⟩
      go_wp2
      go_ret
      exact ⟨rfl, HPW.out _ (ba_b HB4.out b9)⟩
    have d1 : decide (th < 0) = false := decide_eq_false h1
    by_cases h2 : T ≤ th
    · have d2 : decide (T ≤ th) = true := decide_eq_true h2
      go_wp2_with fail
      refine (HAW.out _).mono ?_
      rintro e w9 ⟨rfl, b9⟩
      go_wp2
      go_ret
      exact ⟨rfl, HPW.out _ (ba_b HB4.out b9)⟩
    have d2 : decide (T ≤ th) = false := decide_eq_false h2
    cases h3 : (decide (dl < 0) || decide (1152921504606846976 < dl)) with
    | true =>
      have HLT := Lib.hid (fun W => Late_is h3 W)
      clear h3
      go_wp2_with fail
      refine (HLT.out _).mono ?_
      rintro e w' ⟨rfl, rfl⟩
      go_wp2_with fail
      refine (HAW.out _).mono ?_
      rintro e w9 ⟨rfl, b9⟩
      go_wp2
      go_ret
      exact ⟨rfl, HPW.out _ (ba_b HB4.out b9)⟩
    | false =>
      have HLT := Lib.hid (fun W => Late_is h3 W)
      have HDL := Lib.hid (show 0 ≤ dl ∧ dl ≤ 1152921504606846976 from by simp at h3; omega)
      clear h3
      obtain ⟨T, N, L, rfl, rfl, rfl, hright, hlen, hg⟩ := HBB.out rfl
      obtain ⟨t, rfl⟩ : ∃ t : Nat, th = t := ⟨th.toNat, by omega⟩
      have HTH := Lib.hid (show t < T from by omega)
      have HAP := Lib.hid (fun W (h : Row W W.heap.size A (flat (encZ .u64) l)) => apart_any hright (c := c) HN.out hlen HF.out h)
      have HG := Lib.hid (And.intro hright (And.intro hlen hg))
      clear h1 h2 hright hlen hg HBB HGD
      go_wp2_with fail
      refine (HLT.out _).mono ?_
      rintro e w' ⟨rfl, rfl⟩
      go_wp2_with fail
      refine (HAP.out _ (HROW.out _ HB4.out)).mono ?_
      rintro e w5 ⟨b, rfl, b5, hap⟩
      have HB5 := Lib.hid (ba_b HB4.out b5)
      have HAPB := Lib.hid hap
      clear b5 hap HB4 HAP HLT d1 d2 c_0 c_1 c_2 c_3 c_4 c_5 c_6 c_7 c_8 c_9
      obtain ⟨c_0, c_1, c_2, c_3, c_4, c_5, c_6, c_7, c_8, c_9⟩ := HBX.out _ HB5.out
      cases b with
      | false =>
        go_wp2_with fail
        refine (HAW.out _).mono ?_
        rintro e w9 ⟨rfl, b9⟩
        go_wp2
        go_ret
        exact ⟨rfl, HPW.out _ (ba_b HB5.out b9)⟩
      | true =>
        have hg := HG.out.2.2
        obtain ⟨t1, t8, s1, s64, l1, l8⟩ := right_nat HG.out.1
        obtain ⟨K, m, sf, k1, k2, k3, k4, k5⟩ := came (dr := dr) t8 s64 l8 l1 HG.out.2.1 HF.out hg HTH.out HDL.out (HAPB.out rfl)
        have hn4 : n ≤ 4096 := by rw [HN.out, HG.out.2.1]; exact words_small (by omega) (by omega) (by omega)
        have hn5 : 4 + T ≤ n := by rw [HN.out, HG.out.2.1]; unfold wordsN; omega
        have HNN := Lib.hid (And.intro hn4 (And.intro hn5 (And.intro t1 (And.intro t8 (And.intro s1 (And.intro s64 (And.intro l1 l8)))))))
        have HFR := Lib.hid (fun pc h W (hM : Mem W pc h n l) => Blank.Free_yes HG.out.1 hM HF.out)
        have HFL := Lib.hid (show (freeL T N L l).length ≤ 64 from Nat.le_trans (BM.free_length T N L l) s64)
        have HOF := Lib.hid (show ∀ W, Below w3.heap.size w3 W → Calls Tryz.prog 8 #[.slice A n c] W fun e w' => ∃ p h, e = .returned (.tuple #[.pointer (some ⟨p, 0, none⟩), .int .i64 0]) ∧ Cells.Makes W n l w' p h from fun W h => Of_any (HROW.out W h) HN.out hn4)
        have HLN := Lib.hid (fun W : World => Limbo.New_any W)
        have HST := Lib.hid (fun (W : World) (q : Nat) (SL : Nat → Prop) (hl : Limbo.Lim W q SL noL) => Start_any (T := T) (N := N) (L := L) (G := G) (th := t) (kd := kd) (dl := dl) (dr := dr) (hh := hh) (cn := cn) ⟨by omega, by omega⟩ ⟨by omega, by omega⟩ HDR.out HDL.out hl (by decide))
        have HAL := Lib.hid (fun (W : World) (pc hc q p : Nat) (S : Nat → Prop) (hM : Mem W pc hc n l) (hs : Starts W p S T N L G t kd dl dr hh cn q 0 noL (SrM.new T t)) (e1 : ¬ S pc) (e2 : ¬ S hc) => alone_any k1 k2 k3 HF.out hM hs e1 e2)
        have HCM := Lib.hid k5
        have HSD0 := Lib.hid (And.intro k3 k4)
        clear hg t1 t8 s1 s64 l1 l8 k1 k2 k3 k4 k5 hn4 hn5 HAPB HDR
        generalize freeL (T : Int) N (L : Int) l = FR at HFR HFL HCM
        go_wp2_with fail
        refine (HOF.out _ HB5.out).mono ?_
        rintro e w6 ⟨pc, hc, rfl, m6, p6, h6, b6⟩
        have HB6 := Lib.hid (ba_b HB5.out b6)
        have HM6 := Lib.hid m6
        have HPC := Lib.hid (show w3.heap.size ≤ pc ∧ w3.heap.size ≤ hc from by have := HB5.out.size; omega)
        clear m6 p6 h6 b6 c_0 c_1 c_2 c_3 c_4 c_5 c_6 c_7 c_8 c_9 HOF HB5
        obtain ⟨c_0, c_1, c_2, c_3, c_4, c_5, c_6, c_7, c_8, c_9⟩ := HBX.out _ HB6.out
        go_wp2_with fail
        refine (HFR.out _ _ _ HM6.out).mono ?_
        rintro e w7 ⟨A7, c7, rfl, r7, b7⟩
        have HB7 := Lib.hid (ba_b HB6.out b7)
        have HM7 := Lib.hid (HM6.out.later b7)
        have HR7 := Lib.hid r7
        clear r7 b7 c_0 c_1 c_2 c_3 c_4 c_5 c_6 c_7 c_8 c_9 HB6 HM6 HFR
        obtain ⟨n7, hn7⟩ : ∃ n7, FR.length = n7 := ⟨_, rfl⟩
        rw [hn7]
        have HL7 := Lib.hid hn7
        clear hn7
        have HD7 := Lib.hid (show Below w3.heap.size w3 w7.drew from HB7.out.drew)
        go_upto_region 8 with fail
        go_region_held3 (fun W => W.cell? ⟨w2.heap.size, 0, none⟩ = some (.int .i64 (T : Int)) ∧ W.cell? ⟨w2.heap.size, 1, none⟩ = some (.int .i64 (N : Int)) ∧ W.cell? ⟨w2.heap.size, 2, none⟩ = some (.int .i64 (L : Int)) ∧ W.cell? ⟨w2.heap.size, 3, none⟩ = some (.int .u64 G) ∧ W.cell? ⟨w.heap.size, 4, none⟩ = some (.int .i64 (t : Int)) ∧ W.cell? ⟨w.heap.size, 5, none⟩ = some (.int .i64 kd) ∧ W.cell? ⟨w.heap.size, 6, none⟩ = some (.int .i64 dl) ∧ W.cell? ⟨w.heap.size, 7, none⟩ = some (.int .u64 dr) ∧ W.cell? ⟨w.heap.size, 8, none⟩ = some (.int .u64 hh) ∧ W.cell? ⟨w.heap.size, 9, none⟩ = some (.int .i64 cn))
          ((first | (with_reducible exact HBX.out _ HD7.out) | (with_reducible assumption) | (with_reducible exact HBX.out _ HB8.out.2.2) | (with_reducible exact HBX.out _ HB9.out.1)))
          (first
            | (go_at_call 11; refine (HLN.out _).mono ?_; rintro e w8 ⟨ql, SL, rfl, g1, g2, g3⟩; have HB8 := Lib.hid (And.intro g1 (And.intro (show ∀ k, SL k → w7.heap.size ≤ k from fun k e => g2 k e) (ba_b HD7.out g3))); have HB78 := Lib.hid (show Below w7.heap.size w7 w8 from (Below.refl _ _).drew.trans g3); clear g1 g2 g3)
            | (go_at_call 10; refine (HST.out _ _ _ HB8.out.1).mono ?_; rintro e w9 ⟨p, S, rfl, g1, g2, g3⟩; have HB9 := Lib.hid (And.intro (show Below w3.heap.size w3 w9 from HB8.out.2.2.trans (g2.1.below (HB8.out.2.2.size) fun k e => Nat.le_trans HB7.out.size (HB8.out.2.1 k e))) (And.intro g1 g2)); clear g1 g2 g3))
        have HM9 := Lib.hid (show Mem w9 pc hc n l ∧ ¬ S pc ∧ ¬ S hc ∧ (∀ k, S k → w3.heap.size ≤ k) from by
          have hm8 := HM7.out.later HB78.out
          have hl := HM7.out.lt
          have k2 := HB9.out.2.2
          have z := HB78.out.size
          have hS : ∀ k, S k → w7.heap.size ≤ k := fun k e => (k2.2 k e).elim (HB8.out.2.1 k) fun e => by omega
          exact ⟨⟨hm8.1, hm8.2.1, hm8.2.2.1, k2.1.cell hm8.box (show ¬ SL pc from fun e => by have := HB8.out.2.1 pc e; omega), k2.1.own hm8.own (fun k e => by cases e; exact show ¬ SL hc from fun e => by have := HB8.out.2.1 hc e; omega)⟩, fun e => by have := hS _ e; omega, fun e => by have := hS _ e; omega, fun k e => Nat.le_trans HB7.out.size (hS k e)⟩)
        have HF9 := Lib.hid (show ∀ i rest, FR = i :: rest → ∃ b0 o0, A7 = some ⟨b0, o0, none⟩ ∧ w9.cell? ⟨b0, o0, none⟩ = some (.int .i64 i) ∧ b0 ≠ hc ∧ ¬ S b0 from fun i rest e => by
          have k2 := HB9.out.2.2
          have hS : ∀ k, S k → w7.heap.size ≤ k := fun k e => (k2.2 k e).elim (HB8.out.2.1 k) fun e => by have z := HB78.out.size; omega
          obtain ⟨b0, o0, ea, hlt, hc0⟩ := int_at HR7.out (show 0 < FR.length by rw [e]; simp)
          have q0 := hc0 0 i (by rw [e]; rfl)
          rw [Nat.add_zero] at q0
          have q9 := (HB9.out.2.2.1.below (B := w7.heap.size) HB78.out.size fun k e => HB8.out.2.1 k e)
          have q8 := cell_later HB78.out q0
          have q10 : w9.cell? ⟨b0, o0, none⟩ = some (.int .i64 i) := (HB9.out.2.2.1.cell q8 (show ¬ SL b0 from fun e => by have := HB8.out.2.1 _ e; omega))
          exact ⟨b0, o0, ea, q10, fun e => not_words HM9.out.1 (e ▸ q10), fun e => by have := hS _ e; omega⟩)
        have HLT9 := Lib.hid (show ∀ k, S k → k < w9.heap.size from HB9.out.2.1.own.2)
        have HC9 := Lib.hid (show pc < w9.heap.size ∧ hc < w9.heap.size from HM9.out.1.lt)
        have HAL9 := Lib.hid (HAL.out _ _ _ _ _ _ HM9.out.1 HB9.out.2.1 HM9.out.2.1 HM9.out.2.2.1)
        have HP9 := Lib.hid (And.intro HB9.out.1 (And.intro HM9.out.2.2.2 HPC.out.2))
        clear HM9 HM7 HR7 HB7 HD7 HB8 HB9 HB78 HAL HST HLN HPC
        go_wp2_with fail
        refine HAL9.out.mono ?_
        rintro e wa ⟨rfl, ma, fa, ⟨ka, Sa, lba, sa, hSa⟩, oa⟩
        have HBA := Lib.hid (show Below w3.heap.size w3 wa from HP9.out.1.trans (oa.below HP9.out.1.size fun k e => e.elim (fun e => e ▸ HP9.out.2.2) (HP9.out.2.1 k)))
        have HSA := Lib.hid sa
        have HFA := Lib.hid (And.intro fa (show ∀ k, Sa k → k < wa.heap.size from sa.own.2))
        have HMA := Lib.hid ma
        have HF9A := Lib.hid (show ∀ i rest, FR = i :: rest → ∃ b0 o0, A7 = some ⟨b0, o0, none⟩ ∧ wa.cell? ⟨b0, o0, none⟩ = some (.int .i64 i) from fun i rest e => by
          obtain ⟨b0, o0, e1, e2, e3, e4⟩ := HF9.out i rest e
          exact ⟨b0, o0, e1, oa.cell e2 (fun e => e.elim e3 e4), ⟩)
        clear ma fa sa hSa oa HF9 HLT9 HC9 HAL9 HP9
        have HW := Lib.hid (Words_any HMA.out)
        obtain ⟨bn, hbn⟩ : ∃ bn, bn = wa.heap.size := ⟨_, rfl⟩
        unfold Cells.Told at HW
        rw [← hbn] at HW
        have hne : ((n : Int) != (n : Int)) = false := by simp
        go_wp2_with fail
        refine HW.out.mono ?_
        rintro e wb ⟨rfl, ob, bb⟩
        rw [hbn] at bb
        have HBN := Lib.hid (show w3.heap.size ≤ bn ∧ ∀ k, Sa k → ¬ k = bn from ⟨by rw [hbn]; exact HBA.out.size, fun k e z => by have := HFA.out.2 k e; omega⟩)
        have HBB := Lib.hid (ba_b HBA.out bb)
        have HSB := Lib.hid (HSA.out.later bb)
        have HOB := Lib.hid ob
        have HF7 := Lib.hid (show ∀ i rest, FR = i :: rest → ∃ b0 o0, A7 = some ⟨b0, o0, none⟩ ∧ wb.cell? ⟨b0, o0, none⟩ = some (.int .i64 i) from fun i rest e => by
          obtain ⟨b0, o0, e1, e2⟩ := HF9A.out i rest e
          exact ⟨b0, o0, e1, cell_later bb e2⟩)
        have HML := Lib.hid (show n = m.length from HMA.out.len)
        have HFM := Lib.hid HFA.out.1
        clear ob bb hbn HW HF9A HMA HSA HBA HFA
        obtain ⟨bl, ol, eal, hrl⟩ : ∃ bl ol, A = some ⟨bl, ol, none⟩ ∧ ∀ W, Below w3.heap.size w3 W → ∀ j x, l[j]? = some x → W.cell? ⟨bl, ol + j, none⟩ = some (.int .u64 x) := by
          obtain ⟨bl, ol, e1, -, e3⟩ := int_at (HROW.out _ (Below.refl _ _)) (show 0 < l.length by have := HN.out; have := HNN.out.2.1; omega)
          exact ⟨bl, ol, e1, fun W h j x hj => cell_later h (e3 j x hj)⟩
        subst eal
        have HCL := Lib.hid hrl
        clear hrl
        go_upto_region 14 with fail
        rcases HCM.out with ⟨hF, hE, hset⟩ | ⟨i, rest, g, r, hF, hg, hr, hE, hH, hrw, hix, hrg, hkept, hkey, hst, h2, hi1, hiN⟩
        · have h7 : n7 = 0 := by rw [← HL7.out, hF]; rfl
          subst h7
          obtain ⟨pn, hpn⟩ : ∃ pn : Nat, pn = 4 + t := ⟨_, rfl⟩
          rw [← hpn] at hset
          have HPN := Lib.hid (show ofI (T : Int) 0 (t : Int) = (pn : Int) from by rw [hpn]; exact StaM.pin_nat HNN.out.2.2.2.1 HTH.out)
          have hpl : pn < n := by have := HNN.out.2.1; have := HTH.out; omega
          have hp1 : (pn : Int) < (n : Int) := by omega
          obtain ⟨x, hx⟩ : ∃ x, l[pn]? = some x := ⟨_, List.getElem?_eq_getElem (by have := HN.out; omega)⟩
          obtain ⟨y, hy⟩ : ∃ y, m[pn]? = some y := ⟨_, List.getElem?_eq_getElem (by have := HML.out; omega)⟩
          have HSET := Lib.hid (show m.set pn x = l from by rw [getI_some hx, setI_in (by have := HML.out; omega)] at hset; exact hset)
          have HXY := Lib.hid (And.intro hx hy)
          have HER := Lib.hid hE
          clear hset hpn hpl hx hy hE HF7 hF HCM
          have HX0 := Lib.hid (show Below wb.heap.size wb wb.drew from (Below.refl _ _).drew)
          have HX3 := HX0
          have HBY := Lib.hid (show ∀ W, Below w3.heap.size w3 W → (W.cell? ⟨w2.heap.size, 0, none⟩ = some (.int .i64 (T : Int)) ∧ W.cell? ⟨w2.heap.size, 1, none⟩ = some (.int .i64 (N : Int)) ∧ W.cell? ⟨w2.heap.size, 2, none⟩ = some (.int .i64 (L : Int)) ∧ W.cell? ⟨w2.heap.size, 3, none⟩ = some (.int .u64 G) ∧ W.cell? ⟨w.heap.size, 4, none⟩ = some (.int .i64 (t : Int)) ∧ W.cell? ⟨w.heap.size, 5, none⟩ = some (.int .i64 kd) ∧ W.cell? ⟨w.heap.size, 6, none⟩ = some (.int .i64 dl) ∧ W.cell? ⟨w.heap.size, 7, none⟩ = some (.int .u64 dr) ∧ W.cell? ⟨w.heap.size, 8, none⟩ = some (.int .u64 hh) ∧ W.cell? ⟨w.heap.size, 9, none⟩ = some (.int .i64 cn) ∧ W.cell? ⟨bl, ol + pn, none⟩ = some (.int .u64 x)) from fun W h => by
            obtain ⟨d_0, d_1, d_2, d_3, d_4, d_5, d_6, d_7, d_8, d_9⟩ := HBX.out W h
            exact ⟨d_0, d_1, d_2, d_3, d_4, d_5, d_6, d_7, d_8, d_9, HCL.out W h pn x HXY.out.1⟩)
          go_upto_region 15 with fail
          go_region_held3 (fun W => W.cell? ⟨w2.heap.size, 0, none⟩ = some (.int .i64 (T : Int)) ∧ W.cell? ⟨w2.heap.size, 1, none⟩ = some (.int .i64 (N : Int)) ∧ W.cell? ⟨w2.heap.size, 2, none⟩ = some (.int .i64 (L : Int)) ∧ W.cell? ⟨w2.heap.size, 3, none⟩ = some (.int .u64 G) ∧ W.cell? ⟨w.heap.size, 4, none⟩ = some (.int .i64 (t : Int)) ∧ W.cell? ⟨w.heap.size, 5, none⟩ = some (.int .i64 kd) ∧ W.cell? ⟨w.heap.size, 6, none⟩ = some (.int .i64 dl) ∧ W.cell? ⟨w.heap.size, 7, none⟩ = some (.int .u64 dr) ∧ W.cell? ⟨w.heap.size, 8, none⟩ = some (.int .u64 hh) ∧ W.cell? ⟨w.heap.size, 9, none⟩ = some (.int .i64 cn) ∧ W.cell? ⟨bl, ol + pn, none⟩ = some (.int .u64 x))
            ((first | (with_reducible exact HBY.out _ (ba_b HBB.out HX0.out)) | (with_reducible assumption) | (with_reducible exact HBY.out _ (ba_b HBB.out HX3.out)) | exact HBY.out _ ((ba_b HBB.out HX3.out).setCell (p := ⟨bn, pn, none⟩) HBN.out.1 _)))
            (first
              | (go_at_call 14; refine (Plan.Pin_any (T : Int) (N : Int) (L : Int) G (t : Int) _).mono ?_; rintro e wc ⟨rfl, hb⟩; rw [HPN.out]; have HX3 := Lib.hid (ba_b HX3.out hb); obtain ⟨e0, f0⟩ := own_int_at (own_later HOB.out HX3.out) HML.out HXY.out.2; clear hb))
          have HBD := Lib.hid ((ba_b HBB.out HX3.out).setCell (p := ⟨bn, pn, none⟩) HBN.out.1 (.int .u64 x))
          have HOD := Lib.hid (own_int_set (own_later HOB.out HX3.out) pn x)
          rw [HSET.out] at HOD
          have HSD := Lib.hid ((HSB.out.later HX3.out).only (only_setCell (R := fun k => k = bn) wc (p := ⟨bn, pn, none⟩) rfl (.int .u64 x)) HBN.out.2)
          have HDF := Lib.hid (fun W (h1 : Row W W.heap.size (some ⟨bn, 0, none⟩) (flat (encZ .u64) l)) (h2 : Row W W.heap.size (some ⟨bl, ol, none⟩) (flat (encZ .u64) l)) => differs_same (c1 := n) (c2 := c) HN.out (by have := HNN.out.1; omega) h1 h2)
          clear HX3 HX0 HBY HOB HSB HBB HBN HSET HXY HPN hp1 e0 f0
          generalize wc.setCell ⟨bn, pn, none⟩ (.int .u64 x) = wd at HBD HOD HSD ⊢
          have HAN := Lib.hid (Answer_any HSD.out)
          rw [show ansS T L (IntKind.u64.wrap dl) (IntKind.u64.wrap (DM.heightI dr L)) sf = .agg #[.int .i64 3, .bool sf.ok, .int .u64 sf.hd, .slice none 0 0] from by unfold ansS; rw [HSD0.out.1, HER.out]; rfl] at HAN
          have hfd : ∀ W : World, (Instr.field 50 (.agg #[.int .i64 3, .bool sf.ok, .int .u64 sf.hd, .slice none 0 0]) 0).run Tryz.prog W = .ok (.int .i64 3) W := fun _ => by kernel_rfl
          generalize sf.ok = ok at HAN hfd
          generalize sf.hd = hd at HAN hfd
          clear HSD
          go_wp2_with fail
          refine HAN.out.mono ?_
          rintro e we ⟨rfl, be⟩
          have HBE := Lib.hid (ba_b HBD.out be)
          have HOE := Lib.hid (own_later HOD.out be)
          clear be HAN
          go_wp2_with fail
          refine (HDF.out _ (Row.of_own HOE.out) (HROW.out _ HBE.out)).mono ?_
          rintro e wf ⟨rfl, bf⟩
          have HBF := Lib.hid (ba_b HBE.out bf)
          clear bf HDF HOE
          go_wp2_with fail
          refine (HAW.out _).mono ?_
          rintro e w9 ⟨rfl, b9⟩
          go_wp2
          go_ret
          exact ⟨rfl, HPW.out _ (ba_b HBF.out b9)⟩
        · have hn70 : (0 : Int) < (n7 : Int) := by have := HL7.out; rw [hF] at this; simp at this; omega
          have e7 : ((n7 : Int) == 0) = false := by simp; omega
          obtain ⟨b0, o0, ea, q0⟩ := HF7.out i rest hF
          subst ea
          obtain ⟨ii, rfl⟩ : ∃ ii : Nat, i = ii := ⟨i.toNat, by omega⟩
          obtain ⟨sk, esk, -, -, hsk⟩ := BM.at_nat (T := T) (S := N) (L := L) (i := ii) (a := 0) HNN.out.2.2.2.1 HNN.out.2.2.2.2.2.1 HNN.out.2.2.2.2.2.2.2 (by omega) (by omega) (by omega)
          have esk2 : atI (T : Int) (L : Int) (ii : Int) 0 = (sk : Int) := by simpa using esk
          rw [esk2] at hg hst
          have HSK := Lib.hid esk2
          have hskn : sk < n := by rw [HN.out, HG.out.2.1]; exact hsk
          have hln := HN.out
          have hmn := HML.out
          have h4 := HNN.out.2.1
          obtain ⟨x1, hx1⟩ : ∃ x, l[sk]? = some x := ⟨_, List.getElem?_eq_getElem (by omega)⟩
          obtain ⟨x2, hx2⟩ : ∃ x, l[2]? = some x := ⟨_, List.getElem?_eq_getElem (by omega)⟩
          obtain ⟨y1, hy1⟩ : ∃ x, m[sk]? = some x := ⟨_, List.getElem?_eq_getElem (by omega)⟩
          obtain ⟨y2, hy2⟩ : ∃ x, m[2]? = some x := ⟨_, List.getElem?_eq_getElem (by omega)⟩
          have z2 : getI l 2 = x2 := getI_some hx2
          have z3 : getI m 2 = y2 := getI_some hy2
          rw [getI_some hx1] at hg
          rw [getI_some hy1] at hst
          rw [z2] at hkey h2
          rw [z3] at h2
          subst hst h2
          have HW1 := Lib.hid (show 0 ≤ x1 ∧ x1 < 18446744073709551616 from HF.out x1 (List.mem_of_getElem? hx1))
          have HW2 := Lib.hid (show 0 ≤ x2 + 1 ∧ x2 + 1 < 18446744073709551616 from HFM.out _ (List.mem_of_getElem? hy2))
          have HGV := Lib.hid (show x1 / 4294967296 = g ∧ 0 ≤ g ∧ g ≤ 4294967295 from by have := HW1.out; omega)
          have HRR := Lib.hid (And.intro hrw (And.intro hix hrg))
          have HRE := Lib.hid hr
          have HLX := Lib.hid (And.intro hx1 hx2)
          have HMX := Lib.hid (And.intro hy1 hy2)
          have HRES := Lib.hid (And.intro hE hH)
          have HIN := Lib.hid (And.intro hi1 hiN)
          obtain ⟨KA, KB, hk1, hk2, hka, hkb⟩ := hkept
          have HKA := Lib.hid (show ∀ W, Below w3.heap.size w3 W → Calls Tryz.prog 20 #[.slice (some ⟨bl, ol, none⟩) n c, .agg #[.int .i64 (T : Int), .int .i64 (N : Int), .int .i64 (L : Int), .int .u64 G], .int .i64 0] W (SeekRef.Listed W (KA ++ KB)) from fun W hb => hk2 ▸ Kept_any c HN.out (by have := HNN.out.1; omega) (HROW.out W hb) HF.out HNN.out.2.2.2.2.2.1 0)
          have HKB := Lib.hid (show ∀ W, Row W W.heap.size (some ⟨bn, 0, none⟩) (flat (encZ .u64) m) → Calls Tryz.prog 20 #[.slice (some ⟨bn, 0, none⟩) n n, .agg #[.int .i64 (T : Int), .int .i64 (N : Int), .int .i64 (L : Int), .int .u64 G], .int .i64 0] W (SeekRef.Listed W (KA ++ r :: KB)) from fun W hb => hk1 ▸ Kept_any n HML.out (by have := HNN.out.1; omega) hb HFM.out HNN.out.2.2.2.2.2.1 0)
          have HKY := Lib.hid (show ∀ W, Row W W.heap.size (some ⟨bn, 0, none⟩) (flat (encZ .u64) m) → Calls Tryz.prog 22 #[.slice (some ⟨bn, 0, none⟩) n n, .agg #[.int .i64 (T : Int), .int .i64 (N : Int), .int .i64 (L : Int), .int .u64 G], .int .u64 r] W fun e w' => e = .returned (.agg #[.int .i64 dl, .int .u64 x2]) ∧ Below W.heap.size W w' from fun W hb => by
            have h := Key_any n HML.out (by have := HNN.out.1; omega) hb (T : Int) (N : Int) (L : Int) G hrw
            rw [hkey] at h
            exact h)
          have HKF := Lib.hid (show (KA ++ r :: KB).length ≤ 64 from by rw [← hk1]; exact Nat.le_trans (kept_few HFM.out _) HNN.out.2.2.2.2.2.1)
          obtain ⟨sp1, sp2⟩ := splice hka hkb
          obtain ⟨a, ha⟩ : ∃ a, a = KA.length := ⟨_, rfl⟩
          have HKK := Lib.hid (show (KA ++ r :: KB).length = (KA ++ KB).length + 1 ∧ a < (KA ++ r :: KB).length from by subst ha; simp; omega)
          rw [← ha] at sp1 sp2
          have HS1 := Lib.hid sp1
          have HS2 := Lib.hid sp2
          have hsn : (sk : Int) < (n : Int) := by omega
          have HLN2 := Lib.hid (show 2 < n ∧ sk < n from ⟨by omega, hskn⟩)
          generalize KA ++ KB = KL at HKA HKK HS2
          generalize KA ++ r :: KB = KN at HKB HKF HKK HS1 HS2
          clear hka hkb hk1 hk2 sp1 sp2 ha hx1 hx2 hy1 hy2 z2 z3 hg hr hrw hix hrg hE hH hkey hi1 hiN hF HF7 hskn hln hmn h4 HCM esk esk2 hsk
          obtain ⟨c_0, c_1, c_2, c_3, c_4, c_5, c_6, c_7, c_8, c_9⟩ := HBX.out _ HBB.out
          go_wp2_with fail
          refine (Plan.State_any (T : Int) (N : Int) (L : Int) G (ii : Int) _).mono ?_
          rintro e wc ⟨rfl, bc⟩
          rw [HSK.out]
          have HXC := Lib.hid bc
          have q1 := HCL.out _ (ba_b HBB.out bc) sk x1 HLX.out.1
          clear bc c_0 c_1 c_2 c_3 c_4 c_5 c_6 c_7 c_8 c_9 q0
          go_wp2_with fail
          refine (State.Gen_any x1 HW1.out.1 HW1.out.2 _).mono ?_
          rintro e w' ⟨rfl, rfl⟩
          rw [HGV.out.1]
          go_wp2_with fail
          refine (Refer.Of_any g (ii : Int) HGV.out.2.1 _).mono ?_
          rintro e w' ⟨rfl, rfl⟩
          rw [← HRE.out]
          clear q1
          have HX0 := Lib.hid (HXC.out.drew)
          go_upto_region 19 with fail
          go_region_held3 (fun W => W.cell? ⟨w2.heap.size, 0, none⟩ = some (.int .i64 (T : Int)) ∧ W.cell? ⟨w2.heap.size, 1, none⟩ = some (.int .i64 (N : Int)) ∧ W.cell? ⟨w2.heap.size, 2, none⟩ = some (.int .i64 (L : Int)) ∧ W.cell? ⟨w2.heap.size, 3, none⟩ = some (.int .u64 G) ∧ W.cell? ⟨w.heap.size, 4, none⟩ = some (.int .i64 (t : Int)) ∧ W.cell? ⟨w.heap.size, 5, none⟩ = some (.int .i64 kd) ∧ W.cell? ⟨w.heap.size, 6, none⟩ = some (.int .i64 dl) ∧ W.cell? ⟨w.heap.size, 7, none⟩ = some (.int .u64 dr) ∧ W.cell? ⟨w.heap.size, 8, none⟩ = some (.int .u64 hh) ∧ W.cell? ⟨w.heap.size, 9, none⟩ = some (.int .i64 cn))
            ((first | (with_reducible exact HBX.out _ (ba_b HBB.out HX0.out)) | (with_reducible assumption) | (with_reducible exact HBX.out _ (ba_b HBB.out HX3.out)) | (with_reducible exact HBX.out _ (ba_b HBB.out HX4.out))))
            (first
              | (go_at_call 20; refine (HKB.out _ (Row.of_own (own_later HOB.out HX3.out))).mono ?_; rintro e we ⟨A14, n14, c14, rfl, h14, r14, -, b14⟩; have HX4 := Lib.hid (ba_b HX3.out b14); have HRA := Lib.hid (HR13.out.later b14); have HRB := Lib.hid r14; have HN14 := Lib.hid h14; clear h14 r14 b14)
              | (go_at_call 20; refine (HKA.out _ (ba_b HBB.out HX0.out)).mono ?_; rintro e wd ⟨A13, n13, c13, rfl, h13, r13, -, b13⟩; have HX3 := Lib.hid (ba_b HX0.out b13); have HR13 := Lib.hid r13; have HN13 := Lib.hid h13; clear h13 r13 b13))
          have HNS := Lib.hid (show n14 = n13 + 1 ∧ n14 ≤ 64 ∧ a < n14 ∧ n13 = KL.length ∧ n14 = KN.length from by have := HN13.out; have := HN14.out; have := HKK.out; have := HKF.out; omega)
          have HBE := Lib.hid (ba_b HBB.out HX4.out)
          have HOE := Lib.hid (own_later HOB.out HX4.out)
          have HSE := Lib.hid (HSB.out.later HX4.out)
          clear HX0 HX3 HX4 HR13 HXC HBB HOB HSB HN13 HN14 HKK HKF HKA HKB
          have hn14 : n14 ≤ 64 := HNS.out.2.1
          go_wp2
          go_loopw [15, 16] (fun av kv wr => ∃ (k : Nat) (v : Int), k ≤ n14 ∧ kv = .int .i64 k ∧ av = .int .i64 v ∧ (k ≤ a → v = -1) ∧ (a < k → v = a) ∧ Below we.heap.size we wr) (fun av kv _ => n14 - (intOf kv).toNat)
          case atStart => exact ⟨0, -1, Nat.zero_le _, rfl, rfl, fun _ => rfl, fun e => by omega, Below.refl _ _⟩
          case round =>
            obtain ⟨k, v, hk, rfl, rfl, hv1, hv2, hb⟩ := hrel
            have HBK := Lib.hid hb
            have HV := Lib.hid (And.intro hv1 hv2)
            clear hb hv1 hv2
            by_cases hlt : k < n14
            · have hil : (k : Int) < (n14 : Int) := by omega
              have HNK := HNS.out.2.2.2.2
              obtain ⟨y, hy, hyr⟩ := HS1.out k (by omega)
              obtain ⟨b1, o1, ea, -, hc1⟩ := int_at (HRB.out.later HBK.out) (show k < KN.length by omega)
              subst ea
              have q1 := hc1 k y hy
              have HYR := Lib.hid hyr
              clear hc1 hy hyr HNK
              cases e1 : (y == r) with
              | true =>
                have HKA := Lib.hid (HYR.out.1 (by simpa using e1))
                go_wp2
                go_roundw
                case rel => exact ⟨k + 1, k, by omega, by go_num, rfl, fun e => by have := HKA.out; omega, fun e => by rw [HKA.out], HBK.out⟩
                case measure => simp [intOf]; omega
              | false =>
                have HKA := Lib.hid (show ¬ k = a from fun e => by rw [HYR.out.2 e] at e1; simp at e1)
                go_wp2
                go_roundw
                case rel => exact ⟨k + 1, v, by omega, by go_num, rfl, fun e => HV.out.1 (by omega), fun e => HV.out.2 (by have := HKA.out; omega), HBK.out⟩
                case measure => simp [intOf]; omega
            · obtain rfl : n14 = k := by omega
              obtain rfl : v = (a : Int) := HV.out.2 HNS.out.2.2.1
              have HN13 := Lib.hid (show n13 ≤ 63 ∧ a < n14 ∧ n14 = n13 + 1 from ⟨by have := HNS.out.1; have := HNS.out.2.1; omega, HNS.out.2.2.1, HNS.out.1⟩)
              obtain ⟨h14, h64, han, hkl, hkn⟩ := HNS.out
              have d0 : decide ((a : Int) < 0) = false := decide_eq_false (by omega)
              have hww : IntKind.i64.wrap ((n13 : Int) + 1) = (n14 : Int) := by rw [h14, show ((n13 + 1 : Nat) : Int) = (n13 : Int) + 1 by omega]; exact IntWalk.i64_in _ ⟨by omega, by omega⟩
              have hw2 : wrap64 ((n13 : Int) + 1) = (n14 : Int) := by rw [h14]; unfold wrap64; omega
              have hnn : ((n14 : Int) != (n14 : Int)) = false := by simp
              have HBX4 := Lib.hid (ba_b HBE.out HBK.out)
              have HAN := Lib.hid (Answer_any (HSE.out.later HBK.out))
              rw [show ansS T L (IntKind.u64.wrap dl) (IntKind.u64.wrap (DM.heightI dr L)) sf = .agg #[.int .i64 0, .bool sf.ok, .int .u64 sf.hd, .slice none 0 0] from by unfold ansS; rw [HSD0.out.1, HRES.out.1]; rfl, HRES.out.2] at HAN
              have hfd : ∀ W : World, (Instr.field 50 (.agg #[.int .i64 0, .bool sf.ok, .int .u64 (WaM.handI r), .slice none 0 0]) 2).run Tryz.prog W = .ok (.int .u64 (WaM.handI r)) W := fun _ => by kernel_rfl
              generalize sf.ok = ok at HAN hfd
              have HHD := Lib.hid (show WaM.handI r = g * 4294967296 + (ii : Int) from by unfold WaM.handI ClM.genI; rw [HRR.out.2.1, HRR.out.2.2])
              generalize WaM.handI r = hd at HAN hfd HHD
              clear h14 h64 han hkl hkn HSE HV
              have hilf : decide ((n14 : Int) < (n14 : Int)) = false := decide_eq_false (by omega)
              go_wp2_with fail
              refine HAN.out.mono ?_
              rintro e wf ⟨rfl, bf⟩
              have HXF := Lib.hid (ba_b HBK.out bf)
              clear bf HAN
              go_wp2_with fail
              refine (Refer.Gen_any r HRR.out.1.1 HRR.out.1.2 _).mono ?_
              rintro e w' ⟨rfl, rfl⟩
              rw [HRR.out.2.2]
              have eb : (hd != bits .or .u64 (IntKind.u64.wrap (ii : Int)) (IntKind.u64.wrap (g * 4294967296))) = false := by rw [hand_or HGV.out.2 (by have := HIN.out; have := HNN.out; omega), HHD.out]; simp
              go_wp2
              clear eb hww hw2 hnn hne
              go_loopw [17] (fun kv wr => ∃ k : Nat, k ≤ n13 ∧ kv = .int .i64 k ∧ Below wf.heap.size wf wr) (fun kv _ => n13 - (intOf kv).toNat)
              case atStart => exact ⟨0, Nat.zero_le _, rfl, Below.refl _ _⟩
              case round =>
                obtain ⟨k, hk, rfl, hb⟩ := hrel
                have HBR := Lib.hid hb
                have HXR := Lib.hid (ba_b HXF.out hb)
                clear hb
                by_cases hlt3 : k < n13
                · have hil3 : (k : Int) < (n13 : Int) := by omega
                  obtain ⟨h14, h64, han, hkl, hkn⟩ := HNS.out
                  obtain ⟨y, hy, hya, hyb⟩ := HS2.out k (by omega)
                  obtain ⟨b1, o1, ea, -, hc1⟩ := int_at (HRA.out.later HXR.out) (show k < KL.length by omega)
                  obtain ⟨b2, o2, eb, -, hc2⟩ := int_at (HRB.out.later HXR.out) (show k < KN.length by omega)
                  subst ea eb
                  have q1 := hc1 k y hy
                  have hyy : (y != y) = false := by simp
                  have Q_1 := fun p : After wr => p.cell q1
                  by_cases hka : k < a
                  · have q2 := hc2 k y (hya hka)
                    have Q_2 := fun p : After wr => p.cell q2
                    have dk : decide ((k : Int) < (a : Int)) = true := decide_eq_true (by omega)
                    have dk2 : decide ((a : Int) ≤ (k : Int)) = false := decide_eq_false (by omega)
                    have dn : decide (k < a) = true := decide_eq_true hka
                    have dn2 : decide (a ≤ k) = false := decide_eq_false (by omega)
                    have hkn2 : (k : Int) < (n14 : Int) := by omega
                    clear hc1 hc2 hy hya hyb q1 q2 hka h14 h64 han hkl hkn
                    go_wp2
                    refine wp_region_after mixed (by kernel_rfl) ?_
                    repeat (first | go_big_quiet_step (fail) | quiet_step (fail))
                    refine wpQuiet_nil ?_
                    intro _ hw'
                    obtain ⟨pq, hw''⟩ := hw'
                    subst hw''
                    have HQ := Lib.hid (ba_b HBR.out pq.ok)
                    generalize pq.x = wq at HQ ⊢
                    go_wp2
                    go_roundw
                    case rel => exact ⟨k + 1, by omega, by go_num, HQ.out⟩
                    case measure => simp [intOf]; omega
                  · have q2 := hc2 (k + 1) y (hyb hka)
                    have Q_2 := fun p : After wr => p.cell q2
                    have dk : decide ((k : Int) < (a : Int)) = false := decide_eq_false (by omega)
                    have dk2 : decide ((a : Int) ≤ (k : Int)) = true := decide_eq_true (by omega)
                    have dn : decide (k < a) = false := decide_eq_false hka
                    have dn2 : decide (a ≤ k) = true := decide_eq_true (by omega)
                    have hkn2 : ((k + 1 : Nat) : Int) < (n14 : Int) := by omega
                    have hwk : IntKind.i64.wrap ((k : Int) + 1) = ((k + 1 : Nat) : Int) := by rw [show ((k + 1 : Nat) : Int) = (k : Int) + 1 by omega]; exact IntWalk.i64_in _ ⟨by omega, by omega⟩
                    have hwk2 : wrap64 ((k : Int) + 1) = ((k + 1 : Nat) : Int) := by unfold wrap64; omega
                    clear hc1 hc2 hy hya hyb q1 q2 hka h14 h64 han hkl hkn
                    go_wp2
                    refine wp_region_after mixed (by kernel_rfl) ?_
                    repeat (first | go_big_quiet_step (fail) | quiet_step (fail))
                    refine wpQuiet_nil ?_
                    intro _ hw'
                    obtain ⟨pq, hw''⟩ := hw'
                    subst hw''
                    have HQ := Lib.hid (ba_b HBR.out pq.ok)
                    generalize pq.x = wq at HQ ⊢
                    go_wp2
                    go_roundw
                    case rel => exact ⟨k + 1, by omega, by go_num, HQ.out⟩
                    case measure => simp [intOf]; omega
                · obtain rfl : n13 = k := by omega
                  have HB2 := Lib.hid (ba_b HBE.out HXR.out)
                  obtain ⟨c_0, c_1, c_2, c_3, c_4, c_5, c_6, c_7, c_8, c_9⟩ := HBX.out _ HB2.out
                  go_wp2_with fail
                  refine (HKY.out _ (Row.of_own (own_later HOE.out HXR.out))).mono ?_
                  rintro e wh ⟨rfl, bh⟩
                  have HXH := Lib.hid (ba_b HXR.out bh)
                  have HBH := Lib.hid (ba_b HBE.out HXH.out)
                  have HMH := Lib.hid (own_later HOE.out HXH.out)
                  clear bh c_0 c_1 c_2 c_3 c_4 c_5 c_6 c_7 c_8 c_9
                  have HS34 := Lib.hid (show ∀ W, Below (wh.alloc (.cells #[.int .i64 dl, .int .u64 x2] 58)).heap.size (wh.alloc (.cells #[.int .i64 dl, .int .u64 x2] 58)) W → W.cell? ⟨w2.heap.size, 0, none⟩ = some (.int .i64 (T : Int)) ∧ W.cell? ⟨w2.heap.size, 1, none⟩ = some (.int .i64 (N : Int)) ∧ W.cell? ⟨w2.heap.size, 2, none⟩ = some (.int .i64 (L : Int)) ∧ W.cell? ⟨w2.heap.size, 3, none⟩ = some (.int .u64 G) ∧ W.cell? ⟨w.heap.size, 6, none⟩ = some (.int .i64 dl) ∧ W.cell? ⟨wh.heap.size, 0, none⟩ = some (.int .i64 dl) ∧ W.cell? ⟨wh.heap.size, 1, none⟩ = some (.int .u64 x2) ∧ W.cell? ⟨bl, ol + 2, none⟩ = some (.int .u64 x2) ∧ W.cell? ⟨bn, 2, none⟩ = some (.int .u64 (x2 + 1)) ∧ W.cell? ⟨bn, sk, none⟩ = some (.int .u64 (SM.stI g 2)) from fun W hb => by
                    have hb3 : Below w3.heap.size w3 W := ba_b (ba_b HBH.out (box_below wh (.cells #[.int .i64 dl, .int .u64 x2] 58))) hb
                    have hbh : Below wh.heap.size wh W := ba_b (box_below wh (.cells #[.int .i64 dl, .int .u64 x2] 58)) hb
                    obtain ⟨d_0, d_1, d_2, d_3, d_4, d_5, d_6, d_7, d_8, d_9⟩ := HBX.out W hb3
                    have g5 := (only_below (fun _ => False) hb).heap (new_heap wh (.cells #[.int .i64 dl, .int .u64 x2] 58)) id
                    exact ⟨d_0, d_1, d_2, d_3, d_6, (cell_heap g5 0).1, (cell_heap g5 1).1, HCL.out W hb3 2 x2 HLX.out.2, (own_int_at (own_later HMH.out hbh) HML.out HMX.out.2).1, (own_int_at (own_later HMH.out hbh) HML.out HMX.out.1).1⟩)
                  have HX5 := Lib.hid (show Below (wh.alloc (.cells #[.int .i64 dl, .int .u64 x2] 58)).heap.size (wh.alloc (.cells #[.int .i64 dl, .int .u64 x2] 58)) (wh.alloc (.cells #[.int .i64 dl, .int .u64 x2] 58)).drew from (Below.refl _ _).drew)
                  have HX6 := HX5
                  have N1 := fun W => eqlK dl x2 dl x2 W
                  simp only [and_self, decide_true] at N1
                  have hgk := guardK
                  have hn2 : (2 : Int) < (n : Int) := by have := HLN2.out.1; omega
                  have hwx : IntKind.u64.wrap (x2 + 1) = x2 + 1 := by rw [IntKind.wrap_u64]; have := HW2.out; omega
                  have HGN := Lib.hid (fun W => Refer.Gen_any r HRR.out.1.1 HRR.out.1.2 W)
                  rw [HRR.out.2.2] at HGN
                  go_upto_region 34 with fail
                  go_region_held3 (fun W => W.cell? ⟨w2.heap.size, 0, none⟩ = some (.int .i64 (T : Int)) ∧ W.cell? ⟨w2.heap.size, 1, none⟩ = some (.int .i64 (N : Int)) ∧ W.cell? ⟨w2.heap.size, 2, none⟩ = some (.int .i64 (L : Int)) ∧ W.cell? ⟨w2.heap.size, 3, none⟩ = some (.int .u64 G) ∧ W.cell? ⟨w.heap.size, 6, none⟩ = some (.int .i64 dl) ∧ W.cell? ⟨wh.heap.size, 0, none⟩ = some (.int .i64 dl) ∧ W.cell? ⟨wh.heap.size, 1, none⟩ = some (.int .u64 x2) ∧ W.cell? ⟨bl, ol + 2, none⟩ = some (.int .u64 x2) ∧ W.cell? ⟨bn, 2, none⟩ = some (.int .u64 (x2 + 1)) ∧ W.cell? ⟨bn, sk, none⟩ = some (.int .u64 (SM.stI g 2)))
                    ((first | (with_reducible exact HS34.out _ HX5.out) | (with_reducible assumption) | (with_reducible exact HS34.out _ HX6.out)))
                    (first
                      | (go_at_call 19; refine (Plan.State_any (T : Int) (N : Int) (L : Int) G (ii : Int) _).mono ?_; rintro e wi ⟨rfl, hb⟩; rw [HSK.out]; have HX6 := Lib.hid (ba_b HX5.out hb); clear hb)
                      | (go_at_call 21; refine (HGN.out _).mono ?_; rintro e w' ⟨rfl, rfl⟩)
                      | (go_at_call 23; refine (Ref04.Of_any g 2 HGV.out.2.1 _).mono ?_; rintro e w' ⟨rfl, rfl⟩)
                      | (go_at_call 4; refine (HAW.out _).mono ?_; rintro e wj ⟨rfl, hb⟩; have HX6 := Lib.hid (ba_b HX6.out hb); clear hb))
                  have HEND := Lib.hid (ba_b (ba_b HBH.out (box_below wh (.cells #[.int .i64 dl, .int .u64 x2] 58))) HX6.out)
                  go_wp2
                  go_ret
                  exact ⟨rfl, HPW.out _ HEND.out⟩

theorem walk (x : Int × Int × Int × Int) (y : Int) (z : Int × Int × Int × Int × Int) (V : Value) (A : Option Addr) (l : List Int) (c : Nat) (_ : (Lit.int .i64 x.1).wf = true) (_ : (Lit.int .i64 x.2.1).wf = true) (_ : (Lit.int .i64 x.2.2.1).wf = true) (_ : (Lit.int .u64 x.2.2.2).wf = true) (_ : (Lit.int .i64 y).wf = true) (_ : (Lit.int .i64 z.1).wf = true) (_ : (Lit.int .i64 z.2.1).wf = true) (hd : (Lit.int .u64 z.2.2.1).wf = true) (_ : (Lit.int .u64 z.2.2.2.1).wf = true) (_ : (Lit.int .i64 z.2.2.2.2).wf = true) (w : World)
    (hR : Row w w.heap.size A (flat (encZ .u64) l)) (hl : l.length ≤ maxLen) (hw : ∀ z ∈ l, (Lit.int .u64 z).wf = true) (_ : True) :
    Calls Tryz.prog 3 #[.agg #[.int .i64 x.1, .int .i64 x.2.1, .int .i64 x.2.2.1, .int .u64 x.2.2.2, .int .i64 y, .int .i64 z.1, .int .i64 z.2.1, .int .u64 z.2.2.1, .int .u64 z.2.2.2.1, .int .i64 z.2.2.2.2, V], .slice A l.length c] w fun e w' => e = .returned (.bool true) ∧ Below w.heap.size w w' := by
  obtain ⟨T, N, L, G⟩ := x
  obtain ⟨kd, dl, dr, hh, cn⟩ := z
  exact walk_any T N L G y kd dl dr hh cn V A l c w hR hl (fun z hz => wf_u64 (hw z hz)) (wf_u64 hd)
theorem laidOut : laidOutB Tryz.prog = true := by kernel_rfl
theorem own : ownKnob Tryz.prog.godebug = none := by kernel_rfl
theorem door_met (os : Os) (args : Array Value) : laidMetH Tryz.prog Rows.startComesRow.laid ((World.doorLaid Tryz.prog 400 os).forCall (fun _ _ => 0) ⟨#[], args, []⟩).memory :=
  laidMetH_of_parts3 (fuel := 8) (laidMet_of_run' 8 (by kernel_rfl) (by kernel_rfl)) (by kernel_rfl) (by kernel_rfl)
set_option maxRecDepth 100000 in
theorem lifted (os : Os) (started : os.Started) (H : Type) (enc : TypeId × Value → H) :
    ReturnsInHanded {} Tryz.checked os 3 .any (fun w args => (Rows.startComesSpec.pre enc Tryz.prog Tryz.f3 [] false w args ∧ laidMetH Tryz.prog Rows.startComesRow.laid w) ∧ sizedMet enc Tryz.prog Tryz.f3 (OpenSpec.ofChange Rows.startComesSpec) false w args) (Rows.startComesSpec.post enc Tryz.prog Tryz.f3 false true false false) := by
  refine Frame.liftedLaid (C := Tryz.checked) (fn := Tryz.f3) (tb := 4) own started (by kernel_rfl) Tryz.func3
    (ChangeSpec.witness_shaped (enc := enc) (C := Tryz.checked) (os := os) (X := fun w _ => laidMetH Tryz.prog Rows.startComesRow.laid w) false (World.doorLaid Tryz.prog 400 os) #[.agg #[.int .i64 0, .int .i64 0, .int .i64 0, .int .u64 0, .int .i64 0, .int .i64 0, .int .i64 0, .int .u64 0, .int .u64 0, .int .i64 0, .slice none 0 0], .slice none 0 0] 8 rfl (World.shaped_of_RefB (by kernel_rfl) (by kernel_rfl)) (by kernel_rfl) (by kernel_rfl) (by kernel_rfl) (door_met os _))
    rfl rfl Tryz.underlying4 laidOut (by kernel_rfl) (fun ds h => by match ds, h with | [_, _], _ => rfl) ?_
  intro W base args ds ps hval0 hA0 hlt hL
  have hval : ∀ (j : Nat) t v, Tryz.f3.params[j]? = some t → args[j]? = some v → Value.okWide Tryz.prog W .any base t v := hval0
  have hA : DataW.TrodAll enc Tryz.prog W 0 (fun _ => true) true Tryz.f3.params.toList args.toList ds ps := hA0
  rw [Tryz.params3] at hA hval
  obtain ⟨v0, vs0, d0, ds0, p0, q0, hargs, rfl, rfl, h0, r0⟩ := trodAll_cons hA
  obtain ⟨v1, vs1, d1, ds1, p1, q1, rfl, rfl, rfl, h1, r1⟩ := trodAll_cons r0
  obtain ⟨rfl, rfl, rfl⟩ := trodAll_nil r1
  obtain rfl : args = #[v0, v1] := by cases args; simp_all
  obtain ⟨x0, y0, z0, V0, rfl, ⟨w0_0, w0_1, w0_2, w0_3⟩, w0_4, w0_5, w0_6, w0_7, w0_8, w0_9⟩ := Open.open_call_ask Tryz.underlying29 rfl rfl rfl (by kernel_rfl) (by kernel_rfl) (by kernel_rfl) (by kernel_rfl) Tryz.underlying24 (by kernel_rfl) Tryz.underlying26 (by kernel_rfl) Tryz.underlying3 Tryz.underlying3 Tryz.underlying3 Tryz.underlying22 Tryz.underlying3 Tryz.underlying3 Tryz.underlying3 Tryz.underlying22 Tryz.underlying22 Tryz.underlying3 (hval 0 29 v0 rfl rfl) h0
  obtain ⟨A1, x1, c1, rfl, b1, m1, R1, g1⟩ := Open.open_rows (k := 1) (Ints.encZ .u64) (fun x => (Lit.int .u64 x).wf = true) Tryz.underlying30 (by kernel_rfl) (by decide) (Ints.encZ_length _) (fun n cs y h hl => Ints.one_int Tryz.underlying22 n cs y h hl) (hval 1 30 v1 rfl rfl) h1
  refine (walk x0 y0 z0 V0 A1 x1 c1 w0_0 w0_1 w0_2 w0_3 w0_4 w0_5 w0_6 w0_7 w0_8 w0_9 W R1 (Nat.le_trans b1 m1) g1 (held hL)).mono fun e W' h => ?_
  exact h

theorem over : Rows.startComesRow.holds Tryz.pinned (OpenSpec.ofChange Rows.startComesSpec) :=
  OpenClaim.holds_of_wide 3 Tryz.f3 rfl rfl rfl rfl rfl rfl rfl ⟨rfl, rfl, rfl, rfl, rfl⟩ rfl rfl rfl rfl rfl (by kernel_rfl) Tryz.func3 (by kernel_rfl)
    (of_decide_eq_true (by kernel_rfl)) (by unfold Func.isWrapper; first | (rw [if_pos (by decide +kernel)]; kernel_rfl) | (rw [if_neg (by decide +kernel)]; exact ⟨rfl, rfl⟩))
    (fun os started H enc _ => lifted os started H enc)

theorem proved : Rows.StartComesCardSaid :=
  Claim7.holds_tied_plain_at .later [] Rows.startComesCard.laidKinds true Rows.startComesCard.stood.harness Rows.startComesCard.stood.looks
    over (fun _ h => by cases h) (by kernel_rfl) (fun _ h => by cases h) startComes_row_tie rfl ⟨rfl, rfl⟩ (by kernel_rfl) rfl
    (fun f fn hf hfn => by
      obtain rfl : f = 3 := Option.some.inj ((show Tryz.prog.funcNamed Rows.startComesRow.func = some 3 by kernel_rfl).symm.trans hf) |>.symm
      obtain rfl : fn = Tryz.f3 := (Option.some.inj (Tryz.func3.symm.trans hfn)).symm
      exact ⟨by kernel_rfl, fun j t ht => by
        rw [Tryz.params3] at ht
        have hm : t ∈ [29, 30] := by simpa using Array.mem_of_getElem? ht
        have hall : ([29, 30].all fun u => !Tryz.prog.wantsStandIn u) = true := by kernel_rfl
        exact (show Tryz.prog.wantsStandIn t = false by simpa using List.all_eq_true.1 hall t hm)⟩)
    (by kernel_rfl)
#print axioms proved
end Go.Proofs.YtlagghghbpbcbaaGreatDoor.StartComes
