/- LinkComes: for every plan, every list of words and every reference, key and height, where the document calls the chains that the words tell right, and the reference is one (without a mark) of a slot that there is, which is in no chain, the height is 1 at least, and no timer in a chain has the key: where the slot's words have the key, a linker that is done alone to a memory of these words is done soon; the lowest chain rises then, has the reference, and has all without a mark that it had, and one more (else just the chapter's example is asked); and that example comes out; the arguments read as they did. Condition: the library's listed tables hold what its own text lays in them (tied by the card). -/
import Derived.Test.YtjefjkpomohpiaaGreatDoorLinkAwake
import Derived.Test.YtjefjkpomohpiaaGreatDoorLinkAloneMath
import Derived.Test.YtjefjkpomohpiaaGreatDoorSeekGood
import Derived.Test.YtjefjkpomohpiaaGreatDoorDeedDo
import Derived.Test.YtjefjkpomohpiaaGreatDoorNest
import Derived.Test.YtjefjkpomohpiaaGreatDoorFrame
import Derived.Test.YtjefjkpomohpiaaGreatDoorFrameLaid
import Derived.Test.YtjefjkpomohpiaaGreatDoorTie
import Derived.Test.YtjefjkpomohpiaaGreatDoorCards
namespace Go.Proofs.YtjefjkpomohpiaaGreatDoor.LinkComes
set_option maxRecDepth 20000
open Go.ChangeShapes Go.WideShapes Go.ChangeAt Go.RowKit CM DM PM KM LiM MM Runs Lay Plan Ints Go.Proofs.YtjefjkpomohpiaaGreatDoor.Task
open Go.Proofs.YtjefjkpomohpiaaGreatDoor.Cells (Mem Does Of_any Words_any Store_any)
open Go.Proofs.YtjefjkpomohpiaaGreatDoor.Link (Links Link_any Link_next Link_tell)
open Go.Proofs.YtjefjkpomohpiaaGreatDoor.SeekRef (Good_all Chain_any Kept_any Key_any Has_is Chained right_nat kept_few kept_refs chain_refs chain_few)
open Go.Proofs.YtjefjkpomohpiaaGreatDoor.Law20 (awake_any wf_u64 wf_i64 chain ba)
set_option linter.unusedVariables false
set_option linter.unusedSimpArgs false

theorem held {W : World} (h : laidMetH Tryz.prog Rows.linkComesRow.laid W) : True := trivial
/-- Two keys compared. -/
theorem eqlK (x1 x2 y1 y2 : Int) (w : World) : (binOp .eql 27 (.agg #[.int .i64 x1, .int .u64 x2]) (.agg #[.int .i64 y1, .int .u64 y2])).run Tryz.prog w = .ok (.bool (decide (x1 = y1 ∧ x2 = y2))) w := by
  have u3 := Tryz.underlying3
  have a3 := Tryz.isAgg3
  have z3 := Tryz.sizeOf3
  have u4 := Tryz.underlying22
  have a4 := Tryz.isAgg22
  have z4 := Tryz.sizeOf22
  have hS : Tryz.prog.underlying 27 = some (.struct (Tryz.prog.fieldsOf 27)) := by kernel_rfl
  have hp : Tryz.prog.stoodInHeld 27 = false := by kernel_rfl
  rw [run_eql_struct, show (10000 : Nat) = 9999 + 1 from rfl, run_equalIn_agg w 9999 27 _ _ hS hp]
  simp only [Program.fieldsOf, Tryz.underlying27]
  go_simp
  by_cases h1 : x1 = y1 <;> by_cases h2 : x2 = y2 <;> simp [h1, h2]
theorem guardK : Tryz.prog.eqGuardType Tryz.prog.depth 27 = false := by kernel_rfl
/-- What the law's own boxes hold. -/
def Boxes (W : World) (N0 : Nat) (T N L G r dl sq tall : Int) : Prop := (W.cell? ⟨N0, 0, none⟩ = some (.int .i64 T) ∧ W.cell? ⟨N0, 1, none⟩ = some (.int .i64 N) ∧ W.cell? ⟨N0, 2, none⟩ = some (.int .i64 L) ∧ W.cell? ⟨N0, 3, none⟩ = some (.int .u64 G)) ∧
  W.cell? ⟨N0 + 1, 0, none⟩ = some (.int .u64 r) ∧ W.cell? ⟨N0 + 1, 1, none⟩ = some (.int .i64 dl) ∧ W.cell? ⟨N0 + 1, 2, none⟩ = some (.int .u64 sq) ∧ W.cell? ⟨N0 + 1, 3, none⟩ = some (.int .i64 tall)
theorem boxes_start (w : World) (T N L G r dl sq tall : Int) : Boxes ((w.alloc (.cells #[.int .i64 T, .int .i64 N, .int .i64 L, .int .u64 G] 24)).alloc (.cells #[.int .u64 r, .int .i64 dl, .int .u64 sq, .int .i64 tall] 29)) w.heap.size T N L G r dl sq tall := by
  have h0 := box4 w (.int .i64 T) (.int .i64 N) (.int .i64 L) (.int .u64 G) 24
  have hb : Below (w.alloc (.cells #[.int .i64 T, .int .i64 N, .int .i64 L, .int .u64 G] 24)).heap.size (w.alloc (.cells #[.int .i64 T, .int .i64 N, .int .i64 L, .int .u64 G] 24)) ((w.alloc (.cells #[.int .i64 T, .int .i64 N, .int .i64 L, .int .u64 G] 24)).alloc (.cells #[.int .u64 r, .int .i64 dl, .int .u64 sq, .int .i64 tall] 29)) := box_below _ _
  have k0 := (cell_heap (new_heap (w.alloc (.cells #[.int .i64 T, .int .i64 N, .int .i64 L, .int .u64 G] 24)) (.cells #[.int .u64 r, .int .i64 dl, .int .u64 sq, .int .i64 tall] 29)) 0).1
  have k1 := (cell_heap (new_heap (w.alloc (.cells #[.int .i64 T, .int .i64 N, .int .i64 L, .int .u64 G] 24)) (.cells #[.int .u64 r, .int .i64 dl, .int .u64 sq, .int .i64 tall] 29)) 1).1
  have k2 := (cell_heap (new_heap (w.alloc (.cells #[.int .i64 T, .int .i64 N, .int .i64 L, .int .u64 G] 24)) (.cells #[.int .u64 r, .int .i64 dl, .int .u64 sq, .int .i64 tall] 29)) 2).1
  have k3 := (cell_heap (new_heap (w.alloc (.cells #[.int .i64 T, .int .i64 N, .int .i64 L, .int .u64 G] 24)) (.cells #[.int .u64 r, .int .i64 dl, .int .u64 sq, .int .i64 tall] 29)) 3).1
  rw [World.size_alloc] at k0 k1 k2 k3
  exact ⟨⟨cell_later hb h0.1, cell_later hb h0.2.1, cell_later hb h0.2.2.1, cell_later hb h0.2.2.2⟩, k0, k1, k2, k3⟩
theorem Boxes.later {w W : World} {N0 : Nat} {T N L G r dl sq tall : Int} (h : Boxes w N0 T N L G r dl sq tall) (hb : Below w.heap.size w W) : Boxes W N0 T N L G r dl sq tall :=
  ⟨⟨cell_later hb h.1.1, cell_later hb h.1.2.1, cell_later hb h.1.2.2.1, cell_later hb h.1.2.2.2⟩, cell_later hb h.2.1, cell_later hb h.2.2.1, cell_later hb h.2.2.2.1, cell_later hb h.2.2.2.2⟩
theorem past_later {w W W' : World} {o1 o2 : Obj} (h : Below (w.heap.size + 2) ((w.alloc o1).alloc o2) W) (hb : Below W.heap.size W W') : Below (w.heap.size + 2) ((w.alloc o1).alloc o2) W' := h.trans (hb.mono (by have := h.size; simp only [World.size_alloc] at this; omega))
theorem past_all {w W : World} {o1 o2 : Obj} (h : Below (w.heap.size + 2) ((w.alloc o1).alloc o2) W) : Below ((w.alloc o1).alloc o2).heap.size ((w.alloc o1).alloc o2) W := by simp only [World.size_alloc]; exact h
theorem past_old {w W : World} {o1 o2 : Obj} (h : Below (w.heap.size + 2) ((w.alloc o1).alloc o2) W) : Below w.heap.size w W := ((box_below w o1).alloc (by simp) _).trans (h.mono (by omega))
/-- Amid the linking. -/
def Amid (B pc hc n q : Nat) (T N L G r dl sq tall : Int) (lf : List Int) (sf : LiM.St) (j : Nat) (wr : World) : Prop :=
  ∃ m s S, j ≤ 2000 ∧ Mem wr pc hc n m ∧ BM.Fits m ∧ Links wr q S T N L G r dl sq tall j s ∧ alone (linkA T L r) (linkT L dl sq tall) (2000 - j) m s = (lf, sf) ∧ ¬ S pc ∧ ¬ S hc ∧ (∀ k, S k → B ≤ k)
theorem Words_new {p h n : Nat} {l : List Int} {w : World} (hM : Mem w p h n l) : Calls Tryz.prog 18 #[.pointer (some ⟨p, 0, none⟩)] w fun e w' => ∃ A, e = .returned (.slice A n n) ∧ Row w' w'.heap.size A (flat (encZ .u64) l) ∧ Below w.heap.size w w' :=
  (Words_any hM).mono fun _ _ ⟨he, ho, hb⟩ => ⟨_, he, Row.of_own ho, hb⟩
theorem fits_all {k : Nat} {T L r tall : Int} {s : LiM.St} (h : LiM.Ok L tall k s) (hr : Word r) {d : D} (hd : linkA T L r s = some d) : DM.Fits d := by
  rcases link_fits h hr hd with e | e
  · obtain ⟨st, lv, sk, ps, ss⟩ := s
    obtain rfl : st = 1 := e
    rw [linkA_1] at hd
    exact seek_fits h.ok hd
  · exact e
theorem done_none {T L r : Int} {s : LiM.St} (h : s.st = 0) : linkA T L r s = none := by simp [linkA, h]
/-- What being linked comes to, in plain lists. -/
theorem comes_fun {T N L : Nat} {r dl sq tall : Int} (hT : T ≤ 8) (hN : N ≤ 64) (hL : L ≤ 8) (hL1 : 1 ≤ L) {l : List Int} (hl : l.length = wordsN T N L) (hf : BM.Fits l) (hg : GoodW T L N l) (hr : Word r) (h1 : 1 ≤ idx r) (h2 : idx r ≤ (N : Int)) (he : r % 2 = 0) (ht : 1 ≤ tall)
    (hd : -9223372036854775808 ≤ dl ∧ dl ≤ 9223372036854775807) (hs : Word sq) (hap : ∀ h : Nat, h < L → ∀ c ∈ (chainI T L N l h).1, idx c ≠ idx r ∧ keyI T L l c ≠ (dl, sq)) :
    ∃ lf sf CH KN, alone (linkA T L r) (linkT L dl sq tall) 2000 (toldL T L l (idx r) (IntKind.u64.wrap dl) sq) (LiM.begin L 0) = (lf, sf) ∧ sf.st = 0 ∧ lf.length = wordsN T N L ∧ BM.Fits lf ∧ BM.Fits (toldL T L l (idx r) (IntKind.u64.wrap dl) sq) ∧ chainI T L N lf 0 = (CH, true) ∧ keptL T L N lf 0 = KN ∧ r ∈ CH ∧ KN.length = (keptL T L N l 0).length + 1 ∧
      (∀ x ∈ keptL T L N l 0, x ∈ KN) ∧ ∀ (k : Nat) (x y : Int), KN[k]? = some x → KN[k + 1]? = some y → OM.ltK (keyI T L lf x) (keyI T L lf y) = true := by
  have hdw : Word (IntKind.u64.wrap dl) := by rw [IntKind.wrap_u64]; unfold Word; omega
  have hdl : wrap64 (IntKind.u64.wrap dl) = dl := by rw [IntKind.wrap_u64]; unfold wrap64; omega
  have hmem : ∀ h : Nat, h < L → ∀ c ∈ (chainI T L N l h).1, 1 ≤ idx c ∧ idx c ≤ (N : Int) := fun h _ c hc => (chain_refs hf (h : Int)).1 c hc |>.2
  have hfl := told_fits (T := T) (L := L) hf hdw hs (idx r)
  obtain ⟨l0, hl0⟩ : ∃ l0, l0 = toldL T L l (idx r) (IntKind.u64.wrap dl) sq := ⟨_, rfl⟩
  have hown : keyI T L l0 r = (dl, sq) := by rw [hl0, told_own hT hN hL hl h1 h2, hdl]
  have hk : ∀ h : Nat, h < L → ∀ c ∈ (chainI T L N l h).1, keyI T L l0 c = keyI T L l c := fun h a c hc => by
    rw [hl0]
    exact told_key hT hN hL h1 h2 (hmem h a c hc).1 (hmem h a c hc).2 (hap h a c hc).1
  have hlen : l0.length = wordsN T N L := by rw [hl0, told_len]; exact hl
  obtain ⟨hg0, hch⟩ := chains_on hN hg (m := l0) (fun x h a b => by rw [hl0]; exact told_way hT hN hL h1 h2 a b) hk
  rw [← hl0] at hfl ⊢
  clear hl0
  obtain ⟨k, m, sk, q1, q2, q3⟩ := link_run (dl := dl) (sq := sq) (tall := tall) hT hN hL hL1 hlen hfl hg0 (fun g c hc => ((kept_refs hfl (g : Int)) c hc).1) hr h1 h2 he ht
    (fun h a c hc => by rw [(hch h a).1] at hc; rw [hk h a c hc]; exact hap h a c hc) hown 0
  obtain ⟨A, B, fr, c1, c2, c3⟩ := q3.low
  have hkp : keptL T L N m 0 = A.filter fr ++ r :: B.filter fr := by
    have h3 := kept_of hN c1
    exact h3.trans c2
  have hkl : keptL T L N l 0 = A.filter fr ++ B.filter fr := by
    have h4 := (hch 0 hL1).2
    exact h4.symm.trans c3
  refine ⟨m, _, _, _, alone_steps k 2000 _ _ _ _ q2 linkA_0 (by omega), rfl, q3.len, q3.fit, hfl, chain_is hN c1, hkp, by simp, ?_, ?_, ?_⟩
  · rw [hkl]; simp; omega
  · intro x hx
    rw [hkl, List.mem_append] at hx
    rcases hx with hx | hx <;> simp [hx]
  · intro j x y hx hy
    have hr := List.Pairwise.sublist (List.filter_sublist (p := freeB T L m 0)) c1.2.2
    rw [c2] at hr
    obtain ⟨hj, ex⟩ := List.getElem?_eq_some_iff.1 hx
    obtain ⟨hj2, ey⟩ := List.getElem?_eq_some_iff.1 hy
    have := List.pairwise_iff_getElem.1 hr j (j + 1) hj hj2 (by omega)
    rwa [ex, ey] at this

set_option maxHeartbeats 8000000 in
theorem walk_any (T N L G r dl sq tall : Int) (A : Option Addr) (l : List Int) (c : Nat) (w : World) (hR : Row w w.heap.size A (flat (encZ .u64) l)) (hl : l.length ≤ maxLen) (hf : BM.Fits l) (hL9 : L ≤ 9223372036854775807) (hr : Word r) (hd : -9223372036854775808 ≤ dl ∧ dl ≤ 9223372036854775807) (hs : Word sq) :
    Calls Tryz.prog 3 #[.agg #[.int .i64 T, .int .i64 N, .int .i64 L, .int .u64 G], .slice A l.length c, .agg #[.int .u64 r, .int .i64 dl, .int .u64 sq, .int .i64 tall]] w fun e w' => e = .returned (.bool true) ∧ Below w.heap.size w w' := by
  obtain ⟨n, hn⟩ : ∃ n, n = l.length := ⟨_, rfl⟩
  rw [← hn] at hl ⊢
  have HN := Lib.hid hn
  have HF := Lib.hid hf
  have HLM := Lib.hid hl
  have HROW := Lib.hid (show ∀ W, Below (w.heap.size + 2) ((w.alloc (.cells #[.int .i64 T, .int .i64 N, .int .i64 L, .int .u64 G] 24)).alloc (.cells #[.int .u64 r, .int .i64 dl, .int .u64 sq, .int .i64 tall] 29)) W → Row W W.heap.size A (flat (encZ .u64) l) from fun W hb => hR.later (past_old hb))
  have HBX := Lib.hid (show ∀ W, Below (w.heap.size + 2) ((w.alloc (.cells #[.int .i64 T, .int .i64 N, .int .i64 L, .int .u64 G] 24)).alloc (.cells #[.int .u64 r, .int .i64 dl, .int .u64 sq, .int .i64 tall] 29)) W → Boxes W w.heap.size T N L G r dl sq tall from fun W hb => (boxes_start w T N L G r dl sq tall).later (past_all hb))
  have HA := Lib.hid (And.intro hL9 (And.intro hr (And.intro hd hs)))
  obtain ⟨i, hi⟩ : ∃ i, i = idx r := ⟨_, rfl⟩
  have HI := Lib.hid (show ∀ W : World, Calls Tryz.prog 4 #[.int .u64 r] W fun e w' => e = .returned (.int .i64 i) ∧ W = w' from fun W => by rw [hi]; exact Refer.Index_any r hr.1 hr.2 W)
  have HIR := Lib.hid hi
  have HMK := Lib.hid (show ∀ W : World, Calls Tryz.prog 6 #[.int .u64 r] W fun e w' => e = .returned (.bool (decide (r % 2 = 1))) ∧ W = w' from fun W => Refer.Marked_any r hr.1 hr.2 W)
  have HGD := Lib.hid (show ∀ W, Below (w.heap.size + 2) ((w.alloc (.cells #[.int .i64 T, .int .i64 N, .int .i64 L, .int .u64 G] 24)).alloc (.cells #[.int .u64 r, .int .i64 dl, .int .u64 sq, .int .i64 tall] 29)) W → Calls Tryz.prog 5 #[.slice A n c, .agg #[.int .i64 T, .int .i64 N, .int .i64 L, .int .u64 G]] W fun e w' => ∃ b, e = .returned (.bool b) ∧ Below W.heap.size W w' ∧ (b = true → ∃ T' N' L' : Nat, T = T' ∧ N = N' ∧ L = L' ∧ rightB T N L G = true ∧ l.length = wordsN T' N' L' ∧ GoodW T' L' N' l) from fun W hb => Good_all c hn hl (HROW.out W hb) hf T N L G)
  unfold maxLen at hl
  clear hn hf hR hL9 hr hd hs hi
  have HB1 := Lib.hid (show Below (w.heap.size + 2) ((w.alloc (.cells #[.int .i64 T, .int .i64 N, .int .i64 L, .int .u64 G] 24)).alloc (.cells #[.int .u64 r, .int .i64 dl, .int .u64 sq, .int .i64 tall] 29)) ((w.alloc (.cells #[.int .i64 T, .int .i64 N, .int .i64 L, .int .u64 G] 24)).alloc (.cells #[.int .u64 r, .int .i64 dl, .int .u64 sq, .int .i64 tall] 29)) from Below.refl _ _)
  obtain ⟨⟨c_0, c_1, c_2, c_3⟩, k_0, k_1, k_2, k_3⟩ := HBX.out _ HB1.out
  go_enter Tryz.func3, Tryz.ntmps3
  go_wp2_with fail
  refine (HI.out _).mono ?_
  rintro e w' ⟨rfl, rfl⟩
  go_wp2_with fail
  refine (HGD.out _ HB1.out).mono ?_
  rintro e w1 ⟨b, rfl, b1, hb⟩
  have HB2 := Lib.hid (past_later HB1.out b1)
  clear b1 c_0 c_1 c_2 c_3 k_0 k_1 k_2 k_3
  obtain ⟨⟨c_0, c_1, c_2, c_3⟩, k_0, k_1, k_2, k_3⟩ := HBX.out _ HB2.out
  cases b with
  | false =>
    clear hb
    go_wp2_with fail
    refine (awake_any _).mono ?_
    rintro e w2 ⟨rfl, b2⟩
    go_wp2
    go_ret
    exact ⟨rfl, chain (past_old HB2.out) b2⟩
  | true =>
    by_cases hi1 : i < 1
    · have d1 : decide (i < 1) = true := decide_eq_true hi1
      clear hb
      go_wp2_with fail
      refine (awake_any _).mono ?_
      rintro e w2 ⟨rfl, b2⟩
      go_wp2
      go_ret
      exact ⟨rfl, chain (past_old HB2.out) b2⟩
    have d1 : decide (i < 1) = false := decide_eq_false hi1
    by_cases hi2 : N < i
    · have d2 : decide (N < i) = true := decide_eq_true hi2
      clear hb
      go_wp2_with fail
      refine (awake_any _).mono ?_
      rintro e w2 ⟨rfl, b2⟩
      go_wp2
      go_ret
      exact ⟨rfl, chain (past_old HB2.out) b2⟩
    have d2 : decide (N < i) = false := decide_eq_false hi2
    by_cases hm : r % 2 = 1
    · rw [decide_eq_true hm] at HMK
      clear hb hm
      go_wp2_with fail
      refine (HMK.out _).mono ?_
      rintro e w' ⟨rfl, rfl⟩
      go_wp2_with fail
      refine (awake_any _).mono ?_
      rintro e w2 ⟨rfl, b2⟩
      go_wp2
      go_ret
      exact ⟨rfl, chain (past_old HB2.out) b2⟩
    rw [decide_eq_false hm] at HMK
    have HM := Lib.hid hm
    clear hm
    by_cases ht : tall < 1
    · have d3 : decide (tall < 1) = true := decide_eq_true ht
      clear hb
      go_wp2_with fail
      refine (HMK.out _).mono ?_
      rintro e w' ⟨rfl, rfl⟩
      go_wp2_with fail
      refine (awake_any _).mono ?_
      rintro e w2 ⟨rfl, b2⟩
      go_wp2
      go_ret
      exact ⟨rfl, chain (past_old HB2.out) b2⟩
    have d3 : decide (tall < 1) = false := decide_eq_false ht
    obtain ⟨T, N, L, rfl, rfl, rfl, hright, hlen, hg⟩ := hb rfl
    obtain ⟨t1, t8, s1, s64, l1, l8⟩ := right_nat hright
    have hn4 : n ≤ 4096 := by rw [HN.out, hlen]; exact words_small (by omega) (by omega) (by omega)
    have HIX := Lib.hid (show ∀ (y : Int) (W : World), Word y → Calls Tryz.prog 4 #[.int .u64 y] W fun e w' => e = .returned (.int .i64 (idx y)) ∧ W = w' from fun y W hy => Refer.Index_any y hy.1 hy.2 W)
    have HCH := Lib.hid (show ∀ (h : Nat) W, Below (w.heap.size + 2) ((w.alloc (.cells #[.int .i64 T, .int .i64 N, .int .i64 L, .int .u64 G] 24)).alloc (.cells #[.int .u64 r, .int .i64 dl, .int .u64 sq, .int .i64 tall] 29)) W → Calls Tryz.prog 8 #[.slice A n c, .agg #[.int .i64 T, .int .i64 N, .int .i64 L, .int .u64 G], .int .i64 h] W (Chained W (chainI T L N l h)) from fun h W hb => Chain_any c HN.out (by omega) (HROW.out W hb) HF.out s64 h)
    have HKY := Lib.hid (show ∀ (y : Int) W, Word y → Below (w.heap.size + 2) ((w.alloc (.cells #[.int .i64 T, .int .i64 N, .int .i64 L, .int .u64 G] 24)).alloc (.cells #[.int .u64 r, .int .i64 dl, .int .u64 sq, .int .i64 tall] 29)) W → Calls Tryz.prog 9 #[.slice A n c, .agg #[.int .i64 T, .int .i64 N, .int .i64 L, .int .u64 G], .int .u64 y] W fun e w' => e = .returned (.agg #[.int .i64 (keyI T L l y).1, .int .u64 (keyI T L l y).2]) ∧ Below W.heap.size W w' from fun y W hy hb => Key_any c HN.out (by omega) (HROW.out W hb) T N L G hy)
    have HRF := Lib.hid (show ∀ h : Nat, (∀ y ∈ (chainI T L N l h).1, Word y) ∧ (chainI T L N l h).1.length ≤ 64 from fun h => ⟨fun y hy => ((chain_refs HF.out (h : Int)).1 y hy).1, Nat.le_trans (chain_few HF.out (h : Int)) s64⟩)
    have HEND := Lib.hid (show (∀ h : Nat, h < L → ∀ c ∈ (chainI T L N l h).1, idx c ≠ i ∧ keyI T L l c ≠ (dl, sq)) →
      ∃ lf sf CH KN, alone (linkA T L r) (linkT L dl sq tall) 2000 (toldL T L l i (IntKind.u64.wrap dl) sq) (LiM.begin L 0) = (lf, sf) ∧ sf.st = 0 ∧ lf.length = wordsN T N L ∧ BM.Fits lf ∧ BM.Fits (toldL T L l i (IntKind.u64.wrap dl) sq) ∧ chainI T L N lf 0 = (CH, true) ∧ keptL T L N lf 0 = KN ∧ r ∈ CH ∧ KN.length = (keptL T L N l 0).length + 1 ∧
        (∀ x ∈ keptL T L N l 0, x ∈ KN) ∧ ∀ (k : Nat) (x y : Int), KN[k]? = some x → KN[k + 1]? = some y → OM.ltK (keyI T L lf x) (keyI T L lf y) = true from by
      rw [HIR.out]
      exact comes_fun (by omega) s64 (by omega) (by omega) hlen HF.out hg HA.out.2.1 (by rw [← HIR.out]; omega) (by rw [← HIR.out]; omega) (by have := HM.out; omega) (by omega) HA.out.2.2.1 HA.out.2.2.2)
    generalize hch : chainI (T : Int) (L : Int) (N : Int) l = ch at HCH HRF HEND
    generalize hky : keyI (T : Int) (L : Int) l = key at HKY HEND
    clear hg hch hky
    go_wp2_with fail
    refine (HMK.out _).mono ?_
    rintro e w' ⟨rfl, rfl⟩
    go_wp2
    go_loopw [8] (fun hv wr => ∃ h : Nat, h ≤ L ∧ hv = .int .i64 h ∧ (∀ g : Nat, g < h → ∀ c ∈ (ch g).1, idx c ≠ i ∧ key c ≠ (dl, sq)) ∧ Below (w.heap.size + 2) ((w.alloc (.cells #[.int .i64 T, .int .i64 N, .int .i64 L, .int .u64 G] 24)).alloc (.cells #[.int .u64 r, .int .i64 dl, .int .u64 sq, .int .i64 tall] 29)) wr) (fun hv _ => L - (intOf hv).toNat)
    case atStart => exact ⟨0, Nat.zero_le _, rfl, fun g e => by omega, HB2.out⟩
    case round =>
      obtain ⟨h, hh, rfl, hall, hb⟩ := hrel
      have HALL := Lib.hid hall
      have HB := Lib.hid hb
      clear hall hb c_0 c_1 c_2 c_3 k_0 k_1 k_2 k_3
      obtain ⟨⟨c_0, c_1, c_2, c_3⟩, k_0, k_1, k_2, k_3⟩ := HBX.out _ HB.out
      by_cases hlt : h < L
      · have hil : (h : Int) < (L : Int) := by omega
        go_wp2_with fail
        refine (HCH.out h _ HB.out).mono ?_
        rintro e w3 ⟨A2, n2, d2', rfl, h2, r2, -, b3⟩
        have HB3 := Lib.hid (past_later HB.out b3)
        have HR2 := Lib.hid r2
        have HN2 := Lib.hid h2
        have hn2 : n2 ≤ 64 := by have := (HRF.out h).2; omega
        clear r2 h2 b3 c_0 c_1 c_2 c_3 k_0 k_1 k_2 k_3
        generalize (ch h).2 = okv
        go_wp2
        go_loopw [11] (fun kv wr => ∃ k : Nat, k ≤ n2 ∧ kv = .int .i64 k ∧ Row wr wr.heap.size A2 (flat (encZ .u64) (ch h).1) ∧ Below (w.heap.size + 2) ((w.alloc (.cells #[.int .i64 T, .int .i64 N, .int .i64 L, .int .u64 G] 24)).alloc (.cells #[.int .u64 r, .int .i64 dl, .int .u64 sq, .int .i64 tall] 29)) wr ∧ ∀ c ∈ (ch h).1.take k, idx c ≠ i ∧ key c ≠ (dl, sq)) (fun kv _ => n2 - (intOf kv).toNat)
        case atStart => exact ⟨0, Nat.zero_le _, rfl, HR2.out, HB3.out, fun c hc => by simp at hc⟩
        case round =>
          obtain ⟨k, hk, rfl, hrow, hb, hin⟩ := hrel
          have HRK := Lib.hid hrow
          have HBK := Lib.hid hb
          have HIN := Lib.hid hin
          clear hin hb
          obtain ⟨⟨c_0, c_1, c_2, c_3⟩, k_0, k_1, k_2, k_3⟩ := HBX.out _ HBK.out
          by_cases hkl : k < n2
          · have hil2 : (k : Int) < (n2 : Int) := by omega
            obtain ⟨y, hy⟩ : ∃ y, (ch h).1[k]? = some y := ⟨_, List.getElem?_eq_getElem (by have := HN2.out; omega)⟩
            have HY := Lib.hid ((HRF.out h).1 y (List.mem_of_getElem? hy))
            have HTS := Lib.hid (show (ch h).1.take (k + 1) = (ch h).1.take k ++ [y] from by rw [List.take_add_one, hy]; rfl)
            obtain ⟨b0, o0, ea, -, hc0⟩ := int_at hrow (show k < (ch h).1.length by have := HN2.out; omega)
            subst ea
            have q0 := hc0 k y hy
            have C_0 := fun p : After wr => p.cell c_0
            have C_1 := fun p : After wr => p.cell c_1
            have C_2 := fun p : After wr => p.cell c_2
            have C_3 := fun p : After wr => p.cell c_3
            have K_1 := fun p : After wr => p.cell k_1
            have K_2 := fun p : After wr => p.cell k_2
            have Q_0 := fun p : After wr => p.cell q0
            have HPQ := Lib.hid (show ∀ p : After wr, Below (w.heap.size + 2) ((w.alloc (.cells #[.int .i64 T, .int .i64 N, .int .i64 L, .int .u64 G] 24)).alloc (.cells #[.int .u64 r, .int .i64 dl, .int .u64 sq, .int .i64 tall] 29)) p.x from fun p => past_later HBK.out p.ok)
            have HIY := Lib.hid (fun W => HIX.out y W HY.out)
            have HKQ := Lib.hid (fun W hb => HKY.out y W HY.out hb)
            clear hc0 hy q0 c_0 c_1 c_2 c_3 k_0 k_1 k_2 k_3 hrow
            by_cases hyi : idx y = i
            · have e1 : (idx y == i) = true := by simpa using hyi
              go_wp2
              refine wp_region_after mixed (by kernel_rfl) ?_
              repeat (first | go_big_quiet_step ((first | (with_reducible exact calls_after_same (HIY.out _)) | (with_reducible exact calls_after (HKQ.out _ (HPQ.out _))))) | quiet_step ((first | (with_reducible exact calls_after_same (HIY.out _)) | (with_reducible exact calls_after (HKQ.out _ (HPQ.out _))))))
              refine wpQuiet_nil ?_
              intro _ hw'
              obtain ⟨pq, hw''⟩ := hw'
              subst hw''
              have HQ := Lib.hid (HPQ.out pq)
              generalize pq.x = wq at HQ ⊢
              go_wp2_with fail
              refine (awake_any _).mono ?_
              rintro e w2 ⟨rfl, b2⟩
              go_wp2
              go_ret
              exact ⟨rfl, chain (past_old HQ.out) b2⟩
            · have e1 : (idx y == i) = false := by simpa using hyi
              have HYI := Lib.hid hyi
              have HKE := Lib.hid (show key y = ((key y).1, (key y).2) from rfl)
              generalize (key y).1 = x1 at HKQ HKE
              generalize (key y).2 = x2 at HKQ HKE
              have N1 := fun W => eqlK x1 x2 dl sq W
              clear hyi
              by_cases hkq : x1 = dl ∧ x2 = sq
              · obtain ⟨rfl, rfl⟩ := hkq
                simp only [and_self, decide_true] at N1
                go_wp2
                refine wp_region_after mixed (by kernel_rfl) ?_
                repeat (first | go_big_quiet_step ((first | (with_reducible exact calls_after_same (HIY.out _)) | (with_reducible exact calls_after (HKQ.out _ (HPQ.out _))))) | quiet_step ((first | (with_reducible exact calls_after_same (HIY.out _)) | (with_reducible exact calls_after (HKQ.out _ (HPQ.out _))))))
                refine wpQuiet_nil ?_
                intro _ hw'
                obtain ⟨pq, hw''⟩ := hw'
                subst hw''
                have HQ := Lib.hid (HPQ.out pq)
                generalize pq.x = wq at HQ ⊢
                go_wp2_with fail
                refine (awake_any _).mono ?_
                rintro e w2 ⟨rfl, b2⟩
                go_wp2
                go_ret
                exact ⟨rfl, chain (past_old HQ.out) b2⟩
              · simp only [decide_eq_false hkq] at N1
                have HNW := Lib.hid (show ∀ c ∈ (ch h).1.take (k + 1), idx c ≠ i ∧ key c ≠ (dl, sq) from fun c hc => by
                  rw [HTS.out, List.mem_append, List.mem_singleton] at hc
                  rcases hc with hc | rfl
                  · exact HIN.out c hc
                  · exact ⟨HYI.out, fun e => hkq (by rw [HKE.out] at e; exact Prod.mk.inj e)⟩)
                clear hkq
                go_wp2
                refine wp_region_after mixed (by kernel_rfl) ?_
                repeat (first | go_big_quiet_step ((first | (with_reducible exact calls_after_same (HIY.out _)) | (with_reducible exact calls_after (HKQ.out _ (HPQ.out _))))) | quiet_step ((first | (with_reducible exact calls_after_same (HIY.out _)) | (with_reducible exact calls_after (HKQ.out _ (HPQ.out _))))))
                refine wpQuiet_nil ?_
                intro _ hw'
                obtain ⟨pq, hw''⟩ := hw'
                subst hw''
                have hq := pq.ok
                have HQ := Lib.hid (And.intro (HPQ.out pq) (HRK.out.later hq))
                generalize pq.x = wq at hq HQ ⊢
                go_wp2
                go_roundw
                case rel => exact ⟨k + 1, by omega, by go_num, HQ.out.2, HQ.out.1, HNW.out⟩
                case measure => simp [intOf]; omega
          · obtain rfl : k = n2 := by omega
            have HNW := Lib.hid (show ∀ g : Nat, g < h + 1 → ∀ c ∈ (ch g).1, idx c ≠ i ∧ key c ≠ (dl, sq) from fun g hg => by
              by_cases e : g = h
              · subst e
                intro c hc
                exact HIN.out c (by rw [List.take_of_length_le (by have := HN2.out; omega)]; exact hc)
              · exact HALL.out g (by omega))
            clear hrow
            go_wp2
            go_roundw
            case rel => exact ⟨h + 1, by omega, by go_num, HNW.out, HBK.out⟩
            case measure => simp [intOf]; omega
      · obtain rfl : L = h := by omega
        obtain ⟨lf, sf, CH, KN, hal, hst, hlf, hff, hfl, hchn, hkn, hrc, hkl, hkm, hkr⟩ := HEND.out HALL.out
        have HLF := Lib.hid (show n = lf.length by rw [hlf, ← hlen]; exact HN.out)
        have HFF := Lib.hid hff
        have HFL := Lib.hid hfl
        have HST := Lib.hid hst
        have HAL := Lib.hid hal
        have HLK := Lib.hid (show 1 ≤ (L : Int) by omega)
        have HK0 := Lib.hid (show ∀ W, Below (w.heap.size + 2) ((w.alloc (.cells #[.int .i64 T, .int .i64 N, .int .i64 L, .int .u64 G] 24)).alloc (.cells #[.int .u64 r, .int .i64 dl, .int .u64 sq, .int .i64 tall] 29)) W → Calls Tryz.prog 19 #[.slice A n c, .agg #[.int .i64 T, .int .i64 N, .int .i64 L, .int .u64 G], .int .i64 0] W (SeekRef.Listed W (keptL T L N l 0)) from fun W hb => Kept_any c HN.out (by omega) (HROW.out W hb) HF.out s64 0)
        have HK1 := Lib.hid (show ∀ (A7 : Option Addr) (c7 : Nat) W, Row W W.heap.size A7 (flat (encZ .u64) lf) → Calls Tryz.prog 19 #[.slice A7 n c7, .agg #[.int .i64 T, .int .i64 N, .int .i64 L, .int .u64 G], .int .i64 0] W (SeekRef.Listed W KN) from fun A7 c7 W hr => by
          rw [← hkn]
          exact Kept_any c7 HLF.out (by omega) hr HFF.out s64 0)
        have HC1 := Lib.hid (show ∀ (A7 : Option Addr) (c7 : Nat) W, Row W W.heap.size A7 (flat (encZ .u64) lf) → Calls Tryz.prog 8 #[.slice A7 n c7, .agg #[.int .i64 T, .int .i64 N, .int .i64 L, .int .u64 G], .int .i64 0] W (Chained W (CH, true)) from fun A7 c7 W hr => by
          rw [← hchn]
          exact Chain_any c7 HLF.out (by omega) hr HFF.out s64 0)
        have HY1 := Lib.hid (show ∀ (A7 : Option Addr) (c7 : Nat) (y : Int) W, Word y → Row W W.heap.size A7 (flat (encZ .u64) lf) → Calls Tryz.prog 9 #[.slice A7 n c7, .agg #[.int .i64 T, .int .i64 N, .int .i64 L, .int .u64 G], .int .u64 y] W fun e w' => e = .returned (.agg #[.int .i64 (keyI T L lf y).1, .int .u64 (keyI T L lf y).2]) ∧ Below W.heap.size W w' from fun A7 c7 y W hy hr => Key_any c7 HLF.out (by omega) hr T N L G hy)
        have HKW := Lib.hid (show (∀ y ∈ KN, Word y) ∧ KN.length ≤ 64 ∧ CH.length ≤ 64 from by
          have h1 := kept_refs (T := (T : Int)) (L := (L : Int)) (N := N) hff 0
          have h2 := kept_few (T := (T : Int)) (L := (L : Int)) (N := N) hff 0
          have h3 := chain_few (T := (T : Int)) (L := (L : Int)) (N := N) hff 0
          rw [hkn] at h1 h2
          rw [hchn] at h3
          exact ⟨fun y hy => (h1 y hy).1, Nat.le_trans h2 s64, Nat.le_trans h3 s64⟩)
        have HRC := Lib.hid hrc
        have HKR := Lib.hid hkr
        have HKK := Lib.hid (And.intro hkl hkm)
        generalize keptL (T : Int) (L : Int) (N : Int) l 0 = WAS at HK0 HKK
        generalize keyI (T : Int) (L : Int) lf = kf at HY1 HKR
        have HDE := Lib.hid (fun W : World => Plan.Dead_any T N L G i W)
        have HSE := Lib.hid (fun W : World => Plan.Seq_any T N L G i W)
        have HKP := Lib.hid (show ∀ W, Below (w.heap.size + 2) ((w.alloc (.cells #[.int .i64 T, .int .i64 N, .int .i64 L, .int .u64 G] 24)).alloc (.cells #[.int .u64 r, .int .i64 dl, .int .u64 sq, .int .i64 tall] 29)) W → (W.cell? ⟨w.heap.size, 0, none⟩ = some (.int .i64 T) ∧ W.cell? ⟨w.heap.size, 1, none⟩ = some (.int .i64 N) ∧ W.cell? ⟨w.heap.size, 2, none⟩ = some (.int .i64 L) ∧ W.cell? ⟨w.heap.size, 3, none⟩ = some (.int .u64 G)) ∧ W.cell? ⟨w.heap.size + 1, 0, none⟩ = some (.int .u64 r) ∧ W.cell? ⟨w.heap.size + 1, 1, none⟩ = some (.int .i64 dl) ∧ W.cell? ⟨w.heap.size + 1, 2, none⟩ = some (.int .u64 sq) ∧ W.cell? ⟨w.heap.size + 1, 3, none⟩ = some (.int .i64 tall) from fun W hb => HBX.out W hb)
        clear hal hst hlf hff hfl hchn hkn hrc hkl hkm hkr hlen
        go_wp2_with fail
        refine (Of_any (HROW.out _ HB.out) HN.out hn4).mono ?_
        rintro e w2 ⟨pc, hc, rfl, m2, p2, h2, b2⟩
        have HB2 := Lib.hid (past_later HB.out b2)
        have HM2 := Lib.hid m2
        have HP2 := Lib.hid (show w.heap.size + 2 ≤ pc ∧ w.heap.size + 2 ≤ hc from by have h3 := HB.out.size; simp only [World.size_alloc] at h3; omega)
        clear m2 p2 h2 b2 c_0 c_1 c_2 c_3 k_0 k_1 k_2 k_3
        go_upto_region 14 with fail
        have HD2 := Lib.hid (show Below (w.heap.size + 2) ((w.alloc (.cells #[.int .i64 T, .int .i64 N, .int .i64 L, .int .u64 G] 24)).alloc (.cells #[.int .u64 r, .int .i64 dl, .int .u64 sq, .int .i64 tall] 29)) w2.drew from HB2.out.drew)
        go_region_held3 (fun W => (W.cell? ⟨w.heap.size, 0, none⟩ = some (.int .i64 T) ∧ W.cell? ⟨w.heap.size, 1, none⟩ = some (.int .i64 N) ∧ W.cell? ⟨w.heap.size, 2, none⟩ = some (.int .i64 L) ∧ W.cell? ⟨w.heap.size, 3, none⟩ = some (.int .u64 G)) ∧ W.cell? ⟨w.heap.size + 1, 0, none⟩ = some (.int .u64 r) ∧ W.cell? ⟨w.heap.size + 1, 1, none⟩ = some (.int .i64 dl) ∧ W.cell? ⟨w.heap.size + 1, 2, none⟩ = some (.int .u64 sq) ∧ W.cell? ⟨w.heap.size + 1, 3, none⟩ = some (.int .i64 tall))
          ((first | (with_reducible exact HKP.out _ HD2.out) | (with_reducible assumption) | (with_reducible exact HKP.out _ HD3.out) | (with_reducible exact HKP.out _ HD4.out)))
          (first
            | (go_at_call 12; refine (HDE.out _).mono ?_; rintro e w3 ⟨rfl, hb⟩; have HB3 := Lib.hid (show Below w2.heap.size w2 w3 from (Below.refl _ _).drew.trans hb); have HD3 := Lib.hid (past_later HB2.out HB3.out); clear hb)
            | (go_at_call 11; refine (Store_any (HM2.out.later HB3.out) _ _).mono ?_; rintro e w4 ⟨rfl, g4, m4⟩; have HM4 := Lib.hid m4; have HD4 := Lib.hid (show Below (w.heap.size + 2) ((w.alloc (.cells #[.int .i64 T, .int .i64 N, .int .i64 L, .int .u64 G] 24)).alloc (.cells #[.int .u64 r, .int .i64 dl, .int .u64 sq, .int .i64 tall] 29)) w4 from HD3.out.trans ((only_grown (R := fun k => k = hc) g4 fun k e => by cases e; rfl).below (by have h3 := HD3.out.size; simp only [World.size_alloc] at h3; omega) (fun k e => by subst e; exact HP2.out.2))); clear g4 m4))
        clear HB3 HD3
        go_upto_region 15 with fail
        have HD5 := Lib.hid (show Below (w.heap.size + 2) ((w.alloc (.cells #[.int .i64 T, .int .i64 N, .int .i64 L, .int .u64 G] 24)).alloc (.cells #[.int .u64 r, .int .i64 dl, .int .u64 sq, .int .i64 tall] 29)) w4.drew from HD4.out.drew)
        go_region_held3 (fun W => (W.cell? ⟨w.heap.size, 0, none⟩ = some (.int .i64 T) ∧ W.cell? ⟨w.heap.size, 1, none⟩ = some (.int .i64 N) ∧ W.cell? ⟨w.heap.size, 2, none⟩ = some (.int .i64 L) ∧ W.cell? ⟨w.heap.size, 3, none⟩ = some (.int .u64 G)) ∧ W.cell? ⟨w.heap.size + 1, 0, none⟩ = some (.int .u64 r) ∧ W.cell? ⟨w.heap.size + 1, 1, none⟩ = some (.int .i64 dl) ∧ W.cell? ⟨w.heap.size + 1, 2, none⟩ = some (.int .u64 sq) ∧ W.cell? ⟨w.heap.size + 1, 3, none⟩ = some (.int .i64 tall))
          ((first | (with_reducible exact HKP.out _ HD5.out) | (with_reducible assumption) | (with_reducible exact HKP.out _ HD6.out) | (with_reducible exact HKP.out _ HD7.out)))
          (first
            | (go_at_call 13; refine (HSE.out _).mono ?_; rintro e w5 ⟨rfl, hb⟩; have HB6 := Lib.hid (show Below w4.heap.size w4 w5 from (Below.refl _ _).drew.trans hb); have HD6 := Lib.hid (past_later HD4.out HB6.out); clear hb)
            | (go_at_call 11; refine (Store_any (HM4.out.later HB6.out) _ _).mono ?_; rintro e w6 ⟨rfl, g6, m6⟩; have HM6 := Lib.hid (show Mem w6 pc hc n (toldL T L l i (IntKind.u64.wrap dl) sq) from m6); have HD7 := Lib.hid (show Below (w.heap.size + 2) ((w.alloc (.cells #[.int .i64 T, .int .i64 N, .int .i64 L, .int .u64 G] 24)).alloc (.cells #[.int .u64 r, .int .i64 dl, .int .u64 sq, .int .i64 tall] 29)) w6 from HD6.out.trans ((only_grown (R := fun k => k = hc) g6 fun k e => by cases e; rfl).below (by have h3 := HD6.out.size; simp only [World.size_alloc] at h3; omega) (fun k e => by subst e; exact HP2.out.2))); clear g6 m6))
        clear HB6 HD6 HD5 HD2 HM4 HM2
        obtain ⟨⟨c_0, c_1, c_2, c_3⟩, k_0, k_1, k_2, k_3⟩ := HKP.out _ HD7.out
        go_wp2_with fail
        refine (Link_any T N L G r dl sq tall ⟨HLK.out, HA.out.1⟩ HA.out.2.1 _).mono ?_
        rintro e w7 ⟨q, Q, rfl, s7, q7, b7⟩
        have HB7 := Lib.hid (past_later HD7.out b7)
        have H7 := Lib.hid (show Amid (w.heap.size + 2) pc hc n q T N L G r dl sq tall lf sf 0 w7 from ⟨_, _, Q, by omega, HM6.out.later b7, HFL.out, s7, HAL.out, fun e => by have h4 := (q7 _ e).1; have h5 := HM6.out.lt; omega, fun e => by have h4 := (q7 _ e).1; have h5 := HM6.out.lt; omega, fun k e => by have h4 := (q7 _ e).1; have h5 := HD7.out.size; simp only [World.size_alloc] at h5; omega⟩)
        clear s7 q7 b7 c_0 c_1 c_2 c_3 k_0 k_1 k_2 k_3
        go_wp2
        go_loopw [15] (fun jv wr => ∃ j : Nat, jv = .int .i64 j ∧ Amid (w.heap.size + 2) pc hc n q T N L G r dl sq tall lf sf j wr ∧ Below (w.heap.size + 2) ((w.alloc (.cells #[.int .i64 T, .int .i64 N, .int .i64 L, .int .u64 G] 24)).alloc (.cells #[.int .u64 r, .int .i64 dl, .int .u64 sq, .int .i64 tall] 29)) wr) (fun jv _ => 5000 - (intOf jv).toNat)
        case atStart => exact ⟨0, rfl, H7.out, HB7.out⟩
        case round =>
          obtain ⟨j, rfl, ⟨m, s, S, hj, hm, hfm, hs, ha, hnp, hnh, hSB⟩, hb⟩ := hrel
          have HM := Lib.hid hm
          have HFM := Lib.hid hfm
          have HS := Lib.hid hs
          have HAJ := Lib.hid ha
          have HNS := Lib.hid (And.intro hnp (And.intro hnh hSB))
          have HBJ := Lib.hid hb
          have hj4 : (j : Int) < 5000 := by omega
          have HNX := Lib.hid (Link_next hs)
          clear hm hfm hs ha hnp hnh hSB hb
          cases hx : linkA (T : Int) (L : Int) r s with
          | none =>
            have HE := Lib.hid (show m = lf ∧ s = sf by have := HAJ.out; rw [alone_done hx] at this; simpa using this)
            rw [hx] at HNX
            clear hx
            go_wp2_with fail
            refine HNX.out.mono ?_
            rintro e w4 ⟨rfl, b4⟩
            simp only [Option.getD_none, Option.isSome_none]
            have HB4 := Lib.hid (b4.trans ((box_below w4 (.cells #[.int .i64 0, .int .i64 0, .int .u64 0, .int .u64 0, .int .u64 0] 46)).mono b4.size))
            clear b4
            have HP4 := Lib.hid (past_later HBJ.out HB4.out)
            have HM4 := Lib.hid (show Mem (w4.alloc (.cells #[.int .i64 0, .int .i64 0, .int .u64 0, .int .u64 0, .int .u64 0] 46)) pc hc n lf from HE.out.1 ▸ HM.out.later HB4.out)
            have HN4 := Lib.hid (Link_next ((HE.out.2 ▸ HS.out).later HB4.out))
            rw [done_none HST.out] at HN4
            go_wp2_with fail
            refine HN4.out.mono ?_
            rintro e w5 ⟨rfl, b5⟩
            simp only [Option.getD_none, Option.isSome_none]
            have HB5 := Lib.hid (b5.trans ((box_below w5 (.cells #[.int .i64 0, .int .i64 0, .int .u64 0, .int .u64 0, .int .u64 0] 46)).mono b5.size))
            have HP5 := Lib.hid (past_later HP4.out HB5.out)
            have HM5 := Lib.hid (HM4.out.later HB5.out)
            clear b5 HB4 HB5 HN4 HP4 HM4 HE HS HM HFM HNS HBJ HAJ HNX
            obtain ⟨⟨c_0, c_1, c_2, c_3⟩, k_0, k_1, k_2, k_3⟩ := HKP.out _ HP5.out
            go_wp2_with fail
            refine (Words_new HM5.out).mono ?_
            rintro e w7 ⟨A7, rfl, r7, b7⟩
            have HP7 := Lib.hid (past_later HP5.out b7)
            have HR7 := Lib.hid r7
            clear r7 b7 c_0 c_1 c_2 c_3 k_0 k_1 k_2 k_3
            obtain ⟨⟨c_0, c_1, c_2, c_3⟩, k_0, k_1, k_2, k_3⟩ := HKP.out _ HP7.out
            go_wp2_with fail
            refine (HK0.out _ HP7.out).mono ?_
            rintro e w8 ⟨A8, n8, c8, rfl, h8, r8, -, b8⟩
            have HP8 := Lib.hid (past_later HP7.out b8)
            have HR8 := Lib.hid (And.intro h8 (And.intro r8 (HR7.out.later b8)))
            clear r8 h8 b8 c_0 c_1 c_2 c_3 k_0 k_1 k_2 k_3
            obtain ⟨⟨c_0, c_1, c_2, c_3⟩, k_0, k_1, k_2, k_3⟩ := HKP.out _ HP8.out
            go_wp2_with fail
            refine (HK1.out A7 n _ HR8.out.2.2).mono ?_
            rintro e w9 ⟨A9, n9, c9, rfl, h9, r9, -, b9⟩
            have HP9 := Lib.hid (past_later HP8.out b9)
            have HR9 := Lib.hid (And.intro h9 (And.intro r9 (And.intro (HR8.out.2.1.later b9) (HR8.out.2.2.later b9))))
            clear r9 h9 b9 c_0 c_1 c_2 c_3 k_0 k_1 k_2 k_3
            obtain ⟨⟨c_0, c_1, c_2, c_3⟩, k_0, k_1, k_2, k_3⟩ := HKP.out _ HP9.out
            go_wp2_with fail
            refine (HC1.out A7 n _ HR9.out.2.2.2).mono ?_
            rintro e w10 ⟨A10, n10, c10, rfl, h10, r10, -, b10⟩
            have HP10 := Lib.hid (past_later HP9.out b10)
            have HRW := Lib.hid (And.intro (HR9.out.2.2.1.later b10) (And.intro (HR9.out.2.1.later b10) (HR9.out.2.2.2.later b10)))
            have HH10 := Lib.hid (Has_is (c := c10) (decide_eq_true HRC.out) h10 (by have := HKW.out.2.2; simp only at h10; omega) r10)
            have h98 : n9 = n8 + 1 := by rw [HR9.out.1, HR8.out.1]; exact HKK.out.1
            have hn9 : n9 ≤ 64 := by rw [HR9.out.1]; exact HKW.out.2.1
            have hn8 : n8 ≤ 64 := by rw [h98] at hn9; exact Nat.le_of_succ_le hn9
            have hww : IntKind.i64.wrap ((n8 : Int) + 1) = (n9 : Int) := by rw [h98, show ((n8 + 1 : Nat) : Int) = (n8 : Int) + 1 by omega]; exact IntWalk.i64_in _ ⟨by omega, by omega⟩
            have hw2 : wrap64 ((n8 : Int) + 1) = (n9 : Int) := by rw [h98]; unfold wrap64; omega
            have hne : ((n9 : Int) != (n9 : Int)) = false := by simp
            have H98 := Lib.hid h98
            clear h10 r10 b10 h98 c_0 c_1 c_2 c_3 k_0 k_1 k_2 k_3
            obtain ⟨⟨c_0, c_1, c_2, c_3⟩, k_0, k_1, k_2, k_3⟩ := HKP.out _ HP10.out
            go_wp2_with fail
            refine HH10.out.mono ?_
            rintro e w' ⟨rfl, rfl⟩
            clear hne hww hw2
            go_wp2
            go_loopw [25] (fun kv wr => ∃ k : Nat, k ≤ n8 ∧ kv = .int .i64 k ∧ Below w10.heap.size w10 wr) (fun kv _ => n8 - (intOf kv).toNat)
            case atStart => exact ⟨0, Nat.zero_le _, rfl, Below.refl _ _⟩
            case round =>
              obtain ⟨k, hk, rfl, hb⟩ := hrel
              have HBK := Lib.hid hb
              have HPK := Lib.hid (past_later HP10.out hb)
              clear hb c_0 c_1 c_2 c_3 k_0 k_1 k_2 k_3
              obtain ⟨⟨c_0, c_1, c_2, c_3⟩, k_0, k_1, k_2, k_3⟩ := HKP.out _ HPK.out
              have H8 := HR8.out.1
              have H9 := HR9.out.1
              by_cases hk8 : k < n8
              · have hik : (k : Int) < (n8 : Int) := by omega
                obtain ⟨y, hy⟩ : ∃ y, WAS[k]? = some y := ⟨_, List.getElem?_eq_getElem (by omega)⟩
                obtain ⟨v, hv⟩ : ∃ v, KN[k]? = some v := ⟨_, List.getElem?_eq_getElem (by have := H98.out; omega)⟩
                obtain ⟨b1, o1, ea, -, hc1⟩ := int_at (HRW.out.1.later HBK.out) (show k < WAS.length by omega)
                obtain ⟨b2, o2, eb, -, hc2⟩ := int_at (HRW.out.2.1.later HBK.out) (show k < KN.length by have := H98.out; omega)
                have q1 := hc1 k y hy
                have q2 := hc2 k v hv
                have HHY := Lib.hid fun p : After wr => Has_is (c := c9) (decide_eq_true (HKK.out.2 y (List.mem_of_getElem? hy))) H9 (by omega) ((HRW.out.2.1.later HBK.out).after p)
                have HR7W := Lib.hid (HRW.out.2.2.later HBK.out)
                have HV := Lib.hid hv
                have HVW := Lib.hid (HKW.out.1 v (List.mem_of_getElem? hv))
                have HPQ := Lib.hid (show ∀ p : After wr, Below w10.heap.size w10 p.x from fun p => HBK.out.trans (p.ok.mono HBK.out.size))
                subst ea
                subst eb
                by_cases hk0 : k = 0
                · have hpos : decide (0 < k) = false := decide_eq_false (by omega)
                  have C_0 := fun p : After wr => p.cell c_0
                  have C_1 := fun p : After wr => p.cell c_1
                  have C_2 := fun p : After wr => p.cell c_2
                  have C_3 := fun p : After wr => p.cell c_3
                  have Q_1 := fun p : After wr => p.cell q1
                  clear hc1 hc2 hy hv q1 q2 c_0 c_1 c_2 c_3 k_0 k_1 k_2 k_3 hk0 H8 H9
                  go_wp2
                  refine wp_region_after mixed (by kernel_rfl) ?_
                  repeat (first | go_big_quiet_step ((with_reducible exact calls_after_same (HHY.out _))) | quiet_step ((with_reducible exact calls_after_same (HHY.out _))))
                  refine wpQuiet_nil ?_
                  intro _ hw'
                  obtain ⟨pq, hw''⟩ := hw'
                  subst hw''
                  have HQ := Lib.hid (HPQ.out pq)
                  generalize pq.x = wq at HQ ⊢
                  go_wp2
                  go_roundw
                  case rel => exact ⟨k + 1, by omega, by go_num, HQ.out⟩
                  case measure => simp [intOf]; omega
                · have hpos : decide (0 < k) = true := decide_eq_true (by omega)
                  obtain ⟨g, hg⟩ : ∃ g, k = g + 1 := ⟨k - 1, by omega⟩
                  obtain ⟨u, hu⟩ : ∃ u, KN[g]? = some u := ⟨_, List.getElem?_eq_getElem (by have := H98.out; omega)⟩
                  have q3 := hc2 g u hu
                  have hwg : IntKind.i64.wrap ((k : Int) - 1) = (g : Int) := by rw [hg, show ((g + 1 : Nat) : Int) - 1 = (g : Int) by omega]; exact IntWalk.i64_in _ ⟨by omega, by omega⟩
                  have hg9 : (g : Int) < (n9 : Int) := by have := H98.out; omega
                  have hk9 : (k : Int) < (n9 : Int) := by have := H98.out; omega
                  have HUW := Lib.hid (HKW.out.1 u (List.mem_of_getElem? hu))
                  have HKU := Lib.hid fun p : After wr => HY1.out A7 n u p.x HUW.out (HR7W.out.after p)
                  have HKV := Lib.hid fun p : After wr => HY1.out A7 n v p.x HVW.out (HR7W.out.after p)
                  have HLS := Lib.hid fun W => LessRef.Less_any (kf u) (kf v) W
                  rw [HKR.out g u v hu (by rw [← hg]; exact HV.out)] at HLS
                  generalize kf u = ku at HKU HLS
                  generalize kf v = kv at HKV HLS
                  have C_0 := fun p : After wr => p.cell c_0
                  have C_1 := fun p : After wr => p.cell c_1
                  have C_2 := fun p : After wr => p.cell c_2
                  have C_3 := fun p : After wr => p.cell c_3
                  have Q_1 := fun p : After wr => p.cell q1
                  have Q_2 := fun p : After wr => p.cell q2
                  have Q_3 := fun p : After wr => p.cell q3
                  clear hc1 hc2 hy hv hu q1 q2 q3 c_0 c_1 c_2 c_3 k_0 k_1 k_2 k_3 hk0 hg H8 H9
                  go_wp2
                  refine wp_region_after mixed (by kernel_rfl) ?_
                  repeat (first | go_big_quiet_step ((first | (with_reducible exact calls_after_same (HHY.out _)) | (with_reducible exact calls_after (HKU.out _)) | (with_reducible exact calls_after (HKV.out _)) | (with_reducible exact calls_after (HLS.out _)))) | quiet_step ((first | (with_reducible exact calls_after_same (HHY.out _)) | (with_reducible exact calls_after (HKU.out _)) | (with_reducible exact calls_after (HKV.out _)) | (with_reducible exact calls_after (HLS.out _)))))
                  refine wpQuiet_nil ?_
                  intro _ hw'
                  obtain ⟨pq, hw''⟩ := hw'
                  subst hw''
                  have HQ := Lib.hid (HPQ.out pq)
                  generalize pq.x = wq at HQ ⊢
                  go_wp2
                  go_roundw
                  case rel => exact ⟨k + 1, by omega, by go_num, HQ.out⟩
                  case measure => simp [intOf]; omega
              · obtain rfl : k = n8 := by omega
                go_wp2_with fail
                refine (awake_any _).mono ?_
                rintro e w2 ⟨rfl, b2⟩
                go_wp2
                go_ret
                exact ⟨rfl, chain (past_old HPK.out) b2⟩
          | some d =>
            have HE := Lib.hid (show j < 2000 ∧ alone (linkA (T : Int) (L : Int) r) (linkT (L : Int) dl sq tall) (2000 - (j + 1)) (nextD m d) (linkT (L : Int) dl sq tall s (foundD m d)) = (lf, sf) by
              by_cases h0 : j = 2000
              · exfalso
                have h1 := HAJ.out
                subst h0
                simp only [Nat.sub_self, alone, Prod.mk.injEq] at h1
                have h2 := done_none (T := (T : Int)) (L := (L : Int)) (r := r) HST.out
                rw [← h1.2, hx] at h2
                cases h2
              · have h1 := HAJ.out
                rw [show 2000 - j = (2000 - (j + 1)) + 1 by omega, alone_more hx] at h1
                exact ⟨by omega, h1⟩)
            have HDF := Lib.hid (fits_all HS.out.1 HA.out.2.1 hx)
            rw [hx] at HNX
            clear hx
            go_wp2_with fail
            refine HNX.out.mono ?_
            rintro e w4 ⟨rfl, b4⟩
            simp only [Option.getD_some, Option.isSome_some]
            have HB4 := Lib.hid (b4.trans ((box_below w4 (.cells #[.int .i64 d.1, .int .i64 d.2.1, .int .u64 d.2.2.1, .int .u64 d.2.2.2.1, .int .u64 d.2.2.2.2] 46)).mono b4.size))
            have HP4 := Lib.hid (past_later HBJ.out HB4.out)
            have HM4 := Lib.hid (HM.out.later HB4.out)
            have HS4 := Lib.hid (HS.out.later HB4.out)
            clear b4
            go_wp2_with fail
            refine (DeedDo.Do_any HM4.out d).mono ?_
            rintro e w5 ⟨rfl, g5, m5⟩
            have HM5 := Lib.hid m5
            have HO5 := Lib.hid (only_grown (R := fun k => k = hc) g5 fun k e => by cases e; rfl)
            have HS5 := Lib.hid (HS4.out.only HO5.out (fun k z e => HNS.out.2.1 (e ▸ z)))
            have HP5 := Lib.hid (show Below (w.heap.size + 2) ((w.alloc (.cells #[.int .i64 T, .int .i64 N, .int .i64 L, .int .u64 G] 24)).alloc (.cells #[.int .u64 r, .int .i64 dl, .int .u64 sq, .int .i64 tall] 29)) w5 from HP4.out.trans (HO5.out.below (by have h3 := HP4.out.size; simp only [World.size_alloc] at h3 ⊢; omega) (fun k e => by subst e; exact HP2.out.2)))
            clear g5 m5
            go_wp2_with fail
            refine (Link_tell HS5.out (by omega) (fits_found HFM.out d)).mono ?_
            rintro e w6 ⟨rfl, S6, s6, o6, k6⟩
            have HP6 := Lib.hid (show Below (w.heap.size + 2) ((w.alloc (.cells #[.int .i64 T, .int .i64 N, .int .i64 L, .int .u64 G] 24)).alloc (.cells #[.int .u64 r, .int .i64 dl, .int .u64 sq, .int .i64 tall] 29)) w6 from HP5.out.trans (o6.below (by have h3 := HP5.out.size; simp only [World.size_alloc] at h3; omega) HNS.out.2.2))
            have H6 := Lib.hid (show Amid (w.heap.size + 2) pc hc n q T N L G r dl sq tall lf sf (j + 1) w6 from ⟨_, _, S6, by have := HE.out.1; omega, ⟨HM5.out.1, HM5.out.2.1, HM5.out.2.2.1, o6.cell HM5.out.box HNS.out.1, o6.own HM5.out.own (fun k e => by cases e; exact HNS.out.2.1)⟩, fits_next HFM.out HDF.out, s6, HE.out.2,
              fun z => (k6 _ z).elim HNS.out.1 (fun z => by have h5 := HM5.out.lt; omega), fun z => (k6 _ z).elim HNS.out.2.1 (fun z => by have h5 := HM5.out.lt; omega), fun k z => (k6 k z).elim (HNS.out.2.2 k) (fun z => by have h5 := HP5.out.size; simp only [World.size_alloc] at h5; omega)⟩)
            have hj2 := HE.out.1
            clear s6 o6 k6
            go_wp2
            go_roundw
            case rel => exact ⟨j + 1, by go_num, H6.out, HP6.out⟩
            case measure => simp [intOf]; omega

theorem walk (x : Int × Int × Int × Int) (A : Option Addr) (l : List Int) (c : Nat) (y : Int × Int × Int × Int) (_ : (Lit.int .i64 x.1).wf = true) (_ : (Lit.int .i64 x.2.1).wf = true) (hL : (Lit.int .i64 x.2.2.1).wf = true) (_ : (Lit.int .u64 x.2.2.2).wf = true) (hr : (Lit.int .u64 y.1).wf = true) (hd : (Lit.int .i64 y.2.1).wf = true) (hs : (Lit.int .u64 y.2.2.1).wf = true) (_ : (Lit.int .i64 y.2.2.2).wf = true) (w : World)
    (hR : Row w w.heap.size A (flat (encZ .u64) l)) (hl : l.length ≤ maxLen) (hw : ∀ z ∈ l, (Lit.int .u64 z).wf = true) (_ : True) :
    Calls Tryz.prog 3 #[.agg #[.int .i64 x.1, .int .i64 x.2.1, .int .i64 x.2.2.1, .int .u64 x.2.2.2], .slice A l.length c, .agg #[.int .u64 y.1, .int .i64 y.2.1, .int .u64 y.2.2.1, .int .i64 y.2.2.2]] w fun e w' => e = .returned (.bool true) ∧ Below w.heap.size w w' := by
  obtain ⟨T, N, L, G⟩ := x
  obtain ⟨r, dl, sq, tall⟩ := y
  exact walk_any T N L G r dl sq tall A l c w hR hl (fun z hz => wf_u64 (hw z hz)) (wf_i64 hL).2 (wf_u64 hr) (wf_i64 hd) (wf_u64 hs)
theorem laidOut : laidOutB Tryz.prog = true := by kernel_rfl
theorem own : ownKnob Tryz.prog.godebug = none := by kernel_rfl
theorem door_met (os : Os) (args : Array Value) : laidMetH Tryz.prog Rows.linkComesRow.laid ((World.doorLaid Tryz.prog 400 os).forCall (fun _ _ => 0) ⟨#[], args, []⟩).memory :=
  laidMetH_of_parts3 (fuel := 8) (laidMet_of_run' 8 (by kernel_rfl) (by kernel_rfl)) (by kernel_rfl) (by kernel_rfl)
set_option maxRecDepth 100000 in
theorem lifted (os : Os) (started : os.Started) (H : Type) (enc : TypeId × Value → H) :
    ReturnsInHanded {} Tryz.checked os 3 .any (fun w args => (Rows.linkComesSpec.pre enc Tryz.prog Tryz.f3 [] false w args ∧ laidMetH Tryz.prog Rows.linkComesRow.laid w) ∧ sizedMet enc Tryz.prog Tryz.f3 (OpenSpec.ofChange Rows.linkComesSpec) false w args) (Rows.linkComesSpec.post enc Tryz.prog Tryz.f3 false true false false) := by
  refine Frame.liftedLaid (C := Tryz.checked) (fn := Tryz.f3) (tb := 4) own started (by kernel_rfl) Tryz.func3
    (ChangeSpec.witness_shaped (enc := enc) (C := Tryz.checked) (os := os) (X := fun w _ => laidMetH Tryz.prog Rows.linkComesRow.laid w) false (World.doorLaid Tryz.prog 400 os) #[.agg #[.int .i64 0, .int .i64 0, .int .i64 0, .int .u64 0], .slice none 0 0, .agg #[.int .u64 0, .int .i64 0, .int .u64 0, .int .i64 0]] 8 rfl (World.shaped_of_RefB (by kernel_rfl) (by kernel_rfl)) (by kernel_rfl) (by kernel_rfl) (by kernel_rfl) (door_met os _))
    rfl rfl Tryz.underlying4 laidOut (by kernel_rfl) (fun ds h => by match ds, h with | [_, _, _], _ => rfl) ?_
  intro W base args ds ps hval0 hA0 hlt hL
  have hval : ∀ (j : Nat) t v, Tryz.f3.params[j]? = some t → args[j]? = some v → Value.okWide Tryz.prog W .any base t v := hval0
  have hA : DataW.TrodAll enc Tryz.prog W 0 (fun _ => true) true Tryz.f3.params.toList args.toList ds ps := hA0
  rw [Tryz.params3] at hA hval
  obtain ⟨v0, vs0, d0, ds0, p0, q0, hargs, rfl, rfl, h0, r0⟩ := trodAll_cons hA
  obtain ⟨v1, vs1, d1, ds1, p1, q1, rfl, rfl, rfl, h1, r1⟩ := trodAll_cons r0
  obtain ⟨v2, vs2, d2, ds2, p2, q2, rfl, rfl, rfl, h2, r2⟩ := trodAll_cons r1
  obtain ⟨rfl, rfl, rfl⟩ := trodAll_nil r2
  obtain rfl : args = #[v0, v1, v2] := by cases args; simp_all
  obtain ⟨x0, rfl, w0_0, w0_1, w0_2, w0_3⟩ := Open.open_four_ints Tryz.underlying24 (by kernel_rfl) (by kernel_rfl) Tryz.underlying3 Tryz.underlying3 Tryz.underlying3 Tryz.underlying22 (hval 0 24 v0 rfl rfl) h0
  obtain ⟨A1, x1, c1, rfl, b1, m1, R1, g1⟩ := Open.open_rows (k := 1) (Ints.encZ .u64) (fun x => (Lit.int .u64 x).wf = true) Tryz.underlying25 (by kernel_rfl) (by decide) (Ints.encZ_length _) (fun n cs y h hl => Ints.one_int Tryz.underlying22 n cs y h hl) (hval 1 25 v1 rfl rfl) h1
  obtain ⟨x2, rfl, w2_0, w2_1, w2_2, w2_3⟩ := Open.open_nest Tryz.underlying29 rfl rfl rfl (by kernel_rfl) (by kernel_rfl) (by kernel_rfl) (by kernel_rfl) Tryz.underlying27 (by kernel_rfl) Tryz.underlying22 Tryz.underlying3 Tryz.underlying22 Tryz.underlying3 (hval 2 29 v2 rfl rfl) h2
  refine (walk x0 A1 x1 c1 x2 w0_0 w0_1 w0_2 w0_3 w2_0 w2_1 w2_2 w2_3 W R1 (Nat.le_trans b1 m1) g1 (held hL)).mono fun e W' h => ?_
  exact h

theorem over : Rows.linkComesRow.holds Tryz.pinned (OpenSpec.ofChange Rows.linkComesSpec) :=
  OpenClaim.holds_of_wide 3 Tryz.f3 rfl rfl rfl rfl rfl rfl rfl ⟨rfl, rfl, rfl, rfl, rfl⟩ rfl rfl rfl rfl rfl (by kernel_rfl) Tryz.func3 (by kernel_rfl)
    (of_decide_eq_true (by kernel_rfl)) (by unfold Func.isWrapper; first | (rw [if_pos (by decide +kernel)]; kernel_rfl) | (rw [if_neg (by decide +kernel)]; exact ⟨rfl, rfl⟩))
    (fun os started H enc _ => lifted os started H enc)

theorem proved : Rows.LinkComesCardSaid :=
  Claim7.holds_tied_plain_at .later [] Rows.linkComesCard.laidKinds true Rows.linkComesCard.stood.harness Rows.linkComesCard.stood.looks
    over (fun _ h => by cases h) (by kernel_rfl) (fun _ h => by cases h) linkComes_row_tie rfl ⟨rfl, rfl⟩ (by kernel_rfl) rfl
    (fun f fn hf hfn => by
      obtain rfl : f = 3 := Option.some.inj ((show Tryz.prog.funcNamed Rows.linkComesRow.func = some 3 by kernel_rfl).symm.trans hf) |>.symm
      obtain rfl : fn = Tryz.f3 := (Option.some.inj (Tryz.func3.symm.trans hfn)).symm
      exact ⟨by kernel_rfl, fun j t ht => by
        rw [Tryz.params3] at ht
        have hm : t ∈ [24, 25, 29] := by simpa using Array.mem_of_getElem? ht
        have hall : ([24, 25, 29].all fun u => !Tryz.prog.wantsStandIn u) = true := by kernel_rfl
        exact (show Tryz.prog.wantsStandIn t = false by simpa using List.all_eq_true.1 hall t hm)⟩)
    (by kernel_rfl)
#print axioms proved
end Go.Proofs.YtjefjkpomohpiaaGreatDoor.LinkComes
