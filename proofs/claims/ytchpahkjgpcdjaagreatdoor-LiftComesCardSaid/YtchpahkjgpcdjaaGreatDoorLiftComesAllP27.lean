import Derived.Test.YtchpahkjgpcdjaaGreatDoorLiftComesAllP16
import Derived.Test.YtchpahkjgpcdjaaGreatDoorLiftComesAllP2
import Derived.Test.YtchpahkjgpcdjaaGreatDoorLiftComesAllP25
import Derived.Test.YtchpahkjgpcdjaaGreatDoorLiftComesAllP26
/- Law 21's own 'alone' (package sundiallaw21): a lifter done alone, from what the document finds on: it ends, and the timer is in the chains of all levels below its height then. -/
namespace Go.Proofs.YtchpahkjgpcdjaaGreatDoor.LiftAlone
set_option maxRecDepth 20000
open Go.ChangeShapes Go.WideShapes Go.ChangeAt Go.RowKit CM DM PM KM LfM MM Runs Lay Plan Ints Go.Proofs.YtchpahkjgpcdjaaGreatDoor.Task
open LiM (map_getD)
open Go.Proofs.YtchpahkjgpcdjaaGreatDoor.Cells (Mem Does Of_any Words_any Store_any)
open Go.Proofs.YtchpahkjgpcdjaaGreatDoor.Lift (Lifts Lift_any Lift_next Lift_tell)
open Go.Proofs.YtchpahkjgpcdjaaGreatDoor.SeekRef (Find_any kept_refs)
set_option linter.unusedVariables false
set_option linter.unusedSimpArgs false

theorem ba (w : World) (o : Obj) : Below w.heap.size w (w.alloc o) := (Below.refl _ _).alloc (Nat.le_refl _) _
theorem chain {w a b : World} (h : Below w.heap.size w a) (k : Below a.heap.size a b) : Below w.heap.size w b := h.trans (k.mono h.size)
/-- What the law's own boxes hold. -/
def Boxes (W : World) (N0 : Nat) (T N L G r dl sq tall : Int) : Prop := (W.cell? ⟨N0, 0, none⟩ = some (.int .i64 T) ∧ W.cell? ⟨N0, 1, none⟩ = some (.int .i64 N) ∧ W.cell? ⟨N0, 2, none⟩ = some (.int .i64 L) ∧ W.cell? ⟨N0, 3, none⟩ = some (.int .u64 G)) ∧
  W.cell? ⟨N0 + 1, 0, none⟩ = some (.int .u64 r) ∧ W.cell? ⟨N0 + 1, 1, none⟩ = some (.int .i64 dl) ∧ W.cell? ⟨N0 + 1, 2, none⟩ = some (.int .u64 sq) ∧ W.cell? ⟨N0 + 1, 3, none⟩ = some (.int .i64 tall)
theorem boxes_start (w : World) (T N L G r dl sq tall : Int) : Boxes ((w.alloc (.cells #[.int .i64 T, .int .i64 N, .int .i64 L, .int .u64 G] 24)).alloc (.cells #[.int .u64 r, .int .i64 dl, .int .u64 sq, .int .i64 tall] 29)) w.heap.size T N L G r dl sq tall := by
  have h0 := box4 w (.int .i64 T) (.int .i64 N) (.int .i64 L) (.int .u64 G) 24
  have hb : Below (w.alloc (.cells #[.int .i64 T, .int .i64 N, .int .i64 L, .int .u64 G] 24)).heap.size (w.alloc (.cells #[.int .i64 T, .int .i64 N, .int .i64 L, .int .u64 G] 24)) ((w.alloc (.cells #[.int .i64 T, .int .i64 N, .int .i64 L, .int .u64 G] 24)).alloc (.cells #[.int .u64 r, .int .i64 dl, .int .u64 sq, .int .i64 tall] 29)) := box_below _ _
  have k0 := (cell_heap (new_heap (w.alloc (.cells #[.int .i64 T, .int .i64 N, .int .i64 L, .int .u64 G] 24)) (.cells #[.int .u64 r, .int .i64 dl, .int .u64 sq, .int .i64 tall] 29)) 0).1
  have k1 := (cell_heap (new_heap (w.alloc (.cells #[.int .i64 T, .int .i64 N, .int .i64 L, .int .u64 G] 24)) (.cells #[.int .u64 r, .int .i64 dl, .int .u64 sq, .int .i64 tall] 29)) 1).1
  have k2 := (cell_heap (new_heap (w.alloc (.cells #[.int .i64 T, .int .i64 N, .int .i64 L, .int .u64 G] 24)) (.cells #[.int .u64 r, .int .i64 dl, .int .u64 sq, .int .i64 tall] 29)) 2).1
  have k3 := (cell_heap (new_heap (w.alloc (.cells #[.int .i64 T, .int .i64 N, .int .i64 L, .int .u64 G] 24)) (.cells #[.int .u64 r, .int .i64 dl, .int .u64 sq, .int .i64 tall] 29)) 3).1
  rw [World.size_alloc] at k0 k1 k2 k3
  exact ⟨⟨cell_later hb h0.1, cell_later hb h0.2.1, cell_later hb h0.2.2.1, cell_later hb h0.2.2.2⟩, k0, k1, k2, k3⟩
theorem Boxes.later {w W : World} {N0 : Nat} {T N L G r dl sq tall : Int} (h : Boxes w N0 T N L G r dl sq tall) (hb : Below w.heap.size w W) : Boxes W N0 T N L G r dl sq tall :=
  ⟨⟨cell_later hb h.1.1, cell_later hb h.1.2.1, cell_later hb h.1.2.2.1, cell_later hb h.1.2.2.2⟩, cell_later hb h.2.1, cell_later hb h.2.2.1, cell_later hb h.2.2.2.1, cell_later hb h.2.2.2.2⟩
theorem past_later {w W W' : World} {o1 o2 : Obj} (h : Below (w.heap.size + 2) ((w.alloc o1).alloc o2) W) (hb : Below W.heap.size W W') : Below (w.heap.size + 2) ((w.alloc o1).alloc o2) W' := h.trans (hb.mono (by have := h.size; simp only [World.size_alloc] at this; omega))
theorem past_all {w W : World} {o1 o2 : Obj} (h : Below (w.heap.size + 2) ((w.alloc o1).alloc o2) W) : Below ((w.alloc o1).alloc o2).heap.size ((w.alloc o1).alloc o2) W := by simp only [World.size_alloc]; exact h
theorem past_old {w W : World} {o1 o2 : Obj} (h : Below (w.heap.size + 2) ((w.alloc o1).alloc o2) W) : Below w.heap.size w W := ((box_below w o1).alloc (by simp) _).trans (h.mono (by omega))
theorem Words_new {p h n : Nat} {l : List Int} {w : World} (hM : Mem w p h n l) : Calls Tryz.prog 15 #[.pointer (some ⟨p, 0, none⟩)] w fun e w' => ∃ A, e = .returned (.slice A n n) ∧ Row w' w'.heap.size A (flat (encZ .u64) l) ∧ Below w.heap.size w w' :=
  (Words_any hM).mono fun _ _ ⟨he, ho, hb⟩ => ⟨_, he, Row.of_own ho, hb⟩
theorem own_block {F : Option Addr} {a fc k : Nat} (h : (Value.slice F a fc).ownBlock = some k) : ∃ x, F = some x ∧ x.block = k := by
  cases F with
  | none => cases h
  | some x => exact ⟨x, rfl, by simpa [Value.ownBlock] using h⟩
theorem info_u64 : (Tryz.prog.info? 22).map (fun i => (i.zero, i.size, i.bytes)) = some (some (.int .u64 0), 1, 8) := by kernel_rfl

/-- Two rows of the call's own, which lie apart; all that is older than B is as it was in w1. -/
structure Two (w1 : World) (F : Option Addr) (a fc : Nat) (x : List Int) (G : Option Addr) (b gc : Nat) (y : List Int) (wr : World) : Prop where
  o1 : wr.ownsRow w1.heap.size 22 1 (.slice F a fc) a (flat (encZ .u64) x)
  o2 : wr.ownsRow w1.heap.size 22 1 (.slice G b gc) b (flat (encZ .u64) y)
  ap : ∀ p q, F = some p → G = some q → p.block ≠ q.block
  past : Below w1.heap.size w1 wr
section
variable {w1 wr w2 : World} {F G : Option Addr} {a fc b gc : Nat} {x y : List Int}
theorem Two.start (w1 : World) : Two w1 none 0 0 [] none 0 0 [] w1 := ⟨World.ownsRow_nil _ _ _ _, World.ownsRow_nil _ _ _ _, (fun p q e => by cases e), Below.refl _ _⟩
theorem Two.later (h : Two w1 F a fc x G b gc y wr) (hb : Below wr.heap.size wr w2) : Two w1 F a fc x G b gc y w2 := ⟨own_later h.o1 hb, own_later h.o2 hb, h.ap, h.past.trans (hb.mono h.past.size)⟩
theorem Two.first (h : Two w1 F a fc x G b gc y wr) {g2 cap : Nat} {v : Int} (ho : w2.ownsRow w1.heap.size 22 1 (.slice (some ⟨g2, 0, none⟩) (a + 1) cap) (a + 1) (flat (encZ .u64) x ++ encZ .u64 v))
    (hor : (Value.slice F a fc).ownBlock = some g2 ∨ g2 = wr.heap.size) (hon : Only (fun k => (Value.slice F a fc).ownBlock = some k) wr w2) : Two w1 (some ⟨g2, 0, none⟩) (a + 1) cap (x ++ [v]) G b gc y w2 := by
  have hF : ∀ k, (Value.slice F a fc).ownBlock = some k → w1.heap.size ≤ k ∧ ∀ z, G = some z → k ≠ z.block := fun k hk => by
    have h10 := (h.o1.lt k hk).1
    obtain ⟨z, hz, rfl⟩ := own_block hk
    exact ⟨h10, fun u hu => h.ap z u hz hu⟩
  refine ⟨by rw [flat_append, flat_one]; exact ho, hon.own h.o2 (fun k hk e => ?_), fun p q e hq => ?_, h.past.trans (hon.below h.past.size fun k e => (hF k e).1)⟩
  · obtain ⟨z, hz, rfl⟩ := own_block hk
    exact (hF _ e).2 z hz rfl
  · cases e
    rcases hor with e | e
    · exact (hF _ e).2 q hq
    · have := (h.o2.lt q.block (by rw [hq]; rfl)).2
      show g2 ≠ _
      omega
theorem Two.second (h : Two w1 F a fc x G b gc y wr) {g2 cap : Nat} {v : Int} (ho : w2.ownsRow w1.heap.size 22 1 (.slice (some ⟨g2, 0, none⟩) (b + 1) cap) (b + 1) (flat (encZ .u64) y ++ encZ .u64 v))
    (hor : (Value.slice G b gc).ownBlock = some g2 ∨ g2 = wr.heap.size) (hon : Only (fun k => (Value.slice G b gc).ownBlock = some k) wr w2) : Two w1 F a fc x (some ⟨g2, 0, none⟩) (b + 1) cap (y ++ [v]) w2 := by
  have hG : ∀ k, (Value.slice G b gc).ownBlock = some k → w1.heap.size ≤ k ∧ ∀ z, F = some z → z.block ≠ k := fun k hk => by
    have h10 := (h.o2.lt k hk).1
    obtain ⟨z, hz, rfl⟩ := own_block hk
    exact ⟨h10, fun u hu => h.ap u z hu hz⟩
  refine ⟨hon.own h.o1 (fun k hk e => ?_), by rw [flat_append, flat_one]; exact ho, fun p q hp e => ?_, h.past.trans (hon.below h.past.size fun k e => (hG k e).1)⟩
  · obtain ⟨z, hz, rfl⟩ := own_block hk
    exact (hG _ e).2 z hz rfl
  · cases e
    rcases hor with e | e
    · exact (hG _ e).2 p hp
    · have := (h.o1.lt p.block (by rw [hp]; rfl)).2
      show p.block ≠ g2
      omega
end

/-! In plain lists. -/
theorem done_none {T L r : Int} {s : LfM.St} (h : s.un = none) (h0 : s.st = 0) : liftA T L r s = none := by
  obtain ⟨st, lv, wy, un, ps, ss⟩ := s
  obtain rfl : un = none := h
  obtain rfl : st = 0 := h0
  exact liftA_0
theorem up_start {T N L : Nat} {l : List Int} {r dl sq tall : Int} {lt : Int → Bool} (b : Base T N L l r dl sq tall lt) (hl : l.length = wordsN T N L) (hf : BM.Fits l) (hz : ∀ g : Nat, 1 ≤ g → g < L → wayI T L l r g = 0) : Up T N L l r 1 l := by
  refine ⟨hl, hf, fun _ _ _ => rfl, fun g h1 _ => ?_, fun g _ hg => ?_, b.good, fun g h1 hg => by rw [hz g h1 hg]; rfl, rfl, fun _ _ => rfl⟩
  · obtain rfl : g = 0 := by omega
    exact ⟨b.low, fun _ h => h⟩
  · obtain ⟨cl, e, hc, hk, -⟩ := good_chain b.good hg
    exact ⟨cl, hc, by rw [e]; exact List.Sublist.refl _, hk.symm⟩
/-- What being lifted comes to, in plain lists. -/
theorem lift_fun {T N L : Nat} {l : List Int} {r dl sq tall : Int} {lt : Int → Bool} (b : Base T N L l r dl sq tall lt) (hl : l.length = wordsN T N L) (hf : BM.Fits l) (hz : ∀ g : Nat, 1 ≤ g → g < L → wayI T L l r g = 0) :
    ∃ lf sf, alone (liftA T L r) (liftT L dl sq tall) 2000 l (LfM.reach tall 1 0 ((List.range L).map fun h => (resL T L N lt l h).1) ((List.range L).map fun h => (resL T L N lt l h).2)) = (lf, sf) ∧ liftA T L r sf = none ∧ Up T N L l r tall.toNat lf := by
  have hu := up_start b hl hf hz
  have h1 := b.t1
  have h2 := b.tL
  have h3 := b.hL
  obtain ⟨n, hn⟩ : ∃ n : Nat, ((1 + n : Nat) : Int) = tall := ⟨(tall - 1).toNat, by omega⟩
  obtain ⟨k, m, s, k1, k2, k3, k4, k5⟩ := lift_run b n 1 l ((List.range L).map fun h => (resL T L N lt l h).1) ((List.range L).map fun h => (resL T L N lt l h).2) 0 hn (Nat.le_refl _) hu ⟨by simp, by simp, fun g _ hg => ⟨map_getD hg, map_getD hg⟩⟩
  rw [show 1 + n = tall.toNat by omega] at k5
  exact ⟨m, s, alone_steps k 2000 _ _ _ _ k2 (done_none k3 k4) (by omega), done_none k3 k4, k5⟩
theorem fits_all {L tall : Int} {k : Nat} {T r : Int} {s : LfM.St} (h : LfM.Ok L tall k s) (hr : Word r) {d : D} (hd : liftA T L r s = some d) : DM.Fits d := by
  rcases lift_fits h hr hd with ⟨q, -, h1, h2⟩ | e
  · exact seek_fits h2 h1
  · exact e
/-- Amid the lifting. -/
def Amid (B pc hc n q : Nat) (T N L G r dl sq tall : Int) (lf : List Int) (sf : LfM.St) (j : Nat) (wr : World) : Prop :=
  ∃ m s S, j ≤ 2000 ∧ Mem wr pc hc n m ∧ BM.Fits m ∧ Lifts wr q S T N L G r dl sq tall j s ∧ alone (liftA T L r) (liftT L dl sq tall) (2000 - j) m s = (lf, sf) ∧ ¬ S pc ∧ ¬ S hc ∧ (∀ k, S k → B ≤ k)
set_option maxHeartbeats 8000000 in
theorem alone_any {T N L : Nat} {G r dl sq tall : Int} {l : List Int} (b : Base T N L l r dl sq tall fun c => OM.ltK (keyI T L l c) (dl, sq)) (hl : l.length = wordsN T N L) (hf : BM.Fits l) (hz : ∀ g : Nat, 1 ≤ g → g < L → wayI T L l r g = 0) (hL1 : 1 ≤ L) {pc hc n : Nat} (hn : n = l.length) (hn4 : n ≤ 4096) {w : World} (hM : Mem w pc hc n l) :
    Calls Tryz.prog 14 #[.agg #[.int .i64 T, .int .i64 N, .int .i64 L, .int .u64 G], .pointer (some ⟨pc, 0, none⟩), .agg #[.int .u64 r, .int .i64 dl, .int .u64 sq, .int .i64 tall]] w fun e w' => e = .returned (.bool true) ∧ ∃ lf, Mem w' pc hc n lf ∧ BM.Fits lf ∧ Up T N L l r tall.toNat lf ∧ Only (fun k => k = hc) w w' := by
  obtain ⟨lf, sf, hal, hst, hup⟩ := lift_fun b hl hf hz
  have hL8 := b.hL
  have hlw := fun g : Nat => b.word g
  have hN := b.hN
  have HUP := Lib.hid hup
  have HST := Lib.hid hst
  have HFL := Lib.hid hf
  have HR := Lib.hid (And.intro b.r0 b.r1)
  have HFIND := Lib.hid (show ∀ (A : Option Addr) (c : Nat) (h : Int) (W : World), Row W W.heap.size A (flat (encZ .u64) l) → Calls Tryz.prog 37 #[.slice A n c, .agg #[.int .i64 T, .int .i64 N, .int .i64 L, .int .u64 G], .agg #[.int .i64 dl, .int .u64 sq], .int .i64 h] W fun e w' => e = .returned (.tuple #[.int .u64 (findL (fun c => OM.ltK (keyI T L l c) (dl, sq)) (keptL T L N l h) 0).1, .int .u64 (findL (fun c => OM.ltK (keyI T L l c) (dl, sq)) (keptL T L N l h) 0).2]) ∧ Below W.heap.size W w' from fun A c h W hr => Find_any c hn (by omega) hr hf hN h)
  have HW := Lib.hid (show ∀ g : Nat, Word (resL T L N (fun c => OM.ltK (keyI T L l c) (dl, sq)) l g).1 ∧ Word (resL T L N (fun c => OM.ltK (keyI T L l c) (dl, sq)) l g).2 from fun g => LiM.res_word (hlw g))
  obtain ⟨P, hP⟩ : ∃ P : Nat → Int, P = fun h => (resL T L N (fun c => OM.ltK (keyI T L l c) (dl, sq)) l h).1 := ⟨_, rfl⟩
  obtain ⟨S, hS⟩ : ∃ S : Nat → Int, S = fun h => (resL T L N (fun c => OM.ltK (keyI T L l c) (dl, sq)) l h).2 := ⟨_, rfl⟩
  rw [← hP, ← hS] at hal
  have HAL := Lib.hid hal
  have HF2 := Lib.hid (show ∀ (A : Option Addr) (c h : Nat) (W : World), Row W W.heap.size A (flat (encZ .u64) l) → Calls Tryz.prog 37 #[.slice A n c, .agg #[.int .i64 T, .int .i64 N, .int .i64 L, .int .u64 G], .agg #[.int .i64 dl, .int .u64 sq], .int .i64 h] W fun e w' => e = .returned (.tuple #[.int .u64 (P h), .int .u64 (S h)]) ∧ Below W.heap.size W w' from fun A c h W hr => by rw [hP, hS]; exact HFIND.out A c h W hr)
  have HPS := Lib.hid (show ∀ h : Nat, (∀ x ∈ (List.range h).map P, Word x) ∧ ∀ x ∈ (List.range h).map S, Word x from fun h => ⟨fun x hx => by obtain ⟨g, -, rfl⟩ := List.mem_map.1 hx; rw [hP]; exact (HW.out g).1, fun x hx => by obtain ⟨g, -, rfl⟩ := List.mem_map.1 hx; rw [hS]; exact (HW.out g).2⟩)
  have HRA := Lib.hid (show ∀ h : Nat, (List.range (h + 1)).map P = (List.range h).map P ++ [P h] ∧ (List.range (h + 1)).map S = (List.range h).map S ++ [S h] from fun h => ⟨by rw [List.range_succ]; simp, by rw [List.range_succ]; simp⟩)
  have HM := Lib.hid hM
  have HLT := Lib.hid hM.lt
  have HBX := Lib.hid (show ∀ W, Below (w.heap.size + 2) ((w.alloc (.cells #[.int .i64 T, .int .i64 N, .int .i64 L, .int .u64 G] 24)).alloc (.cells #[.int .u64 r, .int .i64 dl, .int .u64 sq, .int .i64 tall] 29)) W → Boxes W w.heap.size T N L G r dl sq tall from fun W hb => (boxes_start w T N L G r dl sq tall).later (past_all hb))
  have HB0 := Lib.hid (show Below (w.heap.size + 2) ((w.alloc (.cells #[.int .i64 T, .int .i64 N, .int .i64 L, .int .u64 G] 24)).alloc (.cells #[.int .u64 r, .int .i64 dl, .int .u64 sq, .int .i64 tall] 29)) ((w.alloc (.cells #[.int .i64 T, .int .i64 N, .int .i64 L, .int .u64 G] 24)).alloc (.cells #[.int .u64 r, .int .i64 dl, .int .u64 sq, .int .i64 tall] 29)) from Below.refl _ _)
  obtain ⟨i0, hi0, hz0, hz1, hz2⟩ := info_parts info_u64
  clear hP hS HFIND HW hal hst hup b hl hf hz hlw hN hM hn
  obtain ⟨⟨c_0, c_1, c_2, c_3⟩, k_0, k_1, k_2, k_3⟩ := HBX.out _ HB0.out
  go_enter Tryz.func14, Tryz.ntmps14
  go_wp2_with fail
  refine (Words_new (HM.out.later ((box_below w (.cells #[.int .i64 T, .int .i64 N, .int .i64 L, .int .u64 G] 24)).alloc (by simp) _))).mono ?_
  rintro e w1 ⟨A1, rfl, r1, b1⟩
  have HB1 := Lib.hid (past_later HB0.out b1)
  have HR1 := Lib.hid r1
  clear r1 b1 c_0 c_1 c_2 c_3 k_0 k_1 k_2 k_3
  go_wp2
  go_loopw [8, 9, 10] (fun pv sv hv wr => ∃ (h fc gc : Nat) (F K : Option Addr), h ≤ L ∧ hv = .int .i64 h ∧ pv = .slice F h fc ∧ sv = .slice K h gc ∧ Two w1 F h fc ((List.range h).map P) K h gc ((List.range h).map S) wr) (fun _ _ hv _ => L - (intOf hv).toNat)
  case atStart => exact ⟨0, 0, 0, none, none, Nat.zero_le _, rfl, rfl, rfl, Two.start w1⟩
  case round =>
    obtain ⟨h, fc, gc, F, K, hh, rfl, rfl, rfl, htw⟩ := hrel
    have HT := Lib.hid htw
    have HP := Lib.hid (past_later HB1.out htw.past)
    clear htw
    obtain ⟨⟨c_0, c_1, c_2, c_3⟩, k_0, k_1, k_2, k_3⟩ := HBX.out _ HP.out
    by_cases hlt : h < L
    · have hil : (h : Int) < (L : Int) := by omega
      go_wp2_with fail
      refine (HF2.out A1 n h _ (HR1.out.later HT.out.past)).mono ?_
      rintro e w3 ⟨rfl, b3⟩
      have HT3 := Lib.hid (HT.out.later (chain b3 (ba w3 (.cells #[.int .u64 (P h)] 22))))
      clear b3 c_0 c_1 c_2 c_3 k_0 k_1 k_2 k_3
      go_wp2_with (first
        | (at_builtin; refine wpList_append_only _ rfl (.tmp 34) (.tmp 36) 25 rfl w1.heap.size 22 i0 _ 1 8 Tryz.underlying25 hi0 hz0 hz1 hz2 rfl (by decide) _ h _ rfl HT3.out.o1 ⟨w3.heap.size, 0, none⟩ 1 1 (encZ .u64 (P h)) rfl (by decide) rfl (cells_new _ _ _) (encZ_one _ _) (by simp only [maxLen]; omega) (by omega) (by have := HT3.out.past.size; omega) ?_; intro g2 cap w4 ho4 hg4 hlt4 hor4 hon4; have HT4 := Lib.hid ((HT3.out.first ho4 hor4 hon4).later (ba w4 (.cells #[.int .u64 (S h)] 22))); clear ho4 hor4 hon4)
        | (at_builtin; refine wpList_append_only _ rfl (.tmp 38) (.tmp 40) 25 rfl w1.heap.size 22 i0 _ 1 8 Tryz.underlying25 hi0 hz0 hz1 hz2 rfl (by decide) _ h _ rfl HT4.out.o2 ⟨w4.heap.size, 0, none⟩ 1 1 (encZ .u64 (S h)) rfl (by decide) rfl (cells_new _ _ _) (encZ_one _ _) (by simp only [maxLen]; omega) (by omega) (by have := HT4.out.past.size; omega) ?_; intro g3 cap3 w5 ho5 hg5 hlt5 hor5 hon5; have HT5 := Lib.hid (HT4.out.second ho5 hor5 hon5); clear ho5 hor5 hon5))
      go_roundw
      case rel => exact ⟨h + 1, _, _, _, _, by omega, by go_num, rfl, rfl, by rw [(HRA.out h).1, (HRA.out h).2]; exact HT5.out⟩
      case measure => simp [intOf]; omega
    · obtain rfl : L = h := by omega
      have HLA := Lib.hid (show 1 ≤ (L : Int) ∧ (L : Int) ≤ 9223372036854775807 from ⟨by omega, by omega⟩)
      go_wp2_with fail
      refine (Lift_any T N L G r dl sq tall HLA.out HR.out.1 fc gc (Row.of_own HT.out.o1) (Row.of_own HT.out.o2) (by simp) (by simp) (by omega) (by omega) (HPS.out L).1 (HPS.out L).2).mono ?_
      rintro e w7 ⟨q, Q, rfl, s7, q7, b7⟩
      have HB7 := Lib.hid (past_later HP.out b7)
      have H7 := Lib.hid (show Amid (w.heap.size + 2) pc hc n q T N L G r dl sq tall lf sf 0 w7 from ⟨_, _, Q, by omega, HM.out.later (past_old (past_later HP.out b7)), HFL.out, s7, HAL.out, fun e => by have h4 := (q7 _ e).1; have h5 := (past_old HP.out).size; have := HLT.out; omega, fun e => by have h4 := (q7 _ e).1; have h5 := (past_old HP.out).size; have := HLT.out; omega, fun k e => by have h4 := (q7 _ e).1; have h5 := HP.out.size; simp only [World.size_alloc] at h5; omega⟩)
      have H7O := Lib.hid (show Only (fun k => k = hc) w w7 from only_below _ (past_old (past_later HP.out b7)))
      clear s7 q7 b7 c_0 c_1 c_2 c_3 k_0 k_1 k_2 k_3
      go_wp2
      go_loopw [14] (fun jv wr => ∃ j : Nat, jv = .int .i64 j ∧ Amid (w.heap.size + 2) pc hc n q T N L G r dl sq tall lf sf j wr ∧ ((w.alloc (.cells #[.int .i64 T, .int .i64 N, .int .i64 L, .int .u64 G] 24)).alloc (.cells #[.int .u64 r, .int .i64 dl, .int .u64 sq, .int .i64 tall] 29)).heap.size ≤ wr.heap.size ∧ Only (fun k => k = hc) w wr) (fun jv _ => 6000 - (intOf jv).toNat)
      case atStart => exact ⟨0, rfl, H7.out, HB7.out.size, H7O.out⟩
      case round =>
        obtain ⟨j, rfl, ⟨m, s, S, hj, hm, hfm, hs, ha, hnp, hnh, hSB⟩, hb, ho⟩ := hrel
        have HMJ := Lib.hid hm
        have HFM := Lib.hid hfm
        have HS := Lib.hid hs
        have HAJ := Lib.hid ha
        have HNS := Lib.hid (And.intro hnp (And.intro hnh hSB))
        have HBJ := Lib.hid hb
        have HOJ := Lib.hid ho
        have hj4 : (j : Int) < 6000 := by omega
        have HNX := Lib.hid (Lift_next hs)
        clear hm hfm hs ha hnp hnh hSB hb ho
        cases hx : liftA (T : Int) (L : Int) r s with
        | none =>
          have HE := Lib.hid (show m = lf by have := HAJ.out; rw [alone_done hx] at this; simp only [Prod.mk.injEq] at this; exact this.1)
          rw [hx] at HNX
          clear hx
          go_wp2_with fail
          refine HNX.out.mono ?_
          rintro e w4 ⟨rfl, b4⟩
          simp only [Option.getD_none, Option.isSome_none]
          have HB4 := Lib.hid (b4.trans ((box_below w4 (.cells #[.int .i64 0, .int .i64 0, .int .u64 0, .int .u64 0, .int .u64 0] 54)).mono b4.size))
          clear b4
          go_wp2
          go_ret
          exact ⟨rfl, lf, HE.out ▸ HMJ.out.later HB4.out, HE.out ▸ HFM.out, HUP.out, HOJ.out.then_below HB4.out⟩
        | some d =>
          have HE := Lib.hid (show j < 2000 ∧ alone (liftA (T : Int) (L : Int) r) (liftT (L : Int) dl sq tall) (2000 - (j + 1)) (nextD m d) (liftT (L : Int) dl sq tall s (foundD m d)) = (lf, sf) by
            by_cases h0 : j = 2000
            · exfalso
              have h1 := HAJ.out
              subst h0
              simp only [Nat.sub_self, alone, Prod.mk.injEq] at h1
              have h2 := HST.out
              rw [← h1.2, hx] at h2
              cases h2
            · have h1 := HAJ.out
              rw [show 2000 - j = (2000 - (j + 1)) + 1 by omega, alone_more hx] at h1
              exact ⟨by omega, h1⟩)
          have HDF := Lib.hid (fits_all HS.out.1 HR.out.1 hx)
          rw [hx] at HNX
          clear hx
          go_wp2_with fail
          refine HNX.out.mono ?_
          rintro e w4 ⟨rfl, b4⟩
          simp only [Option.getD_some, Option.isSome_some]
          have HB4 := Lib.hid (b4.trans ((box_below w4 (.cells #[.int .i64 d.1, .int .i64 d.2.1, .int .u64 d.2.2.1, .int .u64 d.2.2.2.1, .int .u64 d.2.2.2.2] 54)).mono b4.size))
          have HM4 := Lib.hid (HMJ.out.later HB4.out)
          have HS4 := Lib.hid (HS.out.later HB4.out)
          have HO4 := Lib.hid (HOJ.out.then_below HB4.out)
          have HZ4 := Lib.hid (Nat.le_trans HBJ.out HB4.out.size)
          clear b4
          go_wp2_with fail
          refine (DeedDo.Do_any HM4.out d).mono ?_
          rintro e w5 ⟨rfl, g5, m5⟩
          have HM5 := Lib.hid m5
          have HO5 := Lib.hid (only_grown (R := fun k => k = hc) g5 fun k e => by cases e; rfl)
          have HS5 := Lib.hid (HS4.out.only HO5.out (fun k z e => HNS.out.2.1 (e ▸ z)))
          have HZ5 := Lib.hid (Nat.le_trans HZ4.out HO5.out.size)
          have HO45 := Lib.hid (HO4.out.trans HO5.out)
          clear g5 m5
          go_wp2_with fail
          refine (Lift_tell HS5.out (by omega) (fits_found HFM.out d)).mono ?_
          rintro e w6 ⟨rfl, S6, s6, o6, k6⟩
          have HZ6 := Lib.hid (Nat.le_trans HZ5.out o6.size)
          have H6 := Lib.hid (show Amid (w.heap.size + 2) pc hc n q T N L G r dl sq tall lf sf (j + 1) w6 from ⟨_, _, S6, by have := HE.out.1; omega, ⟨HM5.out.1, HM5.out.2.1, HM5.out.2.2.1, o6.cell HM5.out.box HNS.out.1, o6.own HM5.out.own (fun k e => by cases e; exact HNS.out.2.1)⟩, fits_next HFM.out HDF.out, s6, HE.out.2,
            fun z => (k6 _ z).elim HNS.out.1 (fun z => by have h5 := HM5.out.lt; omega), fun z => (k6 _ z).elim HNS.out.2.1 (fun z => by have h5 := HM5.out.lt; omega), fun k z => (k6 k z).elim (HNS.out.2.2 k) (fun z => by have := HZ5.out; simp only [World.size_alloc] at this; omega)⟩)
          have HO6 := Lib.hid (HO45.out.more o6 (fun k z => .inr (by have := HNS.out.2.2 k z; omega)))
          have hj2 := HE.out.1
          clear s6 o6 k6
          go_wp2
          go_roundw
          case rel => exact ⟨j + 1, by go_num, H6.out, HZ6.out, HO6.out⟩
          case measure => simp [intOf]; omega
end Go.Proofs.YtchpahkjgpcdjaaGreatDoor.LiftAlone
