import Derived.Test.YtafjokjmogadnaaGreatDoorCollectFreesAllP23
import Derived.Deep.RegionHeld3
/- The document's answers for layer 15 (package sundialref15): one list with one more in its place; which are ripe, and which stay; two lists that are one are told as the same. -/
namespace Go.Proofs.YtafjokjmogadnaaGreatDoor.LimboRef
set_option maxRecDepth 20000
open Go.ChangeShapes Go.WideShapes Go.RowKit LM Lay Limbo
set_option linter.unusedVariables false
set_option linter.unusedSimpArgs false

/-! A row's first elements, and those behind them. -/
theorem row_take {w : World} {B : Nat} {A : Option Addr} {l : List R2} (h : Row w B A (flat encR l)) (a : Nat) : Row w B A (flat encR (l.take a)) := by
  intro hn
  have e : flat encR l = flat encR (l.take a) ++ flat encR (l.drop a) := by rw [← flat_append, List.take_append_drop]
  obtain ⟨b, o, hA, hb, hc⟩ := h (fun h0 => hn (by rw [e] at h0; exact (List.append_eq_nil_iff.1 h0).1))
  refine ⟨b, o, hA, hb, fun j v hj => hc j v ?_⟩
  rw [e, List.getElem?_append_left (List.getElem?_eq_some_iff.1 hj).1]
  exact hj
/-- What 'l[a:]' is. -/
theorem cut_back {A : Option Addr} {n c a : Nat} (ha : a ≤ n) (hc : n ≤ c) : ∃ A2, (∀ W : World, (Instr.slice 25 (.slice A n c) (some (.int .i64 (a : Int))) none none).run Tryz.prog W = .ok (.slice A2 (n - a) (c - a)) W) ∧
    (∀ W : World, (Instr.sliceAt 25 (.slice A n c) (some (.int .i64 (a : Int))) none none).run Tryz.prog W = .ok (.slice A2 (n - a) (c - a)) W) ∧
    ∀ (W : World) (B : Nat) (l : List R2), l.length = n → Row W B A (flat encR l) → Row W B A2 (flat encR (l.drop a)) := by
  have hz := Tryz.sizeOf63
  have h1 : ∀ W : World, (Instr.slice 25 (.slice A n c) (some (.int .i64 (a : Int))) none none).run Tryz.prog W = .ok (.slice (if c = a then A else A.map (·.add (a * 2))) (n - a) (c - a)) W := fun W => by
    rw [run_slice_l (ht := Tryz.underlying25) (h0 := by omega) (h1 := by omega)]
    simp [Program.elem, Tryz.underlying25, hz, sliced, Result.andThen]
  refine ⟨if c = a then A else A.map (·.add (a * 2)), h1, fun W => ?_, fun W B l hl h hn => ?_⟩
  · rw [run_sliceAt_slice (h := Tryz.underlying25)]
    exact h1 W
  · have hne : flat encR l ≠ [] := fun h0 => by
      have e : flat encR l = flat encR (l.take a) ++ flat encR (l.drop a) := by rw [← flat_append, List.take_append_drop]
      rw [e] at h0
      exact hn (List.append_eq_nil_iff.1 h0).2
    obtain ⟨b, o, rfl, hb, hcell⟩ := h hne
    have hca : ¬ c = a := fun e => by
      subst e
      have : l.drop c = [] := List.drop_eq_nil_of_le (by omega)
      rw [this] at hn
      exact hn rfl
    refine ⟨b, o + a * 2, by rw [if_neg hca]; simp [Addr.add], hb, fun j v hj => ?_⟩
    have e : flat encR l = flat encR (l.take a) ++ flat encR (l.drop a) := by rw [← flat_append, List.take_append_drop]
    have h2 := hcell (a * 2 + j) v (by
      have ht : (flat encR (l.take a)).length = a * 2 := by rw [flat_length encR_length, List.length_take, Nat.min_eq_left (by omega)]
      rw [e, List.getElem?_append_right (by omega), ht, Nat.add_sub_cancel_left]
      exact hj)
    rwa [← Nat.add_assoc] at h2
theorem cut_front {A : Option Addr} {n c a : Nat} (ha : a ≤ n) (hc : n ≤ c) (W : World) : (Instr.slice 25 (.slice A n c) none (some (.int .i64 (a : Int))) none).run Tryz.prog W = .ok (.slice A a c) W := by
  have hz := Tryz.sizeOf63
  rw [run_slice_h (ht := Tryz.underlying25) (h0 := by omega) (h2 := by omega)]
  simp [Program.elem, Tryz.underlying25, hz, sliced, Result.andThen]
  intro _
  cases A with
  | none => rfl
  | some x =>
    obtain ⟨b, o, q⟩ := x
    cases q <;> simp [Addr.add]
theorem cut_front_at {A : Option Addr} {n c a : Nat} (ha : a ≤ n) (hc : n ≤ c) (W : World) : (Instr.sliceAt 25 (.slice A n c) none (some (.int .i64 (a : Int))) none).run Tryz.prog W = .ok (.slice A a c) W := by
  rw [run_sliceAt_slice (h := Tryz.underlying25)]
  exact cut_front ha hc W

/-- One more, in its place. -/
def Placed (w : World) (l : List R2) (n : Nat) (x : R2) (e : Ending) (w' : World) : Prop := ∃ a, Behind x.2 l a n ∧ Listed w (l.take a ++ [x] ++ l.drop a) e w'
set_option maxHeartbeats 2000000 in
theorem Add_any {A : Option Addr} {l : List R2} {n c : Nat} {r e : Int} {w : World} (hR : Row w w.heap.size A (flat encR l)) (hn : n = l.length) (hc : n ≤ c) (hl : n ≤ 1000000) (he : 0 ≤ e) (hF : ∀ x ∈ l, 0 ≤ x.2) :
    Calls Tryz.prog 32 #[.slice A n c, .agg #[.int .u64 r, .int .u64 e]] w (Placed w l n (r, e)) := by
  obtain ⟨W0, hW0⟩ : ∃ W0, W0 = w.alloc (.cells #[.int .u64 r, .int .u64 e] 63) := ⟨_, rfl⟩
  have HB0 := Lib.hid (show Below w.heap.size w (w.alloc (.cells #[.int .u64 r, .int .u64 e] 63)) from (Below.refl _ _).alloc (Nat.le_refl _) _)
  have HR := Lib.hid hR
  have HN := Lib.hid hn
  have HF := Lib.hid hF
  obtain ⟨i0, hi0, hz0, hz1, hz2⟩ := info_parts info_R
  clear hR hn hF hW0 W0
  have het : e.tmod 3 = e % 3 := Int.tmod_eq_emod_of_nonneg he
  go_enter Tryz.func32, Tryz.ntmps32
  go_wp2
  go_loopw [5, 6] (fun v i wr => ∃ k a : Nat, k ≤ n ∧ a ≤ k ∧ i = .int .i64 k ∧ v = .int .i64 a ∧ Behind e l a k ∧ Below (w.heap.size + 1) (w.alloc (.cells #[.int .u64 r, .int .u64 e] 63)) wr) (fun _ i _ => n - (intOf i).toNat)
  case atStart => exact ⟨0, 0, Nat.zero_le _, Nat.le_refl _, rfl, rfl, behind_0 _ _, Below.refl _ _⟩
  case round =>
    obtain ⟨k, a, hk, hak, rfl, rfl, hbh, hb⟩ := hrel
    have HBH := Lib.hid hbh
    have HB := Lib.hid hb
    have q0 := box_cell hb 0
    have q1 := box_cell hb 1
    simp at q0 q1
    have HBW := Lib.hid (below_past hb)
    have HSZ := Lib.hid (show w.heap.size + 1 ≤ wr.heap.size from size_past hb)
    clear hbh hb
    by_cases hlt : k < n
    · obtain ⟨x, hx⟩ : ∃ x, l[k]? = some x := ⟨_, List.getElem?_eq_getElem (by rw [← HN.out]; exact hlt)⟩
      obtain ⟨b1, o1, rfl, _, hc1⟩ := Open.two_at (HR.out.later HBW.out) (i := k) (by rw [← HN.out]; exact hlt)
      obtain ⟨d0, d1⟩ := hc1 k x hx
      have hx0 := HF.out x (List.mem_of_getElem? hx)
      have hxt : x.2.tmod 3 = x.2 % 3 := Int.tmod_eq_emod_of_nonneg hx0
      have HX := Lib.hid hx
      clear hc1 hx
      by_cases hp : x.2 % 3 ≤ e % 3
      · have hpd : decide (x.2 % 3 ≤ e % 3) = true := by simpa using hp
        go_wp2
        obtain ⟨Q1, D0, D1⟩ := And.intro (fun p : After wr => p.cell q1) (And.intro (fun p : After wr => p.cell d0) (fun p : After wr => p.cell d1))
        refine wp_region_after mixed (by kernel_rfl) ?_
        repeat (first | go_big_quiet_step (fail) | quiet_step (fail))
        refine wpQuiet_nil ?_
        intro _ hw'
        obtain ⟨pq, hw''⟩ := hw'
        subst hw''
        clear Q1 D0 D1
        go_wp2
        go_roundw
        case rel => exact ⟨k + 1, k + 1, by omega, by omega, by go_num, by go_num, behind_yes HBH.out HX.out hp, HB.out.trans (pq.ok.mono HSZ.out)⟩
        case measure => simp [intOf]; omega
      · have hpd : decide (x.2 % 3 ≤ e % 3) = false := by simpa using hp
        have HNP := Lib.hid hp
        go_wp2
        obtain ⟨Q1, D0, D1⟩ := And.intro (fun p : After wr => p.cell q1) (And.intro (fun p : After wr => p.cell d0) (fun p : After wr => p.cell d1))
        refine wp_region_after mixed (by kernel_rfl) ?_
        repeat (first | go_big_quiet_step (fail) | quiet_step (fail))
        refine wpQuiet_nil ?_
        intro _ hw'
        obtain ⟨pq, hw''⟩ := hw'
        subst hw''
        clear Q1 D0 D1
        go_wp2
        go_roundw
        case rel => exact ⟨k + 1, a, by omega, by omega, by go_num, rfl, behind_no HBH.out HX.out (Int.not_le.2 HNP.out), HB.out.trans (pq.ok.mono HSZ.out)⟩
        case measure => simp [intOf]; omega
    · obtain rfl : k = n := by omega
      obtain ⟨A2, hcut2, hcut3, hrow2⟩ := cut_back (A := A) hak hc
      have hcut1 := fun W => cut_front (A := A) (c := c) hak hc W
      have hcut0 := fun W => cut_front_at (A := A) (c := c) hak hc W
      have HROW := Lib.hid fun (W : World) (hb : Below w.heap.size w W) => hrow2 W W.heap.size l HN.out.symm (HR.out.later hb)
      have HT := Lib.hid (row_take (HR.out.later HBW.out) a)
      have HL1 := Lib.hid (show (flat encR (l.take a)).length = a * 2 by rw [flat_length encR_length, List.length_take, ← HN.out, Nat.min_eq_left (by omega)])
      have HL2 := Lib.hid (show (flat encR (l.drop a)).length = (k - a) * 2 by rw [flat_length encR_length, List.length_drop, ← HN.out])
      clear hrow2
      go_wp2_with (first
        | (at_builtin; refine wpList_append_row _ (w.alloc (.cells #[.int .u64 r, .int .u64 e] 63)) rfl (.tmp 26) (.tmp 29) 25 rfl (w.heap.size + 1) 63 i0 _ 2 16 Tryz.underlying25 hi0 hz0 hz1 hz2 rfl (by decide) _ 0 [] rfl (World.ownsRow_nil _ _ _ _) A a c wr.heap.size (flat encR (l.take a)) rfl HL1.out HT.out (flat_oneCell encR_one _) (by simp only [maxLen]; omega) (by omega) HSZ.out HB.out ?_; intro A1 c1 w1 hown1 hb1; rw [Nat.zero_add, List.nil_append] at hown1; have HS1 := Lib.hid (show w.heap.size + 1 ≤ w1.heap.size from size_past hb1); have HO1 := Lib.hid (own_later hown1 ((Below.refl _ _).alloc (Nat.le_refl _) (.cells #[.int .u64 r, .int .u64 e] 63))); have HB1 := Lib.hid (hb1.alloc HS1.out (.cells #[.int .u64 r, .int .u64 e] 63)); have p0 := box_cell hb1 0; have p1 := box_cell hb1 1; simp at p0 p1; clear hown1 hb1)
        | (at_builtin; refine wpList_append_to _ (w.alloc (.cells #[.int .u64 r, .int .u64 e] 63)) rfl (.tmp 31) (.tmp 33) 25 rfl (w.heap.size + 1) 63 i0 _ 2 16 Tryz.underlying25 hi0 hz0 hz1 hz2 rfl (by decide) _ a _ rfl HO1.out ⟨w1.heap.size, 0, none⟩ 1 1 (encR (r, e)) rfl (by decide) rfl (cells_new _ _ _) (encR_one _) (by simp only [maxLen]; omega) (by omega) (by have := HS1.out; simp; omega) HB1.out ?_; intro g2 cap2 w2 hown2 hg2 hlt2 hb2; have HO2 := Lib.hid hown2; have HB2 := Lib.hid hb2; have HS2 := Lib.hid (show w.heap.size + 1 ≤ w2.heap.size from size_past hb2); clear hown2 hg2 hlt2 hb2)
        | (at_builtin; refine wpList_append_row _ (w.alloc (.cells #[.int .u64 r, .int .u64 e] 63)) rfl (.tmp 35) (.tmp 38) 25 rfl (w.heap.size + 1) 63 i0 _ 2 16 Tryz.underlying25 hi0 hz0 hz1 hz2 rfl (by decide) _ (a + 1) _ rfl HO2.out A2 (k - a) (c - a) w2.heap.size (flat encR (l.drop a)) rfl HL2.out (HROW.out w2 (below_past HB2.out)) (flat_oneCell encR_one _) (by simp only [maxLen]; omega) (by omega) HS2.out HB2.out ?_; intro A3 c3 w3 hown3 hb3; have HO3 := Lib.hid (own_base hown3 (Nat.le_succ _)); have HB3 := Lib.hid (below_past hb3); clear hown3 hb3))
      have HE := Lib.hid (show Placed w l k (r, e) (.returned (.slice A3 (a + 1 + (k - a)) c3)) w3 from by
        have h := HO3.out
        rw [← flat_one (enc := encR), ← flat_append, ← flat_append] at h
        exact ⟨a, HBH.out, listed_of h HB3.out⟩)
      go_ret
      exact HE.out

/-- Two lists in new memory: what is ripe, and what stays. -/
def Parted (w : World) (l : List R2) (c : Int) (e : Ending) (w' : World) : Prop := ∃ (A1 : Option Addr) (n1 c1 : Nat) (A2 : Option Addr) (n2 c2 : Nat), e = .returned (.tuple #[.slice A1 n1 c1, .slice A2 n2 c2]) ∧
  Listed w (l.filter (ripeB c)) (.returned (.slice A1 n1 c1)) w' ∧ Listed w (l.filter (fun x => !ripeB c x)) (.returned (.slice A2 n2 c2)) w'
structure Splits (w : World) (F : Option Addr) (a fc : Nat) (out : List R2) (G : Option Addr) (b gc : Nat) (left : List R2) (wr : World) : Prop where
  out : wr.ownsRow w.heap.size 63 2 (.slice F a fc) a (flat encR out)
  left : wr.ownsRow w.heap.size 63 2 (.slice G b gc) b (flat encR left)
  apart : ∀ x y, F = some x → G = some y → x.block ≠ y.block
  below : Below w.heap.size w wr
section
variable {w wr w1 : World} {F G : Option Addr} {a fc b gc : Nat} {out left : List R2}
theorem Splits.next (h : Splits w F a fc out G b gc left wr) (hb : Below wr.heap.size wr w1) : Splits w F a fc out G b gc left w1 :=
  ⟨own_later h.out hb, own_later h.left hb, h.apart, h.below.trans (hb.mono h.below.size)⟩
/-- One more is ripe. -/
theorem Splits.tell (h : Splits w F a fc out G b gc left wr) {g2 cap : Nat} {x : R2} (ho : w1.ownsRow w.heap.size 63 2 (.slice (some ⟨g2, 0, none⟩) (a + 1) cap) (a + 1) (flat encR out ++ encR x))
    (hor : (Value.slice F a fc).ownBlock = some g2 ∨ g2 = wr.heap.size) (hon : Only (fun k => (Value.slice F a fc).ownBlock = some k) wr w1) : Splits w (some ⟨g2, 0, none⟩) (a + 1) cap (out ++ [x]) G b gc left w1 := by
  obtain ⟨h5, h6, h7, h8⟩ := h
  have hs := h8.size
  refine ⟨by rw [flat_append, flat_one]; exact ho, hon.own h6 (fun k hk e => ?_), fun y z hy hz => ?_, h8.trans (hon.below hs (fun k hk => (h5.lt k hk).1))⟩
  · obtain ⟨y, hy, rfl⟩ := own_block hk
    obtain ⟨z, hz, hzy⟩ := own_block e
    exact h7 z y hz hy hzy
  · cases hy
    subst hz
    rcases hor with e | e
    · obtain ⟨y, hy, hyg⟩ := own_block e
      have := h7 y z hy rfl
      show g2 ≠ z.block
      omega
    · have := (h6.lt z.block rfl).2
      show g2 ≠ z.block
      omega
/-- One more stays. -/
theorem Splits.keep (h : Splits w F a fc out G b gc left wr) {g2 cap : Nat} {x : R2} (ho : w1.ownsRow w.heap.size 63 2 (.slice (some ⟨g2, 0, none⟩) (b + 1) cap) (b + 1) (flat encR left ++ encR x))
    (hor : (Value.slice G b gc).ownBlock = some g2 ∨ g2 = wr.heap.size) (hon : Only (fun k => (Value.slice G b gc).ownBlock = some k) wr w1) : Splits w F a fc out (some ⟨g2, 0, none⟩) (b + 1) cap (left ++ [x]) w1 := by
  obtain ⟨h5, h6, h7, h8⟩ := h
  have hs := h8.size
  refine ⟨hon.own h5 (fun k hk e => ?_), by rw [flat_append, flat_one]; exact ho, fun y z hy hz => ?_, h8.trans (hon.below hs (fun k hk => (h6.lt k hk).1))⟩
  · obtain ⟨y, hy, rfl⟩ := own_block hk
    obtain ⟨z, hz, hzy⟩ := own_block e
    exact h7 y z hy hz hzy.symm
  · cases hz
    subst hy
    rcases hor with e | e
    · obtain ⟨z, hz, hzg⟩ := own_block e
      have := h7 y z rfl hz
      show y.block ≠ g2
      omega
    · have := (h5.lt y.block rfl).2
      show y.block ≠ g2
      omega
end
set_option maxHeartbeats 2000000 in
theorem Take_any {A : Option Addr} {l : List R2} {n c : Nat} {e : Int} {w : World} (hR : Row w w.heap.size A (flat encR l)) (hn : n = l.length) (hl : n ≤ 1000000) (h0 : 0 ≤ e) (h1 : e < 18446744073709551616) :
    Calls Tryz.prog 30 #[.slice A n c, .int .u64 e] w (Parted w l e) := by
  have HR := Lib.hid hR
  have HN := Lib.hid hn
  have HC0 := Lib.hid h0
  have HC1 := Lib.hid h1
  have HS0 := Lib.hid (show Splits w none 0 0 [] none 0 0 [] w from ⟨World.ownsRow_nil _ _ _ _, World.ownsRow_nil _ _ _ _, (fun x y e => by cases e), Below.refl _ _⟩)
  obtain ⟨i0, hi0, hz0, hz1, hz2⟩ := info_parts info_R
  clear hR hn h0 h1
  go_enter Tryz.func30, Tryz.ntmps30
  go_wp2
  go_loopw [6, 7, 8] (fun v s i wr => ∃ (k a f b g : Nat) (F G : Option Addr), k ≤ n ∧ i = .int .i64 k ∧ v = .slice F a f ∧ s = .slice G b g ∧ a ≤ k ∧ b ≤ k ∧ Splits w F a f ((l.take k).filter (ripeB e)) G b g ((l.take k).filter (fun x => !ripeB e x)) wr) (fun _ _ i _ => n - (intOf i).toNat)
  case atStart => exact ⟨0, 0, 0, 0, 0, none, none, Nat.zero_le _, rfl, rfl, rfl, Nat.le_refl _, Nat.le_refl _, HS0.out⟩
  case round =>
    obtain ⟨k, a, f, b, g, F, G, hk, rfl, rfl, rfl, ha, hb2, hs⟩ := hrel
    have HS := Lib.hid hs
    clear hs
    by_cases hlt : k < n
    · obtain ⟨x, hx⟩ : ∃ x, l[k]? = some x := ⟨_, List.getElem?_eq_getElem (by rw [← HN.out]; exact hlt)⟩
      obtain ⟨b1, o1, rfl, _, hc1⟩ := Open.two_at (HR.out.later HS.out.below) (i := k) (by rw [← HN.out]; exact hlt)
      obtain ⟨d0, d1⟩ := hc1 k x hx
      have HX := Lib.hid hx
      clear hc1 hx
      rcases Bool.eq_false_or_eq_true (ripeB e x) with hr | hr
      · -- ripe
        have HRI := Lib.hid hr
        have HNR := Lib.hid (show (fun x => !ripeB e x) x = false by simp [hr])
        clear hr
        go_wp2_with fail
        refine (Ripe_is HC0.out HC1.out HRI.out _).mono ?_
        rintro e1 w2 ⟨rfl, hb⟩
        have f0 := cell_later hb d0
        have f1 := cell_later hb d1
        have HS4 := Lib.hid ((HS.out.next hb).next ((Below.refl w2.heap.size w2).alloc (Nat.le_refl _) (.cells #[.int .u64 x.1, .int .u64 x.2] 63)))
        clear hb
        go_wp2_with (at_builtin; refine wpList_append_only _ rfl (.tmp 21) (.tmp 26) 25 rfl w.heap.size 63 i0 _ 2 16 Tryz.underlying25 hi0 hz0 hz1 hz2 rfl (by decide) _ a _ rfl HS4.out.out ⟨w2.heap.size, 0, none⟩ 1 1 (encR x) rfl (by decide) rfl (cells_new _ _ _) (encR_one _) (by simp only [maxLen]; omega) (by omega) (by have := HS4.out.below.size; omega) ?_; intro g2 cap w4 ho4 hg4 hlt4 hor4 hon4; have HS5 := Lib.hid (HS4.out.tell ho4 hor4 hon4); clear ho4 hor4 hon4)
        go_roundw
        case rel => exact ⟨k + 1, a + 1, cap, b, g, some ⟨g2, 0, none⟩, G, by omega, by go_num, rfl, rfl, by omega, by omega, by rw [filter_no (p := fun x => !ripeB e x) HX.out HNR.out, filter_yes HX.out HRI.out]; exact HS5.out⟩
        case measure => simp [intOf]; omega
      · -- not yet
        have HRI := Lib.hid hr
        have HNR := Lib.hid (show (fun x => !ripeB e x) x = true by simp [hr])
        clear hr
        go_wp2_with fail
        refine (Ripe_is HC0.out HC1.out HRI.out _).mono ?_
        rintro e1 w2 ⟨rfl, hb⟩
        have f0 := cell_later hb d0
        have f1 := cell_later hb d1
        have HS4 := Lib.hid ((HS.out.next hb).next ((Below.refl w2.heap.size w2).alloc (Nat.le_refl _) (.cells #[.int .u64 x.1, .int .u64 x.2] 63)))
        clear hb
        go_wp2_with (at_builtin; refine wpList_append_only _ rfl (.tmp 28) (.tmp 33) 25 rfl w.heap.size 63 i0 _ 2 16 Tryz.underlying25 hi0 hz0 hz1 hz2 rfl (by decide) _ b _ rfl HS4.out.left ⟨w2.heap.size, 0, none⟩ 1 1 (encR x) rfl (by decide) rfl (cells_new _ _ _) (encR_one _) (by simp only [maxLen]; omega) (by omega) (by have := HS4.out.below.size; omega) ?_; intro g2 cap w4 ho4 hg4 hlt4 hor4 hon4; have HS5 := Lib.hid (HS4.out.keep ho4 hor4 hon4); clear ho4 hor4 hon4)
        go_roundw
        case rel => exact ⟨k + 1, a, f, b + 1, cap, F, some ⟨g2, 0, none⟩, by omega, by go_num, rfl, rfl, by omega, by omega, by rw [filter_yes (p := fun x => !ripeB e x) HX.out HNR.out, filter_no HX.out HRI.out]; exact HS5.out⟩
        case measure => simp [intOf]; omega
    · obtain rfl : k = n := by omega
      have HE := Lib.hid (show Parted w l e (.returned (.tuple #[.slice F a f, .slice G b g])) wr from by
        have h := HS.out
        rw [List.take_of_length_le (by rw [← HN.out]; exact Nat.le_refl _)] at h
        exact ⟨F, a, f, G, b, g, rfl, listed_of h.out h.below, listed_of h.left h.below⟩)
      go_wp2
      go_ret2
      exact HE.out
theorem neqR (x y : R2) (w : World) : (binOp .neq 63 (.agg #[.int .u64 x.1, .int .u64 x.2]) (.agg #[.int .u64 y.1, .int .u64 y.2])).run Tryz.prog w = .ok (.bool (!decide (x = y))) w := by
  have u4 := Tryz.underlying22
  have a4 := Tryz.isAgg22
  have z4 := Tryz.sizeOf22
  have hS : Tryz.prog.underlying 63 = some (.struct (Tryz.prog.fieldsOf 63)) := by kernel_rfl
  have hp : Tryz.prog.stoodInHeld 63 = false := by kernel_rfl
  rw [run_neq_struct, show (10000 : Nat) = 9999 + 1 from rfl, run_equalIn_agg w 9999 63 _ _ hS hp]
  simp only [Program.fieldsOf, Tryz.underlying63]
  go_simp
  obtain ⟨a, b⟩ := x
  obtain ⟨c, d⟩ := y
  by_cases h1 : a = c <;> by_cases h2 : b = d <;> simp [h1, h2]
theorem eqlR (x y : R2) (w : World) : (binOp .eql 63 (.agg #[.int .u64 x.1, .int .u64 x.2]) (.agg #[.int .u64 y.1, .int .u64 y.2])).run Tryz.prog w = .ok (.bool (decide (x = y))) w := by
  have u4 := Tryz.underlying22
  have a4 := Tryz.isAgg22
  have z4 := Tryz.sizeOf22
  have hS : Tryz.prog.underlying 63 = some (.struct (Tryz.prog.fieldsOf 63)) := by kernel_rfl
  have hp : Tryz.prog.stoodInHeld 63 = false := by kernel_rfl
  rw [run_eql_struct, show (10000 : Nat) = 9999 + 1 from rfl, run_equalIn_agg w 9999 63 _ _ hS hp]
  simp only [Program.fieldsOf, Tryz.underlying63]
  go_simp
  obtain ⟨a, b⟩ := x
  obtain ⟨c, d⟩ := y
  by_cases h1 : a = c <;> by_cases h2 : b = d <;> simp [h1, h2]
theorem guardR : Tryz.prog.eqGuardType Tryz.prog.depth 63 = false := by kernel_rfl
set_option maxHeartbeats 400000 in
theorem Same_yes {A1 A2 : Option Addr} {l : List R2} {n1 n2 c1 c2 : Nat} {w : World} (h1 : n1 = l.length) (h2 : n2 = l.length) (hR1 : Row w w.heap.size A1 (flat encR l)) (hR2 : Row w w.heap.size A2 (flat encR l)) (hl : n1 ≤ 1000000) :
    Calls Tryz.prog 14 #[.slice A1 n1 c1, .slice A2 n2 c2] w fun e w' => e = .returned (.bool true) ∧ Below w.heap.size w w' := by
  obtain rfl : n1 = n2 := h1.trans h2.symm
  have HN := Lib.hid h1
  have HR1 := Lib.hid hR1
  have HR2 := Lib.hid hR2
  clear h1 h2 hR1 hR2
  go_enter Tryz.func14, Tryz.ntmps14
  go_wp2
  go_loopw [5] (fun i wr => ∃ k : Nat, k ≤ n1 ∧ i = .int .i64 k ∧ Below w.heap.size w wr) (fun i _ => n1 - (intOf i).toNat)
  case atStart => exact ⟨0, Nat.zero_le _, rfl, Below.refl _ _⟩
  case round =>
    obtain ⟨k, hk, rfl, hb⟩ := hrel
    by_cases hlt : k < n1
    · have hk1 : k < l.length := by rw [← HN.out]; exact hlt
      obtain ⟨b1, o1, rfl, _, hc1⟩ := Open.two_at (HR1.out.later hb) hk1
      obtain ⟨b2, o2, rfl, _, hc2⟩ := Open.two_at (HR2.out.later hb) hk1
      obtain ⟨x, hx⟩ : ∃ x, l[k]? = some x := ⟨_, List.getElem?_eq_getElem hk1⟩
      obtain ⟨c0, c1⟩ := hc1 k x hx
      obtain ⟨q0, q1⟩ := hc2 k x hx
      have hgu := guardR
      have N1 := fun W => neqR x x W
      rw [decide_eq_true rfl] at N1
      simp only [Bool.not_true] at N1
      clear hc1 hc2 hx
      obtain ⟨C0, C1, Q0, Q1⟩ := And.intro (fun p : After wr => p.cell c0) (And.intro (fun p : After wr => p.cell c1) (And.intro (fun p : After wr => p.cell q0) (fun p : After wr => p.cell q1)))
      clear c0 c1 q0 q1
      go_wp2
      refine wp_region_after mixed (by kernel_rfl) ?_
      repeat (first | go_big_quiet_step (fail) | quiet_step (fail))
      refine wpQuiet_nil ?_
      intro _ hw'
      obtain ⟨pq, hw''⟩ := hw'
      subst hw''
      go_wp2
      go_roundw
      case rel => exact ⟨k + 1, by omega, by go_num, hb.trans (pq.ok.mono hb.size)⟩
      case measure => simp [intOf]; omega
    · go_wp2
      go_ret
      exact ⟨rfl, hb⟩
end Go.Proofs.YtafjokjmogadnaaGreatDoor.LimboRef

/- The law's Fill (package sundiallaw17) and the document's (sundialref17): slots that are added, one by one. -/
namespace Go.Proofs.YtafjokjmogadnaaGreatDoor.CoFill
set_option maxRecDepth 20000
open Go.ChangeShapes Go.WideShapes Go.RowKit LM Lay Limbo
set_option linter.unusedVariables false
set_option linter.unusedSimpArgs false

/-- The limbo of some slots. -/
def fillL : List R2 → Ls := fun l => l.foldl addL noL
theorem fill_succ {l : List R2} {i : Nat} {x : R2} (h : l[i]? = some x) : fillL (l.take (i + 1)) = addL (fillL (l.take i)) x := by
  obtain ⟨hi, e⟩ := List.getElem?_eq_some_iff.1 h
  unfold fillL
  rw [List.take_succ_eq_append_getElem hi, List.foldl_append, e]
  rfl
theorem fill_0 (l : List R2) : fillL (l.take 0) = noL := rfl
theorem fill_len : ∀ (l : List R2) (L : Ls), lenL (l.foldl addL L) = lenL L + l.length
  | [], L => rfl
  | x :: l, L => by
    rw [List.foldl_cons, fill_len l, lenL_add, List.length_cons]
    omega
theorem fill_length (l : List R2) : lenL (fillL l) = l.length := by
  unfold fillL
  rw [fill_len]
  simp [lenL, noL]
theorem mem_add {L : Ls} {x y : R2} (h : y ∈ allL (addL L x)) : y ∈ allL L ∨ y = x := by
  obtain ⟨k, hk, ek⟩ := rest_of x.2
  rw [addL_is L ek] at h
  match k, hk with
  | 0, _ => simp [allL, putL] at h ⊢; grind
  | 1, _ => simp [allL, putL] at h ⊢; grind
  | 2, _ => simp [allL, putL] at h ⊢; grind
theorem mem_fold : ∀ (l : List R2) (L : Ls) (y : R2), y ∈ allL (l.foldl addL L) → y ∈ allL L ∨ y ∈ l
  | [], L, y, h => .inl h
  | x :: l, L, y, h => by
    rw [List.foldl_cons] at h
    rcases mem_fold l _ y h with h | h
    · rcases mem_add h with h | h
      · exact .inl h
      · exact .inr (by simp [h])
    · exact .inr (by simp [h])
theorem mem_fill {l : List R2} {y : R2} (h : y ∈ allL (fillL l)) : y ∈ l := by
  rcases mem_fold l noL y h with h | h
  · simp [allL, noL] at h
  · exact h
theorem right_fold : ∀ (l : List R2) (L : Ls), Right L → Right (l.foldl addL L)
  | [], L, h => h
  | x :: l, L, h => right_fold l _ (right_add h x)
theorem right_fill (l : List R2) : Right (fillL l) := right_fold l _ right_no

theorem RefFill_any {A : Option Addr} {n c : Nat} {l : List R2} {w : World} (hR : Row w w.heap.size A (flat encR l)) (hn : n = l.length) (hl : n ≤ 1000) (hF : ∀ x ∈ l, 0 ≤ x.2) : Calls Tryz.prog 11 #[.slice A n c] w (Listed w (allL (fillL l))) := by
  have HR := Lib.hid hR
  have HN := Lib.hid hn
  have HF := Lib.hid hF
  clear hR hn hF
  go_enter Tryz.func11, Tryz.ntmps11
  go_wp2
  go_loopw [3, 4] (fun s3 s4 wr => ∃ (i : Nat) (A2 : Option Addr) (m c2 : Nat), i ≤ n ∧ s4 = .int .i64 i ∧ s3 = .slice A2 m c2 ∧ m = (allL (fillL (l.take i))).length ∧ m ≤ c2 ∧ Row wr wr.heap.size A2 (flat encR (allL (fillL (l.take i)))) ∧ (∀ a, A2 = some a → w.heap.size ≤ a.block ∧ a.block < wr.heap.size) ∧ Below w.heap.size w wr) (fun _ s4 _ => n - (intOf s4).toNat)
  case atStart => exact ⟨0, none, 0, 0, Nat.zero_le _, rfl, rfl, rfl, Nat.le_refl _, Row.none_, (fun a e => by cases e), Below.refl _ _⟩
  case round =>
    obtain ⟨i, A2, m, c2, hi, rfl, rfl, hm, hmc, hR2, hA2, hb2⟩ := hrel
    by_cases hlt : i < n
    · obtain ⟨x, hx⟩ : ∃ x, l[i]? = some x := ⟨_, List.getElem?_eq_getElem (by rw [← HN.out]; exact hlt)⟩
      obtain ⟨b, o, rfl, _, hc⟩ := Open.two_at (HR.out.later hb2) (i := i) (by rw [← HN.out]; exact hlt)
      obtain ⟨d0, d1⟩ := hc _ x hx
      have HX := Lib.hid hx
      have hil : (i : Int) < (n : Int) := by omega
      have hm3 : m ≤ 1000 := by rw [hm, lenL_all, fill_length, List.length_take]; omega
      have HAD := Lib.hid (LimboRef.Add_any (A := A2) (n := m) (c := c2) (r := x.1) (e := x.2) (w := wr) hR2 hm hmc (by omega) (HF.out x (List.mem_of_getElem? hx)) (fun y hy => HF.out y (List.mem_of_mem_take (mem_fill hy))))
      have HB2 := Lib.hid hb2
      have HM := Lib.hid hm
      clear hR2 hA2 hb2 hc hx hm hmc
      go_wp2_with fail
      refine HAD.out.mono ?_
      rintro e w3 ⟨a, hbe, A3, m3, c3, rfl, h1, h2, h3, h4, h5⟩
      rw [HM.out] at hbe
      have hall := behind_all (right_fill (l.take i)) hbe
      rw [hall, ← fill_succ HX.out] at h1 h3
      have HE := Lib.hid (And.intro h1 (And.intro h2 (And.intro h3 (And.intro h4 h5))))
      clear h1 h2 h3 h4 h5 hbe hall
      go_wp2
      go_roundw
      case rel => exact ⟨i + 1, A3, m3, c3, by omega, by go_num, rfl, HE.out.1, HE.out.2.1, HE.out.2.2.1, fun a e => ⟨Nat.le_trans HB2.out.size (HE.out.2.2.2.1 a e).1, (HE.out.2.2.2.1 a e).2⟩, HB2.out.trans (HE.out.2.2.2.2.mono HB2.out.size)⟩
      case measure => simp [intOf]; omega
    · obtain rfl : i = n := by omega
      have HE := Lib.hid (show Listed w (allL (fillL l)) (.returned (.slice A2 m c2)) wr from by
        rw [List.take_of_length_le (by rw [← HN.out]; exact Nat.le_refl _)] at hm hR2
        exact ⟨A2, m, c2, rfl, hm, hmc, hR2, hA2, hb2⟩)
      clear hm hmc hR2 hA2 hb2
      go_wp2
      go_ret
      exact HE.out
theorem Fill_any {A : Option Addr} {n c : Nat} {l : List R2} {w : World} (hR : Row w w.heap.size A (flat encR l)) (hn : n = l.length) (hl : n ≤ 1000) (hF : ∀ x ∈ l, 0 ≤ x.2) : Calls Tryz.prog 6 #[.slice A n c] w (Made w (fillL l)) := by
  have HR := Lib.hid hR
  have HN := Lib.hid hn
  have HF := Lib.hid hF
  clear hR hn hF
  go_enter Tryz.func6, Tryz.ntmps6
  go_wp2_with fail
  refine (New_any _).mono ?_
  rintro e w1 ⟨q, S, rfl, hL, hS, hb⟩
  have H0 := Lib.hid (And.intro hL (And.intro hS hb))
  clear hL hS hb
  go_wp2
  go_loopw [4] (fun s4 wr => ∃ i : Nat, i ≤ n ∧ s4 = .int .i64 i ∧ (∃ S, Lim wr q S (fillL (l.take i)) ∧ ∀ k, S k → w.heap.size ≤ k) ∧ Below w.heap.size w wr) (fun s4 _ => n - (intOf s4).toNat)
  case atStart => exact ⟨0, Nat.zero_le _, rfl, ⟨S, H0.out.1, H0.out.2.1⟩, H0.out.2.2⟩
  case round =>
    obtain ⟨i, hi, rfl, ⟨S2, hL2, hS2⟩, hb2⟩ := hrel
    by_cases hlt : i < n
    · obtain ⟨x, hx⟩ : ∃ x, l[i]? = some x := ⟨_, List.getElem?_eq_getElem (by rw [← HN.out]; exact hlt)⟩
      obtain ⟨b, o, rfl, hbw, hc⟩ := Open.two_at HR.out (i := i) (by rw [← HN.out]; exact hlt)
      obtain ⟨d0, d1⟩ := hc _ x hx
      replace d0 := (hb2.cell (p := ⟨b, o + i * 2, none⟩) hbw).trans d0
      replace d1 := (hb2.cell (p := ⟨b, o + i * 2 + 1, none⟩) hbw).trans d1
      have hbS : ¬ S2 b := fun e => by have := hS2 b e; omega
      have HX := Lib.hid hx
      have hil : (i : Int) < (n : Int) := by omega
      have HAD := Lib.hid (fun (W : World) (hb : Below wr.heap.size wr W) => Limbo.Add_any (p := q) (r := x.1) (e := x.2) (hL2.later hb) (by rw [fill_length, List.length_take]; omega) (HF.out x (List.mem_of_getElem? hx)))
      have HB2 := Lib.hid hb2
      have HS2 := Lib.hid hS2
      clear hL2 hS2 hb2 hc hx
      have HD := Lib.hid (And.intro d0 d1)
      go_wp2
      go_region_held3 (fun W => W.cell? ⟨b, o + i * 2, none⟩ = some (.int .u64 x.1) ∧ W.cell? ⟨b, o + i * 2 + 1, none⟩ = some (.int .u64 x.2))
        ((first | (with_reducible exact HD.out) | (with_reducible exact HD3.out) | assumption))
        (first | (go_at_call 19; refine (HAD.out _ (Below.refl _ _).drew).mono ?_; rintro e w3 ⟨S3, rfl, h1, h2, h3⟩; have HE := Lib.hid (And.intro h1 (And.intro h2 h3)); have HD3 := Lib.hid (show w3.cell? ⟨b, o + i * 2, none⟩ = some (.int .u64 x.1) ∧ w3.cell? ⟨b, o + i * 2 + 1, none⟩ = some (.int .u64 x.2) from ⟨((only_below S2 ((Below.refl wr.heap.size wr).drew)).trans h3).cell HD.out.1 hbS, ((only_below S2 ((Below.refl wr.heap.size wr).drew)).trans h3).cell HD.out.2 hbS⟩); clear h1 h2 h3))
      go_wp2
      go_roundw
      case rel =>
        have h3 : Only S2 wr w3 := (only_below S2 ((Below.refl wr.heap.size wr).drew)).trans HE.out.2.2
        exact ⟨i + 1, by omega, by go_num, ⟨S3, by rw [fill_succ HX.out]; exact HE.out.1, fun k e => (HE.out.2.1 k e).elim (HS2.out k) (fun e => Nat.le_trans HB2.out.size e)⟩, HB2.out.trans (h3.below HB2.out.size HS2.out)⟩
      case measure => simp [intOf]; omega
    · obtain rfl : i = n := by omega
      have HE := Lib.hid (show Made w (fillL l) (.returned (.pointer (some ⟨q, 0, none⟩))) wr from by
        rw [List.take_of_length_le (by rw [← HN.out]; exact Nat.le_refl _)] at hL2
        exact ⟨q, S2, rfl, hL2, hS2, hb2⟩)
      clear hL2 hS2 hb2
      go_wp2
      go_ret
      exact HE.out
end Go.Proofs.YtafjokjmogadnaaGreatDoor.CoFill
