/- The document's answers for layer 6 (package sundialref06), held to the same plain lists of words. -/
import Derived.Test.YthlamnghbdaaiaaDoorCellsWalks
import Derived.Test.YthlamnghbdaaiaaDoorFour
namespace Go.Proofs.YthlamnghbdaaiaaDoor.CellsRef
open Go.ChangeShapes Go.WideShapes Go.RowKit CM Lay Ints Cells

theorem infoWord : (Tryd.prog.info? 40).map (fun i => (i.zero, i.size, i.bytes)) = some (some (.int .u64 0), 1, 8) := by kernel_rfl
theorem own_none (w : World) (t : TypeId) (base : Nat) (hb : base ≤ w.heap.size) : (w.alloc (.cells #[] t)).ownsRow base t 1 (.slice (some ⟨w.heap.size, 0, none⟩) 0 0) 0 [] :=
  World.ownsRow_made (base := base) (e := t) (size := 1) w #[] 0 hb (by decide) rfl
/-- What it ends in: what is found, and a list of the words behind the access, the old one or a new one. -/
def Does (w : World) (A : Option Addr) (n : Nat) (f : Int) (l : List Int) (e : Ending) (w' : World) : Prop :=
  ∃ A' c', e = .returned (.tuple #[.int .u64 f, .slice A' n c']) ∧ Row w' w'.heap.size A' (flat (encZ .u64) l) ∧ (∀ a, A' = some a → A = some a ∨ w.heap.size ≤ a.block) ∧ Below w.heap.size w w'

theorem Do_out (A : Option Addr) (l : List Int) (n c : Nat) (kd i a b : Int) (w : World) (hn : n = l.length) (hR : Row w w.heap.size A (flat (encZ .u64) l)) (hi : ¬ there l i) :
    Calls Tryd.prog 25 #[.slice A n c, .agg #[.int .i64 kd, .int .i64 i, .int .u64 a, .int .u64 b]] w (Does w A n 0 l) := by
  have HR := Lib.hid hR
  have hB : Below w.heap.size w (w.alloc (.cells #[.int .i64 kd, .int .i64 i, .int .u64 a, .int .u64 b] 63)) := (Below.refl _ _).alloc (Nat.le_refl _) _
  have HB := Lib.hid hB
  clear hR hB
  unfold there at hi
  rw [← hn] at hi
  clear hn
  by_cases h0 : i < 0
  · clear hi
    go_enter Tryd.func25, Tryd.ntmps25
    go_wp2
    go_ret2
    exact ⟨_, _, rfl, HR.out.later HB.out, fun a h => Or.inl h, HB.out⟩
  · have h1 : (n : Int) ≤ i := by omega
    clear hi
    go_enter Tryd.func25, Tryd.ntmps25
    go_wp2
    go_ret2
    exact ⟨_, _, rfl, HR.out.later HB.out, fun a h => Or.inl h, HB.out⟩

theorem own_none1 (w : World) (o : Obj) (t : TypeId) : ((w.alloc o).alloc (.cells #[] t)).ownsRow (w.heap.size + 1) t 1 (.slice (some ⟨w.heap.size + 1, 0, none⟩) 0 0) 0 [] := by
  have h := own_none (w.alloc o) t (w.heap.size + 1) (by simp)
  simpa using h
theorem below_one (w : World) (o o2 : Obj) : Below (w.heap.size + 1) (w.alloc o) ((w.alloc o).alloc o2) := (Below.refl _ _).alloc (by simp) _
theorem row_cells {w : World} {B b o : Nat} {xs : List Value} (h : Row w B (some ⟨b, o, none⟩) xs) : ∀ j u, xs[j]? = some u → w.cell? ((⟨b, o, none⟩ : Addr).add j) = some u := fun j u hu => by
  obtain ⟨b', o', e, _, hc⟩ := h (fun e => by rw [e] at hu; simp at hu)
  simp only [Option.some.injEq, Addr.mk.injEq, and_true] at e
  obtain ⟨rfl, rfl⟩ := e
  rw [Addr.add_lit]
  exact hc j u hu

theorem set_end {w w1 : World} {A : Option Addr} {base g n cap : Nat} {x : Int} {l : List Int} (hb : Below w.heap.size w w1) (ho : w1.ownsRow base 40 1 (.slice (some ⟨g, 0, none⟩) n cap) n (flat (encZ .u64) l)) (hg : w.heap.size ≤ g) (j : Nat) (v : Int) :
    Does w A n x (l.set j v) (.returned (.tuple #[.int .u64 x, .slice (some ⟨g, 0, none⟩) n cap])) (w1.setCell ⟨g, j, none⟩ (.int .u64 v)) :=
  ⟨_, _, rfl, Row.of_own (own_int_set ho j v), fun a h => Or.inr (by cases h; exact hg), hb.setCell hg _⟩

theorem keep_end {w w1 : World} {A : Option Addr} {base g n cap : Nat} {x : Int} {l : List Int} (hb : Below w.heap.size w w1) (ho : w1.ownsRow base 40 1 (.slice (some ⟨g, 0, none⟩) n cap) n (flat (encZ .u64) l)) (hg : w.heap.size ≤ g) :
    Does w A n x l (.returned (.tuple #[.int .u64 x, .slice (some ⟨g, 0, none⟩) n cap])) w1 :=
  ⟨_, _, rfl, Row.of_own ho, fun a h => Or.inr (by cases h; exact hg), hb⟩

set_option maxRecDepth 100000 in
theorem Do_st (A : Option Addr) (l : List Int) (n c : Nat) (kd a b x : Int) (j : Nat) (w : World) (hn : n = l.length) (hm : n ≤ 4096) (hR : Row w w.heap.size A (flat (encZ .u64) l)) (hj : l[j]? = some x) (hk : kd = 2) :
    Calls Tryd.prog 25 #[.slice A n c, .agg #[.int .i64 kd, .int .i64 j, .int .u64 a, .int .u64 b]] w (Does w A n x (l.set j a)) := by
  have hjl := (List.getElem?_eq_some_iff.1 hj).1
  have hjn : j < n := by omega
  obtain ⟨bl, o, rfl, hbl, hc⟩ := int_at hR hjl
  have c0 := hc j x hj
  have HC := Lib.hid c0
  have HB := Lib.hid hbl
  have HR := Lib.hid hR
  have HN := Lib.hid hn
  have HCL := Lib.hid (show (flat (encZ .u64) l).length = n * 1 by rw [flat_ints_length, ← hn, Nat.mul_one])
  have HJ := Lib.hid hj
  have hn0 : 0 < n := by omega
  have HN0 := Lib.hid hn0
  clear hc hbl hR hn hj hjl hn0
  try subst hk
  try subst hx
  obtain ⟨i0, hi, hz0, hz1, hz2⟩ := info_parts infoWord
  go_enter Tryd.func25, Tryd.ntmps25
  go_wp2_with (
    at_builtin
    refine wpList_append_to _ _ rfl (.tmp 19) (.tmp 20) 22 rfl (w.heap.size + 1) 40 i0 _ 1 8 Tryd.underlying22 hi hz0 hz1 hz2 rfl (by decide) _ 0 [] rfl (own_none1 _ _ _) ⟨bl, o, none⟩ n c (flat (encZ .u64) l) rfl HN0.out HCL.out (row_cells (HR.out.later (((Below.refl _ _).alloc (Nat.le_refl _) _).alloc (by simp) _))) (flat_oneCell (encZ_one _) l) (by simp only [maxLen]; omega) (by omega) (by simp) (below_one _ _ _) ?_
    intro g cap w1 hown1 hg _ hb1
    have hown2 : w1.ownsRow (w.heap.size + 1) 40 1 (.slice (some ⟨g, 0, none⟩) n cap) n (flat (encZ .u64) l) := by simpa using hown1
    have HO := Lib.hid hown2
    have q0 := box_cell hb1 0
    have q1 := box_cell hb1 1
    have q2 := box_cell hb1 2
    have q3 := box_cell hb1 3
    simp at q0 q1 q2 q3
    have hbp := below_past hb1
    have hnz : (0 + n) = n := Nat.zero_add n
    have c1 := (hbp.cell (p := ⟨bl, o + j, none⟩) HB.out).trans HC.out
    have HBP := Lib.hid hbp
    obtain ⟨d0, d1⟩ := own_int_at HO.out HN.out HJ.out
    have hne : ¬ g = w.heap.size := by omega
    have hne2 : ¬ w.heap.size = g := by omega
    have hgl := Nat.le_of_succ_le hg
    clear hown1 hown2 hb1 hbp c0)
  go_wp2
  go_ret2
  exact set_end HBP.out HO.out hgl j _
set_option maxRecDepth 100000 in
theorem Do_sy (A : Option Addr) (l : List Int) (n c : Nat) (kd a b x : Int) (j : Nat) (w : World) (hn : n = l.length) (hm : n ≤ 4096) (hR : Row w w.heap.size A (flat (encZ .u64) l)) (hj : l[j]? = some x) (hk : kd = 3) (hx : x = a) :
    Calls Tryd.prog 25 #[.slice A n c, .agg #[.int .i64 kd, .int .i64 j, .int .u64 a, .int .u64 b]] w (Does w A n x (l.set j b)) := by
  have hjl := (List.getElem?_eq_some_iff.1 hj).1
  have hjn : j < n := by omega
  obtain ⟨bl, o, rfl, hbl, hc⟩ := int_at hR hjl
  have c0 := hc j x hj
  have HC := Lib.hid c0
  have HB := Lib.hid hbl
  have HR := Lib.hid hR
  have HN := Lib.hid hn
  have HCL := Lib.hid (show (flat (encZ .u64) l).length = n * 1 by rw [flat_ints_length, ← hn, Nat.mul_one])
  have HJ := Lib.hid hj
  have hn0 : 0 < n := by omega
  have HN0 := Lib.hid hn0
  clear hc hbl hR hn hj hjl hn0
  try subst hk
  try subst hx
  obtain ⟨i0, hi, hz0, hz1, hz2⟩ := info_parts infoWord
  go_enter Tryd.func25, Tryd.ntmps25
  go_wp2_with (
    at_builtin
    refine wpList_append_to _ _ rfl (.tmp 19) (.tmp 20) 22 rfl (w.heap.size + 1) 40 i0 _ 1 8 Tryd.underlying22 hi hz0 hz1 hz2 rfl (by decide) _ 0 [] rfl (own_none1 _ _ _) ⟨bl, o, none⟩ n c (flat (encZ .u64) l) rfl HN0.out HCL.out (row_cells (HR.out.later (((Below.refl _ _).alloc (Nat.le_refl _) _).alloc (by simp) _))) (flat_oneCell (encZ_one _) l) (by simp only [maxLen]; omega) (by omega) (by simp) (below_one _ _ _) ?_
    intro g cap w1 hown1 hg _ hb1
    have hown2 : w1.ownsRow (w.heap.size + 1) 40 1 (.slice (some ⟨g, 0, none⟩) n cap) n (flat (encZ .u64) l) := by simpa using hown1
    have HO := Lib.hid hown2
    have q0 := box_cell hb1 0
    have q1 := box_cell hb1 1
    have q2 := box_cell hb1 2
    have q3 := box_cell hb1 3
    simp at q0 q1 q2 q3
    have hbp := below_past hb1
    have hnz : (0 + n) = n := Nat.zero_add n
    have c1 := (hbp.cell (p := ⟨bl, o + j, none⟩) HB.out).trans HC.out
    have HBP := Lib.hid hbp
    obtain ⟨d0, d1⟩ := own_int_at HO.out HN.out HJ.out
    have hne : ¬ g = w.heap.size := by omega
    have hne2 : ¬ w.heap.size = g := by omega
    have hgl := Nat.le_of_succ_le hg
    clear hown1 hown2 hb1 hbp c0)
  go_wp2
  go_ret2
  exact set_end HBP.out HO.out hgl j _
set_option maxRecDepth 100000 in
theorem Do_sn (A : Option Addr) (l : List Int) (n c : Nat) (kd a b x : Int) (j : Nat) (w : World) (hn : n = l.length) (hm : n ≤ 4096) (hR : Row w w.heap.size A (flat (encZ .u64) l)) (hj : l[j]? = some x) (hk : kd = 3) (hx : (x == a) = false) :
    Calls Tryd.prog 25 #[.slice A n c, .agg #[.int .i64 kd, .int .i64 j, .int .u64 a, .int .u64 b]] w (Does w A n x (l)) := by
  have hjl := (List.getElem?_eq_some_iff.1 hj).1
  have hjn : j < n := by omega
  obtain ⟨bl, o, rfl, hbl, hc⟩ := int_at hR hjl
  have c0 := hc j x hj
  have HC := Lib.hid c0
  have HB := Lib.hid hbl
  have HR := Lib.hid hR
  have HN := Lib.hid hn
  have HCL := Lib.hid (show (flat (encZ .u64) l).length = n * 1 by rw [flat_ints_length, ← hn, Nat.mul_one])
  have HJ := Lib.hid hj
  have hn0 : 0 < n := by omega
  have HN0 := Lib.hid hn0
  clear hc hbl hR hn hj hjl hn0
  try subst hk
  try subst hx
  obtain ⟨i0, hi, hz0, hz1, hz2⟩ := info_parts infoWord
  go_enter Tryd.func25, Tryd.ntmps25
  go_wp2_with (
    at_builtin
    refine wpList_append_to _ _ rfl (.tmp 19) (.tmp 20) 22 rfl (w.heap.size + 1) 40 i0 _ 1 8 Tryd.underlying22 hi hz0 hz1 hz2 rfl (by decide) _ 0 [] rfl (own_none1 _ _ _) ⟨bl, o, none⟩ n c (flat (encZ .u64) l) rfl HN0.out HCL.out (row_cells (HR.out.later (((Below.refl _ _).alloc (Nat.le_refl _) _).alloc (by simp) _))) (flat_oneCell (encZ_one _) l) (by simp only [maxLen]; omega) (by omega) (by simp) (below_one _ _ _) ?_
    intro g cap w1 hown1 hg _ hb1
    have hown2 : w1.ownsRow (w.heap.size + 1) 40 1 (.slice (some ⟨g, 0, none⟩) n cap) n (flat (encZ .u64) l) := by simpa using hown1
    have HO := Lib.hid hown2
    have q0 := box_cell hb1 0
    have q1 := box_cell hb1 1
    have q2 := box_cell hb1 2
    have q3 := box_cell hb1 3
    simp at q0 q1 q2 q3
    have hbp := below_past hb1
    have hnz : (0 + n) = n := Nat.zero_add n
    have c1 := (hbp.cell (p := ⟨bl, o + j, none⟩) HB.out).trans HC.out
    have HBP := Lib.hid hbp
    obtain ⟨d0, d1⟩ := own_int_at HO.out HN.out HJ.out
    have hne : ¬ g = w.heap.size := by omega
    have hne2 : ¬ w.heap.size = g := by omega
    have hgl := Nat.le_of_succ_le hg
    clear hown1 hown2 hb1 hbp c0)
  go_wp2
  go_ret2
  exact keep_end HBP.out HO.out hgl
set_option maxRecDepth 100000 in
theorem Do_ad (A : Option Addr) (l : List Int) (n c : Nat) (kd a b x : Int) (j : Nat) (w : World) (hn : n = l.length) (hm : n ≤ 4096) (hR : Row w w.heap.size A (flat (encZ .u64) l)) (hj : l[j]? = some x) (hk : kd = 4) :
    Calls Tryd.prog 25 #[.slice A n c, .agg #[.int .i64 kd, .int .i64 j, .int .u64 a, .int .u64 b]] w (Does w A n x (l.set j ((x + a) % 18446744073709551616))) := by
  have hjl := (List.getElem?_eq_some_iff.1 hj).1
  have hjn : j < n := by omega
  obtain ⟨bl, o, rfl, hbl, hc⟩ := int_at hR hjl
  have c0 := hc j x hj
  have HC := Lib.hid c0
  have HB := Lib.hid hbl
  have HR := Lib.hid hR
  have HN := Lib.hid hn
  have HCL := Lib.hid (show (flat (encZ .u64) l).length = n * 1 by rw [flat_ints_length, ← hn, Nat.mul_one])
  have HJ := Lib.hid hj
  have hn0 : 0 < n := by omega
  have HN0 := Lib.hid hn0
  clear hc hbl hR hn hj hjl hn0
  try subst hk
  try subst hx
  obtain ⟨i0, hi, hz0, hz1, hz2⟩ := info_parts infoWord
  go_enter Tryd.func25, Tryd.ntmps25
  go_wp2_with (
    at_builtin
    refine wpList_append_to _ _ rfl (.tmp 19) (.tmp 20) 22 rfl (w.heap.size + 1) 40 i0 _ 1 8 Tryd.underlying22 hi hz0 hz1 hz2 rfl (by decide) _ 0 [] rfl (own_none1 _ _ _) ⟨bl, o, none⟩ n c (flat (encZ .u64) l) rfl HN0.out HCL.out (row_cells (HR.out.later (((Below.refl _ _).alloc (Nat.le_refl _) _).alloc (by simp) _))) (flat_oneCell (encZ_one _) l) (by simp only [maxLen]; omega) (by omega) (by simp) (below_one _ _ _) ?_
    intro g cap w1 hown1 hg _ hb1
    have hown2 : w1.ownsRow (w.heap.size + 1) 40 1 (.slice (some ⟨g, 0, none⟩) n cap) n (flat (encZ .u64) l) := by simpa using hown1
    have HO := Lib.hid hown2
    have q0 := box_cell hb1 0
    have q1 := box_cell hb1 1
    have q2 := box_cell hb1 2
    have q3 := box_cell hb1 3
    simp at q0 q1 q2 q3
    have hbp := below_past hb1
    have hnz : (0 + n) = n := Nat.zero_add n
    have c1 := (hbp.cell (p := ⟨bl, o + j, none⟩) HB.out).trans HC.out
    have HBP := Lib.hid hbp
    obtain ⟨d0, d1⟩ := own_int_at HO.out HN.out HJ.out
    have hne : ¬ g = w.heap.size := by omega
    have hne2 : ¬ w.heap.size = g := by omega
    have hgl := Nat.le_of_succ_le hg
    clear hown1 hown2 hb1 hbp c0)
  go_wp2
  go_ret2
  exact set_end HBP.out HO.out hgl j _
set_option maxRecDepth 100000 in
theorem Do_ld (A : Option Addr) (l : List Int) (n c : Nat) (kd a b x : Int) (j : Nat) (w : World) (hn : n = l.length) (hm : n ≤ 4096) (hR : Row w w.heap.size A (flat (encZ .u64) l)) (hj : l[j]? = some x) (h2 : (kd == 2) = false) (h3 : (kd == 3) = false) (h4 : (kd == 4) = false) :
    Calls Tryd.prog 25 #[.slice A n c, .agg #[.int .i64 kd, .int .i64 j, .int .u64 a, .int .u64 b]] w (Does w A n x (l)) := by
  have hjl := (List.getElem?_eq_some_iff.1 hj).1
  have hjn : j < n := by omega
  obtain ⟨bl, o, rfl, hbl, hc⟩ := int_at hR hjl
  have c0 := hc j x hj
  have HC := Lib.hid c0
  have HB := Lib.hid hbl
  have HR := Lib.hid hR
  have HN := Lib.hid hn
  have HCL := Lib.hid (show (flat (encZ .u64) l).length = n * 1 by rw [flat_ints_length, ← hn, Nat.mul_one])
  have HJ := Lib.hid hj
  have hn0 : 0 < n := by omega
  have HN0 := Lib.hid hn0
  clear hc hbl hR hn hj hjl hn0
  try subst hk
  try subst hx
  obtain ⟨i0, hi, hz0, hz1, hz2⟩ := info_parts infoWord
  go_enter Tryd.func25, Tryd.ntmps25
  go_wp2_with (
    at_builtin
    refine wpList_append_to _ _ rfl (.tmp 19) (.tmp 20) 22 rfl (w.heap.size + 1) 40 i0 _ 1 8 Tryd.underlying22 hi hz0 hz1 hz2 rfl (by decide) _ 0 [] rfl (own_none1 _ _ _) ⟨bl, o, none⟩ n c (flat (encZ .u64) l) rfl HN0.out HCL.out (row_cells (HR.out.later (((Below.refl _ _).alloc (Nat.le_refl _) _).alloc (by simp) _))) (flat_oneCell (encZ_one _) l) (by simp only [maxLen]; omega) (by omega) (by simp) (below_one _ _ _) ?_
    intro g cap w1 hown1 hg _ hb1
    have hown2 : w1.ownsRow (w.heap.size + 1) 40 1 (.slice (some ⟨g, 0, none⟩) n cap) n (flat (encZ .u64) l) := by simpa using hown1
    have HO := Lib.hid hown2
    have q0 := box_cell hb1 0
    have q1 := box_cell hb1 1
    have q2 := box_cell hb1 2
    have q3 := box_cell hb1 3
    simp at q0 q1 q2 q3
    have hbp := below_past hb1
    have hnz : (0 + n) = n := Nat.zero_add n
    have c1 := (hbp.cell (p := ⟨bl, o + j, none⟩) HB.out).trans HC.out
    have HBP := Lib.hid hbp
    obtain ⟨d0, d1⟩ := own_int_at HO.out HN.out HJ.out
    have hne : ¬ g = w.heap.size := by omega
    have hne2 : ¬ w.heap.size = g := by omega
    have hgl := Nat.le_of_succ_le hg
    clear hown1 hown2 hb1 hbp c0)
  go_wp2
  go_ret2
  exact keep_end HBP.out HO.out hgl
theorem Do_any (A : Option Addr) (l : List Int) (n c : Nat) (x : Int × Int × Int × Int) (w : World) (hn : n = l.length) (hm : n ≤ 4096) (hR : Row w w.heap.size A (flat (encZ .u64) l)) :
    Calls Tryd.prog 25 #[.slice A n c, .agg #[.int .i64 x.1, .int .i64 x.2.1, .int .u64 x.2.2.1, .int .u64 x.2.2.2]] w (Does w A n (getI l x.2.1) (nextI l x)) := by
  obtain ⟨kd, i, a, b⟩ := x
  simp only
  by_cases hi : there l i
  · obtain ⟨j, rfl, hj⟩ := there_nat hi
    have hx := List.getElem?_eq_getElem hj
    rw [getI_some hx]
    by_cases h2 : kd = 2
    · have e : nextI l (kd, (j : Int), a, b) = l.set j a := by unfold nextI; rw [if_pos h2]; exact setI_in hj _
      rw [e]
      exact Do_st A l n c kd a b _ j w hn hm hR hx h2
    · by_cases h3 : kd = 3
      · by_cases ha : l[j] = a
        · have e : nextI l (kd, (j : Int), a, b) = l.set j b := by unfold nextI swapI; rw [if_neg h2, if_pos h3, if_pos ((getI_some hx).trans ha)]; exact setI_in hj _
          rw [e]
          exact Do_sy A l n c kd a b _ j w hn hm hR hx h3 ha
        · have e : nextI l (kd, (j : Int), a, b) = l := by unfold nextI swapI; rw [if_neg h2, if_pos h3]; exact if_neg (fun q => ha ((getI_some hx).symm.trans q))
          rw [e]
          exact Do_sn A l n c kd a b _ j w hn hm hR hx h3 (by simpa using ha)
      · by_cases h4 : kd = 4
        · have e : nextI l (kd, (j : Int), a, b) = l.set j ((l[j] + a) % 18446744073709551616) := by unfold nextI addI; rw [if_neg h2, if_neg h3, if_pos h4]; simp only; rw [getI_some hx]; exact setI_in hj _
          rw [e]
          exact Do_ad A l n c kd a b _ j w hn hm hR hx h4
        · have e : nextI l (kd, (j : Int), a, b) = l := by unfold nextI; rw [if_neg h2, if_neg h3, if_neg h4]
          rw [e]
          exact Do_ld A l n c kd a b _ j w hn hm hR hx (by simpa using h2) (by simpa using h3) (by simpa using h4)
  · rw [getI_out hi, nextI_out (x := (kd, i, a, b)) hi]
    exact Do_out A l n c kd i a b w hn hR hi

theorem same_upto (l1 l2 : List Int) (h : l1.length = l2.length) (n : Nat) (hn : l1.length ≤ n) (hs : ∀ j, j < n → l1[j]? = l2[j]?) : l1 = l2 := by
  apply List.ext_getElem?
  intro j
  by_cases hj : j < n
  · exact hs j hj
  · rw [List.getElem?_eq_none (by omega), List.getElem?_eq_none (by omega)]

set_option maxHeartbeats 400000 in
theorem Same_any (A1 A2 : Option Addr) (l1 l2 : List Int) (c1 c2 : Nat) (w : World) (hR1 : Row w w.heap.size A1 (flat (encZ .u64) l1)) (hR2 : Row w w.heap.size A2 (flat (encZ .u64) l2)) (hl1 : l1.length ≤ maxLen) (hl2 : l2.length ≤ maxLen) :
    Calls Tryd.prog 10 #[.slice A1 l1.length c1, .slice A2 l2.length c2] w fun e w' => e = .returned (.bool (decide (l1 = l2))) ∧ Below w.heap.size w w' := by
  obtain ⟨n, hn⟩ : ∃ n, n = l1.length := ⟨_, rfl⟩
  obtain ⟨m, hm⟩ : ∃ m, m = l2.length := ⟨_, rfl⟩
  unfold maxLen at hl1 hl2
  rw [← hn] at hl1 ⊢
  rw [← hm] at hl2 ⊢
  have HN := Lib.hid hn
  have HM := Lib.hid hm
  clear hn hm
  have HR1 := Lib.hid hR1
  have HR2 := Lib.hid hR2
  clear hR1 hR2
  by_cases hnm : n = m
  · subst hnm
    go_enter Tryd.func10, Tryd.ntmps10
    go_wp2
    go_loopw [5] (fun i wr => ∃ k : Nat, k ≤ n ∧ i = .int .i64 k ∧ (∀ j, j < k → l1[j]? = l2[j]?) ∧ Below w.heap.size w wr)
      (fun i _ => n - (intOf i).toNat)
    case atStart => exact ⟨0, Nat.zero_le _, rfl, fun j h => by omega, Below.refl _ _⟩
    case round =>
      obtain ⟨k, hk, rfl, hs, hb⟩ := hrel
      have HS := Lib.hid hs
      clear hs
      by_cases hlt : k < n
      · have hk1 : k < l1.length := by rw [← HN.out]; exact hlt
        have hk2 : k < l2.length := by rw [← HM.out]; exact hlt
        obtain ⟨b1, o1, rfl, _, hc1⟩ := int_at (HR1.out.later hb) hk1
        obtain ⟨b2, o2, rfl, _, hc2⟩ := int_at (HR2.out.later hb) hk2
        obtain ⟨x1, hx1⟩ : ∃ x, l1[k]? = some x := ⟨_, List.getElem?_eq_getElem hk1⟩
        obtain ⟨x2, hx2⟩ : ∃ x, l2[k]? = some x := ⟨_, List.getElem?_eq_getElem hk2⟩
        have p0 := hc1 k x1 hx1
        have q0 := hc2 k x2 hx2
        have HX1 := Lib.hid hx1
        have HX2 := Lib.hid hx2
        have C0 := fun p : After wr => p.cell p0
        have D0 := fun p : After wr => p.cell q0
        clear hc1 hc2 p0 q0 hx1 hx2
        by_cases he : x1 = x2
        · subst he
          go_wp2
          refine wp_region_after mixed (by kernel_rfl) ?_
          repeat (first | go_big_quiet_step (fail) | quiet_step (fail))
          refine wpQuiet_nil ?_
          intro _ hw'
          obtain ⟨pq, hw''⟩ := hw'
          subst hw''
          go_wp2
          go_roundw
          case rel =>
            refine ⟨k + 1, by omega, by go_num, fun j hj => ?_, hb.trans (pq.ok.mono hb.size)⟩
            by_cases e : j = k
            · subst e
              rw [HX1.out, HX2.out]
            · exact HS.out j (by omega)
          case measure => simp [intOf]; omega
        · have he2 : (x1 == x2) = false := by simpa using he
          have he3 : (x1 != x2) = true := by simpa using he
          go_wp2
          refine wp_region_after mixed (by kernel_rfl) ?_
          repeat (first | go_big_quiet_step (fail) | quiet_step (fail))
          refine wpQuiet_nil ?_
          intro _ hw'
          obtain ⟨pq, hw''⟩ := hw'
          subst hw''
          go_wp2
          go_ret
          refine ⟨ret_bool (decide_eq_false fun e => he ?_).symm, hb.trans (pq.ok.mono hb.size)⟩
          have h1 := HX1.out
          rw [e, HX2.out] at h1
          simpa using h1.symm
      · go_wp2
        go_ret
        exact ⟨ret_bool (decide_eq_true (same_upto l1 l2 (HN.out.symm.trans HM.out) n (by rw [← HN.out]; exact Nat.le_refl _) fun j hj => HS.out j (by omega))).symm, hb⟩
  · go_enter Tryd.func10, Tryd.ntmps10
    go_wp2
    go_ret
    exact ⟨ret_bool (decide_eq_false fun e => hnm (by rw [HN.out, HM.out, e])).symm, Below.refl _ _⟩
theorem Same_yes {A1 A2 : Option Addr} {l : List Int} {n1 n2 c1 c2 : Nat} {w : World} (h1 : n1 = l.length) (h2 : n2 = l.length) (hR1 : Row w w.heap.size A1 (flat (encZ .u64) l)) (hR2 : Row w w.heap.size A2 (flat (encZ .u64) l)) (hl : l.length ≤ maxLen) :
    Calls Tryd.prog 10 #[.slice A1 n1 c1, .slice A2 n2 c2] w fun e w' => e = .returned (.bool true) ∧ Below w.heap.size w w' := by
  subst h1
  subst h2
  have h := Same_any A1 A2 l l c1 c2 w hR1 hR2 hl hl
  rw [decide_eq_true rfl] at h
  exact h
end Go.Proofs.YthlamnghbdaaiaaDoor.CellsRef
