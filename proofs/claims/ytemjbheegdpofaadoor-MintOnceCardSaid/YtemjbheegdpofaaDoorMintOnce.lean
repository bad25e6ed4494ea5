/- MintOnce: for every plan that is right and every list of at most 300 picks, timers which are made in all slots, one step of any of their makers at a time, have numbers of their own, and each that is made is being made, in its slot, of the plan's generation, with its number, its deadline and two that hold it (of another plan, or of more picks, just the chapter's example is asked); and that example comes out; the arguments read as they did. Condition: the library's listed tables hold what its own text lays in them (tied by the card). -/
import Derived.Test.YtemjbheegdpofaaDoorMintAwake
import Derived.Test.YtemjbheegdpofaaDoorInts
import Derived.Deep.RegionHeld3
import Derived.Test.YtemjbheegdpofaaDoorFour
import Derived.Test.YtemjbheegdpofaaDoorFrame
import Derived.Test.YtemjbheegdpofaaDoorFrameLaid
import Derived.Test.YtemjbheegdpofaaDoorTie
import Derived.Test.YtemjbheegdpofaaDoorCards
namespace Go.Proofs.YtemjbheegdpofaaDoor.MintOnce
set_option maxRecDepth 20000
open Go.ChangeShapes Go.WideShapes Go.ChangeAt Go.RowKit CM DM PM MiM BM MM Runs Lay Plan Ints Go.Proofs.YtemjbheegdpofaaDoor.Task
open Go.Proofs.YtemjbheegdpofaaDoor.Cells (Mem Does Store_any Load_any)
open Go.Proofs.YtemjbheegdpofaaDoor.Mint (Makes Mint_any Make_next Make_tell Ref_any Key_any)
open Go.Proofs.YtemjbheegdpofaaDoor.Law19 (plan4 awake_any wf_u64 wf_i64)
set_option linter.unusedVariables false
set_option linter.unusedSimpArgs false

theorem held {W : World} (h : laidMetH Tryd.prog Rows.mintOnceRow.laid W) : True := trivial

/-- Rows of pointers. -/
def ptrV (p : Nat) : Value := .pointer (some ⟨p, 0, none⟩)
theorem ptr_one (p : Nat) : ∀ v ∈ [ptrV p], v.oneCell' = true := by
  intro v hv
  simp at hv
  subst hv
  rfl
theorem info_ptr : (Tryd.prog.info? 28).map (fun i => (i.zero, i.size, i.bytes)) = some (some (.pointer none), 1, 8) := by kernel_rfl

/-- The m-th maker's deadline. -/
def dlN (m : Nat) : Int := 10 * ((m : Int) + 1)
/-- All makers, in their blocks. -/
def All (w : World) (T L : Int) (ps : List Nat) (ss : List St) : Prop := ps.length = ss.length ∧ ps.Nodup ∧ ∀ (m p : Nat) s, ps[m]? = some p → ss[m]? = some s → Makes w p T L ((m : Int) + 1) (dlN m) (IntKind.u64.wrap (dlN m)) (IntKind.u64.wrap 1) s
section
variable {w w' : World} {T L : Int} {ps : List Nat} {ss : List St} {R : Nat → Prop}
theorem All.only (h : All w T L ps ss) (ho : Only R w w') (hR : ∀ p ∈ ps, ¬ R p) : All w' T L ps ss := ⟨h.1, h.2.1, fun m p s h1 h2 => (h.2.2 m p s h1 h2).only ho (hR p (List.mem_of_getElem? h1))⟩
theorem All.later (h : All w T L ps ss) (hb : Below w.heap.size w w') : All w' T L ps ss := h.only (only_below (fun _ => False) hb) fun _ _ => id
theorem All.lt (h : All w T L ps ss) {p : Nat} (hp : p ∈ ps) : p < w.heap.size := by
  obtain ⟨m, hm⟩ := List.mem_iff_getElem?.1 hp
  have hl := (List.getElem?_eq_some_iff.1 hm).1
  exact (h.2.2 m p _ hm (List.getElem?_eq_getElem (by rw [← h.1]; exact hl))).lt
theorem all_nil (w : World) (T L : Int) : All w T L [] [] := ⟨rfl, List.nodup_nil, fun m p s h => by simp at h⟩
theorem All.snoc (h : All w T L ps ss) {p : Nat} {s : St} (hp : p ∉ ps) (hm : Makes w p T L ((ps.length : Int) + 1) (dlN ps.length) (IntKind.u64.wrap (dlN ps.length)) (IntKind.u64.wrap 1) s) : All w T L (ps ++ [p]) (ss ++ [s]) := by
  refine ⟨by simp [h.1], ?_, fun m q t h1 h2 => ?_⟩
  · rw [List.nodup_append]
    exact ⟨h.2.1, by simp, fun x hx y hy e => by simp at hy; subst hy; subst e; exact hp hx⟩
  · by_cases hlt : m < ps.length
    · rw [List.getElem?_append_left hlt] at h1
      rw [List.getElem?_append_left (by rw [← h.1]; exact hlt)] at h2
      exact h.2.2 m q t h1 h2
    · have hml : m < (ps ++ [p]).length := (List.getElem?_eq_some_iff.1 h1).1
      simp at hml
      obtain rfl : m = ps.length := by omega
      rw [List.getElem?_append_right (Nat.le_refl _)] at h1
      rw [h.1, List.getElem?_append_right (Nat.le_refl _)] at h2
      simp at h1 h2
      subst h1
      subst h2
      exact hm
theorem All.set (h : All w T L ps ss) {m p : Nat} {s' : St} (hp : ps[m]? = some p) (ho : Only (fun k => k = p) w w') (hm : Makes w' p T L ((m : Int) + 1) (dlN m) (IntKind.u64.wrap (dlN m)) (IntKind.u64.wrap 1) s') : All w' T L ps (ss.set m s') := by
  refine ⟨by rw [List.length_set]; exact h.1, h.2.1, fun j q t h1 h2 => ?_⟩
  by_cases e : j = m
  · subst e
    rw [hp] at h1
    cases h1
    rw [List.getElem?_set] at h2
    simp only [if_true] at h2
    split at h2
    · cases h2; exact hm
    · cases h2
  · rw [List.getElem?_set_ne (fun q => e q.symm)] at h2
    refine (h.2.2 j q t h1 h2).only ho fun eq => e ?_
    have h3 := (List.getElem?_eq_some_iff.1 h1)
    have h4 := (List.getElem?_eq_some_iff.1 hp)
    exact (List.getElem_inj h.2.1).1 (h3.2.trans (eq.trans h4.2.symm))
end

theorem walk_no (T S L G : Int) (hr : rightB T S L G = false) (A : Option Addr) (n c : Nat) (w : World) : Calls Tryd.prog 4 #[.agg #[.int .i64 T, .int .i64 S, .int .i64 L, .int .u64 G], .slice A n c] w fun e w' => e = .returned (.bool true) ∧ Below w.heap.size w w' := by
  have HR := Lib.hid hr
  have HB0 := Lib.hid (box_below w (.cells #[.int .i64 T, .int .i64 S, .int .i64 L, .int .u64 G] 24))
  obtain ⟨c_0, c_1, c_2, c_3⟩ := box4 w (.int .i64 T) (.int .i64 S) (.int .i64 L) (.int .u64 G) 24
  clear hr
  go_enter Tryd.func4, Tryd.ntmps4
  go_wp2_with fail
  refine (Blank.Make_no HR.out _).mono ?_
  rintro e w1 ⟨rfl, b1⟩
  have HB1 := Lib.hid (HB0.out.trans (b1.mono HB0.out.size))
  clear b1 c_0 c_1 c_2 c_3
  go_wp2_with fail
  refine (awake_any _).mono ?_
  rintro e w4 ⟨rfl, b4⟩
  go_wp2
  go_ret
  exact ⟨rfl, HB1.out.trans (b4.mono HB1.out.size)⟩
theorem walk_many (T S L : Nat) (G : Int) (hr : rightB (T : Int) (S : Int) (L : Int) G = true) (hG : 0 ≤ G) (A : Option Addr) (n c : Nat) (hn : 300 < n) (hn2 : n ≤ 9223372036854775807) (w : World) : Calls Tryd.prog 4 #[.agg #[.int .i64 (T : Int), .int .i64 (S : Int), .int .i64 (L : Int), .int .u64 G], .slice A n c] w fun e w' => e = .returned (.bool true) ∧ Below w.heap.size w w' := by
  have HR := Lib.hid hr
  have HG := Lib.hid hG
  have HB0 := Lib.hid (box_below w (.cells #[.int .i64 (T : Int), .int .i64 (S : Int), .int .i64 (L : Int), .int .u64 G] 24))
  obtain ⟨c_0, c_1, c_2, c_3⟩ := box4 w (.int .i64 (T : Int)) (.int .i64 (S : Int)) (.int .i64 (L : Int)) (.int .u64 G) 24
  clear hr hG
  go_enter Tryd.func4, Tryd.ntmps4
  go_wp2_with fail
  refine (Blank.Make_yes HR.out HG.out _).mono ?_
  rintro e w1 ⟨pc, h, rfl, m1, p1, h1, b1⟩
  have HB1 := Lib.hid (HB0.out.trans (b1.mono HB0.out.size))
  clear b1 c_0 c_1 c_2 c_3 m1 p1 h1
  go_wp2_with fail
  refine (awake_any _).mono ?_
  rintro e w4 ⟨rfl, b4⟩
  go_wp2
  go_ret
  exact ⟨rfl, HB1.out.trans (b4.mono HB1.out.size)⟩

/-- Amid the making of the makers. -/
def Lays (w1 : World) (T S L : Nat) (v : Value) (k : Nat) (wr : World) : Prop :=
  ∃ ps, k = ps.length ∧ wr.ownsRow w1.heap.size 28 1 v k (ps.map ptrV) ∧ All wr T L ps (List.replicate k ⟨0, 0, 0, 0⟩) ∧ (∀ p ∈ ps, w1.heap.size ≤ p ∧ ∀ g, v.ownBlock = some g → p ≠ g) ∧ Below w1.heap.size w1 wr
/-- What the last region reads stays. -/
theorem stay_start {w9 W : World} {B g i p K T S L : Nat} {G dd sq : Int} (hb : Below w9.heap.size w9 W) (hp : w9.cell? ⟨B, 0, none⟩ = some (.int .i64 (T : Int)) ∧ w9.cell? ⟨B, 1, none⟩ = some (.int .i64 (S : Int)) ∧ w9.cell? ⟨B, 2, none⟩ = some (.int .i64 (L : Int)) ∧ w9.cell? ⟨B, 3, none⟩ = some (.int .u64 G)) (h1 : w9.cell? ⟨g, i, none⟩ = some (.pointer (some ⟨p, 0, none⟩)))
    (h2 : w9.cell? ⟨K, 0, none⟩ = some (.int .i64 dd)) (h3 : w9.cell? ⟨K, 1, none⟩ = some (.int .u64 sq)) : (fun W : World => W.cell? ⟨B, 0, none⟩ = some (.int .i64 (T : Int)) ∧ W.cell? ⟨B, 1, none⟩ = some (.int .i64 (S : Int)) ∧ W.cell? ⟨B, 2, none⟩ = some (.int .i64 (L : Int)) ∧ W.cell? ⟨B, 3, none⟩ = some (.int .u64 G) ∧ W.cell? ⟨g, i, none⟩ = some (.pointer (some ⟨p, 0, none⟩)) ∧ W.cell? ⟨K, 0, none⟩ = some (.int .i64 dd) ∧ W.cell? ⟨K, 1, none⟩ = some (.int .u64 sq) ∧ Below w9.heap.size w9 W) W :=
  ⟨cell_later hb hp.1, cell_later hb hp.2.1, cell_later hb hp.2.2.1, cell_later hb hp.2.2.2, cell_later hb h1, cell_later hb h2, cell_later hb h3, hb⟩
theorem stay_keep {w9 W W' : World} {B g i p K T S L : Nat} {G dd sq : Int} (hb : Below W.heap.size W W') (h : W.cell? ⟨B, 0, none⟩ = some (.int .i64 (T : Int)) ∧ W.cell? ⟨B, 1, none⟩ = some (.int .i64 (S : Int)) ∧ W.cell? ⟨B, 2, none⟩ = some (.int .i64 (L : Int)) ∧ W.cell? ⟨B, 3, none⟩ = some (.int .u64 G) ∧ W.cell? ⟨g, i, none⟩ = some (.pointer (some ⟨p, 0, none⟩)) ∧ W.cell? ⟨K, 0, none⟩ = some (.int .i64 dd) ∧ W.cell? ⟨K, 1, none⟩ = some (.int .u64 sq) ∧ Below w9.heap.size w9 W) : (fun W : World => W.cell? ⟨B, 0, none⟩ = some (.int .i64 (T : Int)) ∧ W.cell? ⟨B, 1, none⟩ = some (.int .i64 (S : Int)) ∧ W.cell? ⟨B, 2, none⟩ = some (.int .i64 (L : Int)) ∧ W.cell? ⟨B, 3, none⟩ = some (.int .u64 G) ∧ W.cell? ⟨g, i, none⟩ = some (.pointer (some ⟨p, 0, none⟩)) ∧ W.cell? ⟨K, 0, none⟩ = some (.int .i64 dd) ∧ W.cell? ⟨K, 1, none⟩ = some (.int .u64 sq) ∧ Below w9.heap.size w9 W) W' :=
  ⟨cell_later hb h.1, cell_later hb h.2.1, cell_later hb h.2.2.1, cell_later hb h.2.2.2.1, cell_later hb h.2.2.2.2.1, cell_later hb h.2.2.2.2.2.1, cell_later hb h.2.2.2.2.2.2.1, h.2.2.2.2.2.2.2.trans (hb.mono h.2.2.2.2.2.2.2.size)⟩
theorem two_start {w9 W : World} {g j q K : Nat} {sq : Int} (hb : Below w9.heap.size w9 W) (h1 : w9.cell? ⟨K, 1, none⟩ = some (.int .u64 sq)) (h2 : w9.cell? ⟨g, j, none⟩ = some (.pointer (some ⟨q, 0, none⟩))) : (fun W : World => W.cell? ⟨K, 1, none⟩ = some (.int .u64 sq) ∧ W.cell? ⟨g, j, none⟩ = some (.pointer (some ⟨q, 0, none⟩)) ∧ Below w9.heap.size w9 W) W :=
  ⟨cell_later hb h1, cell_later hb h2, hb⟩
theorem two_keep {w9 W W' : World} {g j q K : Nat} {sq : Int} (hb : Below W.heap.size W W') (h : W.cell? ⟨K, 1, none⟩ = some (.int .u64 sq) ∧ W.cell? ⟨g, j, none⟩ = some (.pointer (some ⟨q, 0, none⟩)) ∧ Below w9.heap.size w9 W) : (fun W : World => W.cell? ⟨K, 1, none⟩ = some (.int .u64 sq) ∧ W.cell? ⟨g, j, none⟩ = some (.pointer (some ⟨q, 0, none⟩)) ∧ Below w9.heap.size w9 W) W' :=
  ⟨cell_later hb h.1, cell_later hb h.2.1, h.2.2.trans (hb.mono h.2.2.size)⟩
/-- Amid the steps: of k picks. -/
def Steps (w2 : World) (pc h nw T S L : Nat) (G : Int) (ps : List Nat) (k : Nat) (wr : World) : Prop :=
  ∃ l ss, Mem wr pc h nw l ∧ All wr T L ps ss ∧ Inv T S L G k l ss ∧ Only (fun b => b = h ∨ b ∈ ps) w2 wr
theorem ptr_at {w : World} {base g cap n : Nat} {e : TypeId} {ps : List Nat} (h : w.ownsRow base e 1 (.slice (some ⟨g, 0, none⟩) n cap) n (ps.map ptrV)) {j p : Nat} (hp : ps[j]? = some p) (hj : j < n) : w.cell? ⟨g, j, none⟩ = some (.pointer (some ⟨p, 0, none⟩)) := by
  rw [h.cellAt _ (by omega), List.getElem?_map, hp]
  rfl
set_option maxHeartbeats 4000000 in
theorem walk_yes (T S L : Nat) (G : Int) (hr : rightB (T : Int) (S : Int) (L : Int) G = true) (hG : 0 ≤ G) (A : Option Addr) (xs : List Int) (c : Nat) (hl : xs.length ≤ 300) (w : World) (hR : Row w w.heap.size A (flat (encZ .i64) xs)) : Calls Tryd.prog 4 #[.agg #[.int .i64 (T : Int), .int .i64 (S : Int), .int .i64 (L : Int), .int .u64 G], .slice A xs.length c] w fun e w' => e = .returned (.bool true) ∧ Below w.heap.size w w' := by
  obtain ⟨t1, t8, s1, s64, l1, l8⟩ := Blank.right_nat hr
  obtain ⟨n, hn⟩ : ∃ n, n = xs.length := ⟨_, rfl⟩
  rw [← hn] at hl ⊢
  have HN := Lib.hid hn
  have HRX := Lib.hid hR
  have HR := Lib.hid hr
  have HG := Lib.hid (And.intro hG (right_is hr).2.2.2.2.2.2)
  have HPL := Lib.hid (And.intro t8 (And.intro s64 l8))
  have HB0 := Lib.hid (box_below w (.cells #[.int .i64 (T : Int), .int .i64 (S : Int), .int .i64 (L : Int), .int .u64 G] 24))
  have HC := Lib.hid (box4 w (.int .i64 (T : Int)) (.int .i64 (S : Int)) (.int .i64 (L : Int)) (.int .u64 G) 24)
  obtain ⟨i0, hi, hz0, hz1, hz2⟩ := info_parts info_ptr
  obtain ⟨c_0, c_1, c_2, c_3⟩ := HC.out
  clear hr hG hn hR t1 t8 l1 l8
  go_enter Tryd.func4, Tryd.ntmps4
  go_wp2_with fail
  refine (Blank.Make_yes HR.out HG.out.1 _).mono ?_
  rintro e w1 ⟨pc, h, rfl, m1, p1, h1, b1⟩
  obtain ⟨nw, hnw⟩ : ∃ nw, nw = wordsN T S L := ⟨_, rfl⟩
  rw [← hnw] at m1
  have HNE := Lib.hid (show w.heap.size < pc ∧ w.heap.size < h by simp at p1 h1; omega)
  have HB1 := Lib.hid (HB0.out.trans (b1.mono HB0.out.size))
  have HC1 := Lib.hid (plan4 HC.out (only_below (fun _ => False) b1) id)
  have HM1 := Lib.hid m1
  have HNW := Lib.hid hnw
  have H1 := Lib.hid (show Lays w1 T S L (.slice none 0 0) 0 w1 from ⟨[], rfl, World.ownsRow_nil _ _ _ _, all_nil _ _ _, by simp, Below.refl _ _⟩)
  clear m1 p1 h1 b1 c_0 c_1 c_2 c_3 hnw
  obtain ⟨c_0, c_1, c_2, c_3⟩ := HC1.out
  go_wp2
  clear c_0 c_1 c_2 c_3
  go_loopw [7, 8] (fun v iv wr => ∃ k : Nat, k ≤ S ∧ iv = .int .i64 ((k : Int) + 1) ∧ Lays w1 T S L v k wr) (fun v iv _ => 65 - (intOf iv).toNat)
  case atStart => exact ⟨0, Nat.zero_le _, rfl, H1.out⟩
  case round =>
    obtain ⟨k, hk, rfl, ps, hkl, ho, ha, hps, hb⟩ := hrel
    have HA := Lib.hid ha
    have HPS := Lib.hid hps
    have HBK := Lib.hid hb
    have HO := Lib.hid ho
    have HKL := Lib.hid hkl
    obtain ⟨A', c', rfl, hc'⟩ := slice_of_own ho
    obtain ⟨c_0, c_1, c_2, c_3⟩ := plan4 HC1.out (only_below (fun _ => False) hb) id
    clear ho ha hps hb hkl
    by_cases hlt : k < S
    · have hk2 : (k : Int) + 1 ≤ (S : Int) := by omega
      go_wp2_with fail
      refine (Mint_any (T : Int) (S : Int) (L : Int) G ((k : Int) + 1) (10 * ((k : Int) + 1)) 1 _).mono ?_
      rintro e w2 ⟨p, rfl, p2, hp2, b2⟩
      have HP2 := Lib.hid p2
      have HPB := Lib.hid hp2
      have HB2 := Lib.hid b2
      clear p2 hp2 b2 c_0 c_1 c_2 c_3
      go_wp2_with (at_builtin; refine wpList_append_only _ rfl (.tmp 39) (.tmp 45) 52 rfl w1.heap.size 28 i0 _ 1 8 Tryd.underlying52 hi hz0 hz1 hz2 rfl (by decide) _ k _ rfl ((own_later HO.out HB2.out).alloc _) ⟨w2.heap.size, 0, none⟩ 1 1 [ptrV p] rfl (by decide) rfl (cells_new _ _ _) (ptr_one p) (by simp only [maxLen]; omega) (by omega) (by have h1 := HBK.out.size; have h2 := HB2.out.size; simp; omega) ?_; intro g2 cap w3 ho3 hg3 hlt3 hor3 hon3; have HO3 := Lib.hid ho3; have HG3 := Lib.hid hor3; have HN3 := Lib.hid hon3; clear ho3 hg3 hlt3 hor3 hon3)
      have H3 := Lib.hid (show Lays w1 T S L (.slice (some ⟨g2, 0, none⟩) (k + 1) cap) (k + 1) w3 from by
        have hz := HBK.out.size
        have hz2 := HB2.out.size
        have hol := fun q e => (HO.out.lt q e)
        have hpn : p ∉ ps := fun q => by have := HA.out.lt q; have := HPB.out; omega
        have hon := HN3.out
        have hpz := HP2.out.lt
        have ha3 : All (w2.alloc (.cells #[ptrV p] 28)) T L (ps ++ [p]) (List.replicate k ⟨0, 0, 0, 0⟩ ++ [⟨0, 0, 0, 0⟩]) := by
          refine ((HA.out.later HB2.out).snoc hpn ?_).later (box_below _ _)
          rw [← HKL.out]
          exact HP2.out
        have ha4 := ha3.only hon (fun q hq e => by
          rw [List.mem_append] at hq
          rcases hq with hq | hq
          · exact (HPS.out q hq).2 q e rfl
          · simp at hq
            subst hq
            have := (hol _ e).2
            have := HPB.out
            omega)
        rw [← List.replicate_succ'] at ha4
        refine ⟨ps ++ [p], by rw [List.length_append, ← HKL.out]; rfl, by rw [List.map_append]; exact HO3.out, ha4, ?_, (HBK.out.trans (((HB2.out.trans ((box_below w2 _).mono hz2)).mono hz).trans (hon.below (by simp; omega) fun q e => (hol q e).1)))⟩
        · intro q hq
          rw [List.mem_append] at hq
          have hqz : w1.heap.size ≤ q ∧ q < w2.heap.size ∧ ¬ (Value.slice A' k c').ownBlock = some q := by
            rcases hq with hq | hq
            · exact ⟨(HPS.out q hq).1, Nat.lt_of_lt_of_le (HA.out.lt hq) hz2, fun e => (HPS.out q hq).2 q e rfl⟩
            · simp at hq
              subst hq
              exact ⟨by have := HPB.out; omega, hpz, fun e => by have := (hol _ e).2; have := HPB.out; omega⟩
          refine ⟨hqz.1, fun g e => ?_⟩
          cases e
          rintro rfl
          rcases HG3.out with e | e
          · exact hqz.2.2 e
          · simp at e; omega)
      go_roundw
      case rel => exact ⟨k + 1, by omega, by go_num, H3.out⟩
      case measure => simp [intOf]; omega
    · obtain rfl : S = k := by omega
      obtain ⟨g, cap, hv, hg, hgl⟩ := HO.out.form (by omega)
      injection hv with e1 e2 e3
      subst e1 e3
      clear e2 hc'
      have HGP := Lib.hid (show ∀ p ∈ ps, w1.heap.size ≤ p ∧ p ≠ g ∧ p < wr.heap.size from fun p q => ⟨(HPS.out p q).1, (HPS.out p q).2 g rfl, HA.out.lt q⟩)
      have HGG := Lib.hid (And.intro hg hgl)
      have HPC := Lib.hid (show pc < w1.heap.size ∧ h < w1.heap.size from HM1.out.lt)
      have HGN := Lib.hid (show ¬ (g = h ∨ g ∈ ps) from fun e => e.elim (fun e => by have h1 := HGG.out.1; have h2 := HPC.out.2; omega) (fun e => (HGP.out _ e).2.1 rfl))
      have HWZ := Lib.hid (show w1.heap.size ≤ wr.heap.size from HBK.out.size)
      have H2 := Lib.hid (show Steps wr pc h nw T S L G ps 0 wr from ⟨_, _, HM1.out.later HBK.out, HA.out, by rw [HNW.out]; exact Inv.start HPL.out.1 HPL.out.2.1 HPL.out.2.2, Only.refl _ _⟩)
      have HBR := Lib.hid (HB1.out.trans (HBK.out.mono HB1.out.size))
      have HCR := Lib.hid (plan4 HC1.out (only_below (fun _ => False) HBK.out) id)
      have HBZ := Lib.hid (show w.heap.size ≤ w1.heap.size from HB1.out.size)
      clear c_0 c_1 c_2 c_3 hg hgl
      have hkk : ¬ ((S : Int) + 1 ≤ (S : Int)) := by omega
      obtain ⟨c_0, c_1, c_2, c_3⟩ := HCR.out
      go_wp2
      clear c_0 c_1 c_2 c_3
      generalize wr = w3 at HGP HGG H2 HBR HCR HO HWZ ⊢
      go_loopw [9] (fun iv wr => ∃ k : Nat, k ≤ n ∧ iv = .int .i64 k ∧ Steps w3 pc h nw T S L G ps k wr) (fun iv _ => n - (intOf iv).toNat)
      case atStart => exact ⟨0, Nat.zero_le _, rfl, H2.out⟩
      case round =>
        obtain ⟨k, hk, rfl, l, ss, hm, ha, hv, ho⟩ := hrel
        have HMK := Lib.hid hm
        have HAK := Lib.hid ha
        have HVK := Lib.hid hv
        have HOK := Lib.hid ho
        have HBW := Lib.hid (show Below w.heap.size w wr from HBR.out.trans (ho.below HBR.out.size (fun q e => by
          rcases e with rfl | e
          · exact Nat.le_of_lt HNE.out.2
          · have := (HGP.out q e).1; have := HBZ.out; omega)))
        clear hm ha hv ho
        by_cases hlt : k < n
        · obtain ⟨x, hx⟩ : ∃ x, xs[k]? = some x := ⟨_, List.getElem?_eq_getElem (by have := HN.out; omega)⟩
          obtain ⟨b, o, rfl, _, hc⟩ := int_at (HRX.out.later HBW.out) (show k < xs.length by have := HN.out; omega)
          have c_x := hc k x hx
          clear hc hx
          obtain ⟨m, hmS, hpick⟩ := pick x s1 s64
          obtain ⟨p, hp⟩ : ∃ p, ps[m]? = some p := ⟨_, List.getElem?_eq_getElem (by have := HKL.out; omega)⟩
          obtain ⟨s, hs⟩ : ∃ s, ss[m]? = some s := ⟨_, List.getElem?_eq_getElem (by have := HVK.out.many; omega)⟩
          have c_p := ptr_at (HOK.out.own HO.out (fun q e => by cases e; exact HGN.out)) hp hmS
          have HPM := Lib.hid hp
          have HSM := Lib.hid hs
          have HMAK := Lib.hid (HAK.out.2.2 m p s hp hs)
          have HNX := Lib.hid (Make_next HMAK.out)
          have hmi : (m : Int) < (S : Int) := by omega
          have HPP := Lib.hid (HGP.out p (List.mem_of_getElem? hp))
          clear hp hs
          cases hx : minA (T : Int) (L : Int) ((m : Int) + 1) (IntKind.u64.wrap (dlN m)) (IntKind.u64.wrap 1) s with
          | none =>
            rw [hx] at HNX
            clear hx
            go_wp2_with fail
            refine HNX.out.mono ?_
            rintro e w4 ⟨rfl, b4⟩
            simp only [Option.getD_none, Option.isSome_none]
            have HB4 := Lib.hid (b4.trans ((box_below w4 (.cells #[.int .i64 0, .int .i64 0, .int .u64 0, .int .u64 0, .int .u64 0] 32)).mono b4.size))
            have H4 := Lib.hid (show Steps w3 pc h nw T S L G ps (k + 1) (w4.alloc (.cells #[.int .i64 0, .int .i64 0, .int .u64 0, .int .u64 0, .int .u64 0] 32)) from ⟨l, ss, HMK.out.later HB4.out, HAK.out.later HB4.out, HVK.out.idle, HOK.out.then_below HB4.out⟩)
            clear b4
            go_wp2
            go_roundw
            case rel => exact ⟨k + 1, by omega, by go_num, H4.out⟩
            case measure => simp [intOf]; omega
          | some d =>
            have HX := Lib.hid hx
            have HDF := Lib.hid (minA_fits HMAK.out.2 (show Word (IntKind.u64.wrap (dlN m)) by rw [IntKind.wrap_u64]; unfold Word; omega) (show Word (IntKind.u64.wrap 1) by rw [IntKind.wrap_u64]; unfold Word; omega) hx)
            have HVV := Lib.hid (HVK.out.step HPL.out.1 HPL.out.2.1 HPL.out.2.2 HG.out (by omega) (show Word (IntKind.u64.wrap (dlN m)) by rw [IntKind.wrap_u64]; unfold Word; omega) (show Word (IntKind.u64.wrap 1) by rw [IntKind.wrap_u64]; unfold Word; omega) HSM.out hx)
            rw [hx] at HNX
            clear hx
            go_wp2_with fail
            refine HNX.out.mono ?_
            rintro e w4 ⟨rfl, b4⟩
            simp only [Option.getD_some, Option.isSome_some]
            have HB4 := Lib.hid (b4.trans ((box_below w4 (.cells #[.int .i64 d.1, .int .i64 d.2.1, .int .u64 d.2.2.1, .int .u64 d.2.2.2.1, .int .u64 d.2.2.2.2] 32)).mono b4.size))
            have HM4 := Lib.hid (HMK.out.later HB4.out)
            have HA4 := Lib.hid (HAK.out.later HB4.out)
            have HO4 := Lib.hid (HOK.out.then_below HB4.out)
            clear b4
            go_wp2_with fail
            refine (DeedDo.Do_any HM4.out d).mono ?_
            rintro e w5 ⟨rfl, g5, m5⟩
            have HM5 := Lib.hid m5
            have hg5 := only_grown (R := fun k => k = h) g5 fun k e => by cases e; rfl
            have HA5 := Lib.hid (HA4.out.only hg5 (fun q e r => by have h1 := (HGP.out q e).1; have h2 := HPC.out; omega))
            have HO5 := Lib.hid (HO4.out.trans (hg5.wide fun k e => .inl (.inl e)))
            have HMA5 := Lib.hid (HA5.out.2.2 m p s HPM.out HSM.out)
            clear g5 m5 hg5
            go_wp2_with fail
            refine (Make_tell HMA5.out (fits_found HVK.out.fits d)).mono ?_
            rintro e w6 ⟨rfl, p6, o6⟩
            have H6 := Lib.hid (show Steps w3 pc h nw T S L G ps (k + 1) w6 from ⟨_, _, ⟨HM5.out.1, HM5.out.2.1, HM5.out.2.2.1, o6.cell HM5.out.box (show ¬ pc = p by have := HPP.out; have := HPC.out; omega), o6.own HM5.out.own (fun k e => by cases e; show ¬ h = p; have := HPP.out; have := HPC.out; omega)⟩, HA5.out.set HPM.out o6 p6, HVV.out, HO5.out.trans (o6.wide fun k e => .inl (.inr (e ▸ List.mem_of_getElem? HPM.out)))⟩)
            clear p6 o6
            go_wp2
            go_roundw
            case rel => exact ⟨k + 1, by omega, by go_num, H6.out⟩
            case measure => simp [intOf]; omega
        · have HO2 := Lib.hid (HOK.out.own HO.out (fun q e => by cases e; exact HGN.out))
          have HC4 := Lib.hid (plan4 HCR.out HOK.out (fun e => by
            rcases e with e | e
            · have := HNE.out; omega
            · have h1 := (HGP.out _ e).1; have h2 := HNE.out; have h3 := HPC.out; omega))
          clear hk
          go_wp2
          generalize wr = w4 at HMK HAK HBW HO2 HC4 ⊢
          go_loopw [13] (fun iv wr => ∃ i : Nat, i ≤ S ∧ iv = .int .i64 i ∧ Below w4.heap.size w4 wr) (fun iv _ => S - (intOf iv).toNat)
          case atStart => exact ⟨0, Nat.zero_le _, rfl, Below.refl _ _⟩
          case round =>
            obtain ⟨i, hi2, rfl, hb⟩ := hrel
            have HBI := Lib.hid hb
            clear hb
            by_cases hlt2 : i < S
            · have hii : (i : Int) < (S : Int) := by omega
              obtain ⟨p, hp⟩ : ∃ p, ps[i]? = some p := ⟨_, List.getElem?_eq_getElem (by have := HKL.out; omega)⟩
              obtain ⟨s, hs⟩ : ∃ s, ss[i]? = some s := ⟨_, List.getElem?_eq_getElem (by have := HVK.out.many; omega)⟩
              have HCP := Lib.hid (ptr_at HO2.out hp hlt2)
              have c_p := cell_later HBI.out HCP.out
              have HPM := Lib.hid hp
              have HSM := Lib.hid hs
              have HMAK := Lib.hid (HAK.out.2.2 i p s hp hs)
              have HNX := Lib.hid (Make_next (HMAK.out.only (only_below (fun _ => False) HBI.out) id))
              have HMORE := Lib.hid (minA_more (T := (T : Int)) (L := (L : Int)) (i := (i : Int) + 1) (dw := IntKind.u64.wrap (dlN i)) (tw := IntKind.u64.wrap 1) HMAK.out.2)
              clear hp hs
              by_cases h7 : s.k < 7
              · unfold Mint.Told at HNX
                rw [HMORE.out, decide_eq_true h7] at HNX
                generalize (minA (T : Int) (L : Int) ((i : Int) + 1) (IntKind.u64.wrap (dlN i)) (IntKind.u64.wrap 1) s).getD (0, 0, 0, 0, 0) = d at HNX
                go_wp2_with fail
                refine HNX.out.mono ?_
                rintro e w5 ⟨rfl, b5⟩
                have HB5 := Lib.hid (HBI.out.trans ((b5.trans ((box_below w5 (.cells #[.int .i64 d.1, .int .i64 d.2.1, .int .u64 d.2.2.1, .int .u64 d.2.2.2.1, .int .u64 d.2.2.2.2] 32)).mono b5.size)).mono HBI.out.size))
                clear b5
                go_wp2
                go_roundw
                case rel => exact ⟨i + 1, by omega, by go_num, HB5.out⟩
                case measure => simp [intOf]; omega
              · have HS7 := Lib.hid (show s.k = 7 by have := HMAK.out.2.1; omega)
                unfold Mint.Told at HNX
                rw [HMORE.out, decide_eq_false h7, minA_none HS7.out] at HNX
                go_wp2_with fail
                refine HNX.out.mono ?_
                rintro e w5 ⟨rfl, b5⟩
                simp only [Option.getD_none]
                have HB5 := Lib.hid (HBI.out.trans ((b5.trans ((box_below w5 (.cells #[.int .i64 0, .int .i64 0, .int .u64 0, .int .u64 0, .int .u64 0] 32)).mono b5.size)).mono HBI.out.size))
                have c_p2 := cell_later HB5.out HCP.out
                obtain ⟨m1, m2, m3, m4, m5⟩ := HVK.out.made HG.out HSM.out HS7.out (dlN i)
                have HKY := Lib.hid (Key_any (HMAK.out.only (only_below (fun _ => False) HB5.out) id))
                rw [m2, show dlN i = 10 * (i : Int) + 10 by unfold dlN; omega] at HKY
                have HRF := Lib.hid (show ∀ W, Below w4.heap.size w4 W → Calls Tryd.prog 11 #[.pointer (some ⟨p, 0, none⟩)] W (fun e w' => e = .returned (.int .u64 (RM.ofI G ((i : Int) + 1))) ∧ W = w') from fun W hb => m1 ▸ Ref_any (HMAK.out.only (only_below (fun _ => False) hb) id))
                have hw0 : IntKind.i64.wrap ((i : Int) + 1) = (i : Int) + 1 := by rw [IntKind.wrap_i64]; omega
                have HOF := Lib.hid (fun W : World => (show Calls Tryd.prog 15 #[.int .u64 G, .int .i64 (IntKind.i64.wrap ((i : Int) + 1))] W (fun e w' => e = .returned (.int .u64 (RM.ofI G ((i : Int) + 1))) ∧ W = w') from by rw [hw0]; exact Refer.Of_any G ((i : Int) + 1) HG.out.1 W))
                have HP0 := Lib.hid (fun W : World => And.intro (show Calls Tryd.prog 18 #[.agg #[.int .i64 (T : Int), .int .i64 (S : Int), .int .i64 (L : Int), .int .u64 G], .int .i64 (IntKind.i64.wrap ((i : Int) + 1))] W (fun e w' => e = .returned (.int .i64 (atI (T : Int) (L : Int) ((i : Int) + 1) 0)) ∧ Below W.heap.size W w') from by rw [hw0]; exact Plan.State_any (T : Int) (S : Int) (L : Int) G ((i : Int) + 1) W) (And.intro (show Calls Tryd.prog 19 #[.agg #[.int .i64 (T : Int), .int .i64 (S : Int), .int .i64 (L : Int), .int .u64 G], .int .i64 (IntKind.i64.wrap ((i : Int) + 1))] W (fun e w' => e = .returned (.int .i64 (atI (T : Int) (L : Int) ((i : Int) + 1) 2)) ∧ Below W.heap.size W w') from by rw [hw0]; exact Plan.Seq_any (T : Int) (S : Int) (L : Int) G ((i : Int) + 1) W) (show Calls Tryd.prog 20 #[.agg #[.int .i64 (T : Int), .int .i64 (S : Int), .int .i64 (L : Int), .int .u64 G], .int .i64 (IntKind.i64.wrap ((i : Int) + 1))] W (fun e w' => e = .returned (.int .i64 (atI (T : Int) (L : Int) ((i : Int) + 1) 4)) ∧ Below W.heap.size W w') from by rw [hw0]; exact Plan.Hold_any (T : Int) (S : Int) (L : Int) G ((i : Int) + 1) W)))
                clear hw0
                have HL0 := Lib.hid (fun W (hb : Below w4.heap.size w4 W) => Load_any (HMK.out.later hb) (atI (T : Int) (L : Int) ((i : Int) + 1) 0))
                have HL2 := Lib.hid (fun W (hb : Below w4.heap.size w4 W) => Load_any (HMK.out.later hb) (atI (T : Int) (L : Int) ((i : Int) + 1) 2))
                have HL4 := Lib.hid (fun W (hb : Below w4.heap.size w4 W) => Load_any (HMK.out.later hb) (atI (T : Int) (L : Int) ((i : Int) + 1) 4))
                rw [m4] at HL2
                rw [m5] at HL4
                have HIS := Lib.hid (fun W : World => State.Is_any (getI l (atI (T : Int) (L : Int) ((i : Int) + 1) 0)) G 1 HG.out.1 W)
                rw [m3] at HIS
                clear m1 m2 m3 m4 m5
                generalize getI l (atI (T : Int) (L : Int) ((i : Int) + 1) 0) = v0 at HL0 HIS
                generalize atI (T : Int) (L : Int) ((i : Int) + 1) 0 = a0 at HL0 HP0
                generalize atI (T : Int) (L : Int) ((i : Int) + 1) 2 = a2 at HL2 HP0
                generalize atI (T : Int) (L : Int) ((i : Int) + 1) 4 = a4 at HL4 HP0
                generalize RM.ofI G ((i : Int) + 1) = r at HRF HOF
                obtain ⟨sq, hsq⟩ : ∃ sq, sq = s.sq := ⟨_, rfl⟩
                rw [← hsq] at HKY HL2
                have HSQ := Lib.hid hsq
                clear hsq
                go_wp2_with fail
                refine HKY.out.mono ?_
                rintro e w6 ⟨rfl, b6⟩
                have HB6 := Lib.hid (HB5.out.trans ((b6.trans ((box_below w6 (.cells #[.int .i64 (10 * (i : Int) + 10), .int .u64 sq] 40)).mono b6.size)).mono HB5.out.size))
                clear b6
                have hkb := new_heap w6 (.cells #[.int .i64 (10 * (i : Int) + 10), .int .u64 sq] 40)
                have HK0 := Lib.hid (And.intro (cell_heap hkb 0).1 (cell_heap hkb 1).1)
                clear hkb
                go_wp2_with fail
                generalize w6.alloc (.cells #[.int .i64 (10 * (i : Int) + 10), .int .u64 sq] 40) = w9 at HB6 HK0 ⊢
                have HST := Lib.hid (stay_start (i := i) (p := p) (g := g) (Below.refl w9.heap.size w9).drew (plan4 HC4.out (only_below (fun _ => False) HB6.out) id) (cell_later HB6.out HCP.out) HK0.out.1 HK0.out.2)
                have HB49 := Lib.hid (show ∀ W, Below w9.heap.size w9 W → Below w4.heap.size w4 W from fun W hb => HB6.out.trans (hb.mono HB6.out.size))
                have hrr : (r != r) = false := by simp
                have hss : (sq != sq) = false := by simp
                have hdd : (10 * (i : Int) + 10 != IntKind.i64.wrap (IntKind.i64.wrap (10 * (i : Int)) + 10)) = false := by
                  rw [IntKind.wrap_i64, IntKind.wrap_i64]
                  simp
                  omega
                go_region_held3 (fun W => W.cell? ⟨w.heap.size, 0, none⟩ = some (.int .i64 (T : Int)) ∧ W.cell? ⟨w.heap.size, 1, none⟩ = some (.int .i64 (S : Int)) ∧ W.cell? ⟨w.heap.size, 2, none⟩ = some (.int .i64 (L : Int)) ∧ W.cell? ⟨w.heap.size, 3, none⟩ = some (.int .u64 G) ∧ W.cell? ⟨g, i, none⟩ = some (.pointer (some ⟨p, 0, none⟩)) ∧ W.cell? ⟨w6.heap.size, 0, none⟩ = some (.int .i64 (10 * (i : Int) + 10)) ∧ W.cell? ⟨w6.heap.size, 1, none⟩ = some (.int .u64 sq) ∧ Below w9.heap.size w9 W)
                  ((first | (with_reducible exact HST.out) | (with_reducible assumption) | (with_reducible exact HS3.out)))
                  (first
                    | (go_at_call 11; refine (HRF.out _ (HB49.out _ (Below.refl w9.heap.size w9).drew)).mono ?_; rintro e w7 ⟨rfl, rfl⟩; have HS3 := Lib.hid HST.out)
                    | (go_at_call 15; refine (HOF.out _).mono ?_; rintro e w7 ⟨rfl, rfl⟩)
                    | (go_at_call 18; refine ((HP0.out _).1).mono ?_; rintro e w7 ⟨rfl, hb⟩; have HS3 := Lib.hid (stay_keep hb HS3.out); clear hb)
                    | (go_at_call 19; refine ((HP0.out _).2.1).mono ?_; rintro e w7 ⟨rfl, hb⟩; have HS3 := Lib.hid (stay_keep hb HS3.out); clear hb)
                    | (go_at_call 20; refine ((HP0.out _).2.2).mono ?_; rintro e w7 ⟨rfl, hb⟩; have HS3 := Lib.hid (stay_keep hb HS3.out); clear hb)
                    | (go_at_call 16; refine (HIS.out _).mono ?_; rintro e w7 ⟨rfl, rfl⟩)
                    | (go_at_call 17; (with_reducible refine (HL0.out _ (HB49.out _ HS3.out.2.2.2.2.2.2.2)).mono ?_); rintro e w7 ⟨rfl, rfl⟩)
                    | (go_at_call 17; (with_reducible refine (HL2.out _ (HB49.out _ HS3.out.2.2.2.2.2.2.2)).mono ?_); rintro e w7 ⟨rfl, rfl⟩)
                    | (go_at_call 17; (with_reducible refine (HL4.out _ (HB49.out _ HS3.out.2.2.2.2.2.2.2)).mono ?_); rintro e w7 ⟨rfl, rfl⟩))
                have HB7 := Lib.hid (HB49.out _ HS3.out.2.2.2.2.2.2.2)
                have HK7 := Lib.hid HS3.out.2.2.2.2.2.2.1
                clear HS3 HST HB49 HK0 HRF HOF HP0 HL0 HL2 HL4 HIS hdd hrr c_p c_p2
                go_wp2
                generalize w7 = w8 at HB7 HK7 ⊢
                go_loopw [17] (fun iv wr => ∃ j : Nat, j ≤ i ∧ iv = .int .i64 j ∧ Below w8.heap.size w8 wr) (fun iv _ => i - (intOf iv).toNat)
                case atStart => exact ⟨0, Nat.zero_le _, rfl, Below.refl _ _⟩
                case round =>
                  obtain ⟨j, hj2, rfl, hb⟩ := hrel
                  have HBJ := Lib.hid hb
                  have HBJ4 := Lib.hid (show Below w4.heap.size w4 wr from HB7.out.trans (hb.mono HB7.out.size))
                  clear hb
                  by_cases hlt3 : j < i
                  · have hji : (j : Int) < (i : Int) := by omega
                    have hjS : (j : Int) < (S : Int) := by omega
                    obtain ⟨q, hq⟩ : ∃ q, ps[j]? = some q := ⟨_, List.getElem?_eq_getElem (by have := HKL.out; omega)⟩
                    obtain ⟨t, ht⟩ : ∃ t, ss[j]? = some t := ⟨_, List.getElem?_eq_getElem (by have := HVK.out.many; omega)⟩
                    have HCQ := Lib.hid (ptr_at HO2.out hq (show j < S by omega))
                    have c_q := cell_later HBJ4.out HCQ.out
                    have HMAQ := Lib.hid (HAK.out.2.2 j q t hq ht)
                    have HNQ := Lib.hid (Make_next (HMAQ.out.only (only_below (fun _ => False) HBJ4.out) id))
                    have HMOQ := Lib.hid (minA_more (T := (T : Int)) (L := (L : Int)) (i := (j : Int) + 1) (dw := IntKind.u64.wrap (dlN j)) (tw := IntKind.u64.wrap 1) HMAQ.out.2)
                    have HTM := Lib.hid ht
                    clear hq ht
                    by_cases h7q : t.k < 7
                    · unfold Mint.Told at HNQ
                      rw [HMOQ.out, decide_eq_true h7q] at HNQ
                      generalize (minA (T : Int) (L : Int) ((j : Int) + 1) (IntKind.u64.wrap (dlN j)) (IntKind.u64.wrap 1) t).getD (0, 0, 0, 0, 0) = d at HNQ
                      go_wp2_with fail
                      refine HNQ.out.mono ?_
                      rintro e w10 ⟨rfl, b5⟩
                      have HB10 := Lib.hid (HBJ.out.trans ((b5.trans ((box_below w10 (.cells #[.int .i64 d.1, .int .i64 d.2.1, .int .u64 d.2.2.1, .int .u64 d.2.2.2.1, .int .u64 d.2.2.2.2] 32)).mono b5.size)).mono HBJ.out.size))
                      clear b5 c_q
                      go_wp2
                      refine wp_region_after mixed (by kernel_rfl) ?_
                      repeat (first | go_big_quiet_step (fail) | quiet_step (fail))
                      refine wpQuiet_nil ?_
                      intro _ hw'
                      obtain ⟨pq, hw''⟩ := hw'
                      subst hw''
                      have HB11 := Lib.hid (HB10.out.trans (pq.ok.mono HB10.out.size))
                      generalize pq.x = w11 at HB11 ⊢
                      go_wp2
                      go_roundw
                      case rel => exact ⟨j + 1, by omega, by go_num, HB11.out⟩
                      case measure => simp [intOf]; omega
                    · have HT7 := Lib.hid (show t.k = 7 by have := HMAQ.out.2.1; omega)
                      unfold Mint.Told at HNQ
                      rw [HMOQ.out, decide_eq_false h7q, minA_none HT7.out] at HNQ
                      go_wp2_with fail
                      refine HNQ.out.mono ?_
                      rintro e w10 ⟨rfl, b5⟩
                      simp only [Option.getD_none]
                      have HB10 := Lib.hid (HBJ.out.trans ((b5.trans ((box_below w10 (.cells #[.int .i64 0, .int .i64 0, .int .u64 0, .int .u64 0, .int .u64 0] 32)).mono b5.size)).mono HBJ.out.size))
                      clear b5 c_q
                      have HKQ := Lib.hid (fun W (hb : Below w4.heap.size w4 W) => Key_any (HMAQ.out.only (only_below (fun _ => False) hb) id))
                      have hne : ¬ t.sq = sq := by
                        rw [HSQ.out]
                        exact HVK.out.apart j i t s HTM.out HSM.out (by omega) (by rw [HT7.out]; omega) (by rw [HS7.out]; omega)
                      have hky : keyI (dlN j) t = (dlN j, t.sq) := if_pos HT7.out
                      rw [hky] at HKQ
                      clear hky
                      generalize t.sq = tq at HKQ hne
                      generalize dlN j = tl at HKQ
                      have hqq : (tq == sq) = false := by simpa using hne
                      have hfd : ∀ W : World, (Instr.field 40 (.agg #[.int .i64 tl, .int .u64 tq]) 1).run Tryd.prog W = .ok (.int .u64 tq) W := fun _ => by kernel_rfl
                      have HK10 := Lib.hid (cell_later HB10.out HK7.out)
                      have HC10 := Lib.hid (cell_later (HB7.out.trans (HB10.out.mono HB7.out.size)) HCQ.out)
                      have HB4T := Lib.hid (HB7.out.trans (HB10.out.mono HB7.out.size))
                      go_wp2_with fail
                      generalize w10.alloc (.cells #[.int .i64 0, .int .i64 0, .int .u64 0, .int .u64 0, .int .u64 0] 32) = w11 at HB10 HK10 HC10 HB4T ⊢
                      have HST := Lib.hid (two_start (Below.refl w11.heap.size w11).drew HK10.out HC10.out)
                      go_region_held3 (fun W => W.cell? ⟨w6.heap.size, 1, none⟩ = some (.int .u64 sq) ∧ W.cell? ⟨g, j, none⟩ = some (.pointer (some ⟨q, 0, none⟩)) ∧ Below w11.heap.size w11 W)
                        ((first | (with_reducible exact HST.out) | (with_reducible assumption) | (with_reducible exact HS3.out)))
                        (first
                          | (go_at_call 12; refine (HKQ.out _ (HB4T.out.trans ((Below.refl w11.heap.size w11).drew.mono HB4T.out.size))).mono ?_; rintro e w12 ⟨rfl, hb⟩; have HS3 := Lib.hid (two_keep hb HST.out); clear hb))
                      have HB12 := Lib.hid (HB10.out.trans (HS3.out.2.2.mono HB10.out.size))
                      clear HS3 HST hfd hqq hne
                      go_wp2
                      go_roundw
                      case rel => exact ⟨j + 1, by omega, by go_num, HB12.out⟩
                      case measure => simp [intOf]; omega
                  · have hjj : ¬ (j : Int) < (i : Int) := by omega
                    clear hj2
                    go_wp2
                    go_roundw
                    case rel => exact ⟨i + 1, by omega, by go_num, HBJ4.out⟩
                    case measure => simp [intOf]; omega
            · have hiS : ¬ (i : Int) < (S : Int) := by omega
              have HBE := Lib.hid (HBW.out.trans (HBI.out.mono HBW.out.size))
              clear hi2
              go_wp2_with fail
              refine (awake_any _).mono ?_
              rintro e w5 ⟨rfl, b5⟩
              go_wp2
              go_ret
              exact ⟨rfl, HBE.out.trans (b5.mono HBE.out.size)⟩

theorem walk (x : Int × Int × Int × Int) (A : Option Addr) (l : List Int) (c : Nat) (_ : (Lit.int .i64 x.1).wf = true) (_ : (Lit.int .i64 x.2.1).wf = true) (_ : (Lit.int .i64 x.2.2.1).wf = true) (hg : (Lit.int .u64 x.2.2.2).wf = true) (w : World)
    (hR : Row w w.heap.size A (flat (encZ .i64) l)) (hl : l.length ≤ maxLen) (hw : ∀ x ∈ l, (Lit.int .i64 x).wf = true) (_ : True) :
    Calls Tryd.prog 4 #[.agg #[.int .i64 x.1, .int .i64 x.2.1, .int .i64 x.2.2.1, .int .u64 x.2.2.2], .slice A l.length c] w fun e w' => e = .returned (.bool true) ∧ Below w.heap.size w w' := by
  obtain ⟨T, S, L, G⟩ := x
  simp only at hg ⊢
  cases h : rightB T S L G
  · exact walk_no T S L G h A l.length c w
  · have hr := right_is h
    have hG := (wf_u64 hg).1
    obtain ⟨a, rfl⟩ := Int.eq_ofNat_of_zero_le (show 0 ≤ T by have := hr.1; omega)
    obtain ⟨b, rfl⟩ := Int.eq_ofNat_of_zero_le (show 0 ≤ S by have := hr.2.2.1; omega)
    obtain ⟨d, rfl⟩ := Int.eq_ofNat_of_zero_le (show 0 ≤ L by have := hr.2.2.2.2.1; omega)
    by_cases hn : l.length ≤ 300
    · exact walk_yes a b d G h hG A l c hn w hR
    · exact walk_many a b d G h hG A l.length c (by omega) (by unfold maxLen at hl; omega) w
theorem laidOut : laidOutB Tryd.prog = true := by kernel_rfl
theorem own : ownKnob Tryd.prog.godebug = none := by kernel_rfl
theorem door_met (os : Os) (args : Array Value) : laidMetH Tryd.prog Rows.mintOnceRow.laid ((World.doorLaid Tryd.prog 400 os).forCall (fun _ _ => 0) ⟨#[], args, []⟩).memory :=
  laidMetH_of_parts3 (fuel := 8) (laidMet_of_run' 8 (by kernel_rfl) (by kernel_rfl)) (by kernel_rfl) (by kernel_rfl)
set_option maxRecDepth 100000 in
theorem lifted (os : Os) (started : os.Started) (H : Type) (enc : TypeId × Value → H) :
    ReturnsInHanded {} Tryd.checked os 4 .any (fun w args => (Rows.mintOnceSpec.pre enc Tryd.prog Tryd.f4 [] false w args ∧ laidMetH Tryd.prog Rows.mintOnceRow.laid w) ∧ sizedMet enc Tryd.prog Tryd.f4 (OpenSpec.ofChange Rows.mintOnceSpec) false w args) (Rows.mintOnceSpec.post enc Tryd.prog Tryd.f4 false true false false) := by
  refine Frame.liftedLaid (C := Tryd.checked) (fn := Tryd.f4) (tb := 4) own started (by kernel_rfl) Tryd.func4
    (ChangeSpec.witness_shaped (enc := enc) (C := Tryd.checked) (os := os) (X := fun w _ => laidMetH Tryd.prog Rows.mintOnceRow.laid w) false (World.doorLaid Tryd.prog 400 os) #[.agg #[.int .i64 0, .int .i64 0, .int .i64 0, .int .u64 0], .slice none 0 0] 8 rfl (World.shaped_of_RefB (by kernel_rfl) (by kernel_rfl)) (by kernel_rfl) (by kernel_rfl) (by kernel_rfl) (door_met os _))
    rfl rfl Tryd.underlying4 laidOut (by kernel_rfl) (fun ds h => by match ds, h with | [_, _], _ => rfl) ?_
  intro W base args ds ps hval0 hA0 hlt hL
  have hval : ∀ (j : Nat) t v, Tryd.f4.params[j]? = some t → args[j]? = some v → Value.okWide Tryd.prog W .any base t v := hval0
  have hA : DataW.TrodAll enc Tryd.prog W 0 (fun _ => true) true Tryd.f4.params.toList args.toList ds ps := hA0
  rw [Tryd.params4] at hA hval
  obtain ⟨v0, vs0, d0, ds0, p0, q0, hargs, rfl, rfl, h0, r0⟩ := trodAll_cons hA
  obtain ⟨v1, vs1, d1, ds1, p1, q1, rfl, rfl, rfl, h1, r1⟩ := trodAll_cons r0
  obtain ⟨rfl, rfl, rfl⟩ := trodAll_nil r1
  obtain rfl : args = #[v0, v1] := by cases args; simp_all
  obtain ⟨x0, rfl, w0_0, w0_1, w0_2, w0_3⟩ := Open.open_four_ints Tryd.underlying24 (by kernel_rfl) (by kernel_rfl) Tryd.underlying3 Tryd.underlying3 Tryd.underlying3 Tryd.underlying22 (hval 0 24 v0 rfl rfl) h0
  obtain ⟨A1, x1, c1, rfl, b1, m1, R1, g1⟩ := Open.open_rows (k := 1) (Ints.encZ .i64) (fun x => (Lit.int .i64 x).wf = true) Tryd.underlying47 (by kernel_rfl) (by decide) (Ints.encZ_length _) (fun n cs y h hl => Ints.one_int Tryd.underlying3 n cs y h hl) (hval 1 47 v1 rfl rfl) h1
  refine (walk x0 A1 x1 c1 w0_0 w0_1 w0_2 w0_3 W R1 (Nat.le_trans b1 m1) g1 (held hL)).mono fun e W' h => ?_
  exact h

theorem over : Rows.mintOnceRow.holds Tryd.pinned (OpenSpec.ofChange Rows.mintOnceSpec) :=
  OpenClaim.holds_of_wide 4 Tryd.f4 rfl rfl rfl rfl rfl rfl rfl ⟨rfl, rfl, rfl, rfl, rfl⟩ rfl rfl rfl rfl rfl (by kernel_rfl) Tryd.func4 (by kernel_rfl)
    (of_decide_eq_true (by kernel_rfl)) (by unfold Func.isWrapper; first | (rw [if_pos (by decide +kernel)]; kernel_rfl) | (rw [if_neg (by decide +kernel)]; exact ⟨rfl, rfl⟩))
    (fun os started H enc _ => lifted os started H enc)

theorem proved : Rows.MintOnceCardSaid :=
  Claim7.holds_tied_plain_at .later [] Rows.mintOnceCard.laidKinds true Rows.mintOnceCard.stood.harness Rows.mintOnceCard.stood.looks
    over (fun _ h => by cases h) (by kernel_rfl) (fun _ h => by cases h) mintOnce_row_tie rfl ⟨rfl, rfl⟩ (by kernel_rfl) rfl
    (fun f fn hf hfn => by
      obtain rfl : f = 4 := Option.some.inj ((show Tryd.prog.funcNamed Rows.mintOnceRow.func = some 4 by kernel_rfl).symm.trans hf) |>.symm
      obtain rfl : fn = Tryd.f4 := (Option.some.inj (Tryd.func4.symm.trans hfn)).symm
      exact ⟨by kernel_rfl, fun j t ht => by
        rw [Tryd.params4] at ht
        have hm : t ∈ [24, 47] := by simpa using Array.mem_of_getElem? ht
        have hall : ([24, 47].all fun u => !Tryd.prog.wantsStandIn u) = true := by kernel_rfl
        exact (show Tryd.prog.wantsStandIn t = false by simpa using List.all_eq_true.1 hall t hm)⟩)
    (by kernel_rfl)
#print axioms proved
end Go.Proofs.YtemjbheegdpofaaDoor.MintOnce
