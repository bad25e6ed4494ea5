/- The functions of package order (layer 3) that hold keys against each other, at every key: what each call returns; what lay in memory ahead stays as it was. -/
import Derived.Test.YthbdhohbdidcnaaRows
import Derived.Test.YthbdhohbdidcnaaOpen
import Derived.Test.YthbdhohbdidcnaaOrderMath
import Derived.Shelf.SlSortCmp.QuietGrown
namespace Go.Proofs.Ythbdhohbdidcnaa.Order
open Go.ChangeShapes Go.WideShapes Go.RowKit Go.Sort OM Lay

theorem ret_i64 {a b : Int} (h : a = b) : Ending.returned (.int .i64 a) = .returned (.int .i64 b) := by rw [h]
theorem ret_bool {a b : Bool} (h : a = b) : Ending.returned (.bool a) = .returned (.bool b) := by rw [h]

theorem mixed : Try.prog.follows .mixedOrders = true := by kernel_rfl

/-- A key's two cells. -/
def encK (x : Key) : List Value := [.int .i64 x.1, .int .u64 x.2]
theorem encK_length (x : Key) : (encK x).length = 2 := rfl
theorem encK_one (x : Key) : ∀ v ∈ encK x, v.oneCell' = true := by
  intro v hv
  simp [encK] at hv
  rcases hv with rfl | rfl <;> rfl

/-- Where a slice of keys has its j-th one. -/
theorem key_at {w : World} {B : Nat} {A : Option Addr} {l : List Key} {i : Nat} (h : Row w B A (flat encK l)) (hi : i < l.length) :
    ∃ b o, A = some ⟨b, o, none⟩ ∧ b < B ∧ ∀ j x, l[j]? = some x → w.cell? ⟨b, o + j * 2, none⟩ = some (.int .i64 x.1) ∧ w.cell? ⟨b, o + j * 2 + 1, none⟩ = some (.int .u64 x.2) := by
  obtain ⟨b, o, hA, hb, hc⟩ := h.get encK_length hi (by decide)
  exact ⟨b, o, hA, hb, fun j x hx => ⟨hc j x 0 _ hx (by decide) rfl, hc j x 1 _ hx (by decide) rfl⟩⟩

/-- A row of keys of the call's own: its j-th one, and what a store of another one there leaves. -/
theorem own_key_at {w : World} {base g cap n : Nat} {e : TypeId} {l : List Key} (h : w.ownsRow base e 2 (.slice (some ⟨g, 0, none⟩) n cap) n (flat encK l)) (hn : n = l.length) {j : Nat} {x : Key} (hx : l[j]? = some x) :
    w.cell? ⟨g, j * 2, none⟩ = some (.int .i64 x.1) ∧ w.cell? ⟨g, j * 2 + 1, none⟩ = some (.int .u64 x.2) ∧ w.frozen? ⟨g, j * 2, none⟩ = false ∧ w.frozen? ⟨g, j * 2 + 1, none⟩ = false := by
  have hj := (List.getElem?_eq_some_iff.1 hx).1
  refine ⟨?_, ?_, h.frozenAt _, h.frozenAt _⟩
  · rw [h.cellAt _ (by omega)]
    exact flat_get encK_length (i := 0) (by decide) l j x hx
  · rw [h.cellAt _ (by omega)]
    exact flat_get encK_length (i := 1) (by decide) l j x hx
theorem own_key_set {w : World} {base g cap n : Nat} {e : TypeId} {l : List Key} (h : w.ownsRow base e 2 (.slice (some ⟨g, 0, none⟩) n cap) n (flat encK l)) {j : Nat} (hj : j < l.length) (y : Key) :
    ((w.setCell ⟨g, j * 2, none⟩ (.int .i64 y.1)).setCell ⟨g, j * 2 + 1, none⟩ (.int .u64 y.2)).ownsRow base e 2 (.slice (some ⟨g, 0, none⟩) n cap) n (flat encK (l.set j y)) := by
  rw [← flat_set2 encK_length (y := y) rfl l j hj]
  exact ((h.stored _ _).1.stored _ _).1

theorem below_grow {w : World} (q : Nat) (os : Array Obj) : Below w.heap.size w (grow (w.drewN q) os) :=
  ⟨rfl, rfl, rfl, by simp, fun _ hk => heap_grow_old _ _ hk⟩

theorem hold_i64 (a b : Int) (w : World) : Calls Try.prog 16 #[.int .i64 a, .int .i64 b] w fun e w' => e = .returned (.int .i64 (cmpI a b)) ∧ w = w' := by
  rcases cmpI_cases a b with ⟨h, e⟩ | ⟨h, e⟩ | ⟨h, e⟩
  · rw [e]
    clear e
    go_enter Try.func16, Try.ntmps16
    go_wp2
    go_ret
    exact ⟨rfl, rfl⟩
  · rw [e]
    have h' : ¬ a < b := by omega
    clear e
    go_enter Try.func16, Try.ntmps16
    go_wp2
    go_ret
    exact ⟨rfl, rfl⟩
  · subst h
    rw [e]
    have h' : ¬ a < a := by omega
    clear e
    go_enter Try.func16, Try.ntmps16
    go_wp2
    go_ret
    exact ⟨rfl, rfl⟩
theorem hold_u64 (a b : Int) (w : World) : Calls Try.prog 17 #[.int .u64 a, .int .u64 b] w fun e w' => e = .returned (.int .i64 (cmpI a b)) ∧ w = w' := by
  rcases cmpI_cases a b with ⟨h, e⟩ | ⟨h, e⟩ | ⟨h, e⟩
  · rw [e]
    clear e
    go_enter Try.func17, Try.ntmps17
    go_wp2
    go_ret
    exact ⟨rfl, rfl⟩
  · rw [e]
    have h' : ¬ a < b := by omega
    clear e
    go_enter Try.func17, Try.ntmps17
    go_wp2
    go_ret
    exact ⟨rfl, rfl⟩
  · subst h
    rw [e]
    have h' : ¬ a < a := by omega
    clear e
    go_enter Try.func17, Try.ntmps17
    go_wp2
    go_ret
    exact ⟨rfl, rfl⟩

theorem Cmp_grown (x y : Key) (w : World) : Calls Try.prog 7 #[.agg #[.int .i64 x.1, .int .u64 x.2], .agg #[.int .i64 y.1, .int .u64 y.2]] w fun e w' => e = .returned (.int .i64 (cmpK x y)) ∧ ∃ q os, w' = grow (w.drewN q) os := by
  obtain ⟨a, b⟩ := x
  obtain ⟨c, d⟩ := y
  simp only
  by_cases h : cmpI a c = 0
  · have e : cmpK (a, b) (c, d) = cmpI b d := if_pos h
    rw [e]
    have H := Lib.hid h
    clear e h
    go_enter Try.func7, Try.ntmps7
    go_wp2_with fail
    refine (hold_i64 a c _).mono ?_
    rintro e w' ⟨rfl, rfl⟩
    rw [H.out]
    go_wp2_with fail
    refine (hold_u64 b d _).mono ?_
    rintro e w' ⟨rfl, rfl⟩
    go_wp2
    go_ret
    exact ⟨rfl, 0, _, by rw [alloc_eq_grow, alloc_eq_grow, grow_grow]; rfl⟩
  · have e : cmpK (a, b) (c, d) = cmpI a c := if_neg h
    rw [e]
    have h' : (cmpI a c == 0) = false := by simpa using h
    clear e
    go_enter Try.func7, Try.ntmps7
    go_wp2_with fail
    refine (hold_i64 a c _).mono ?_
    rintro e w' ⟨rfl, rfl⟩
    go_wp2
    go_ret
    exact ⟨rfl, 0, _, by rw [alloc_eq_grow, alloc_eq_grow, grow_grow]; rfl⟩

theorem Cmp_is {x y : Key} {v : Int} (h : cmpK x y = v) (w : World) : Calls Try.prog 7 #[.agg #[.int .i64 x.1, .int .u64 x.2], .agg #[.int .i64 y.1, .int .u64 y.2]] w fun e w' => e = .returned (.int .i64 v) ∧ Below w.heap.size w w' :=
  (Cmp_grown x y w).mono fun _ _ ⟨he, q, os, hw⟩ => ⟨he.trans (by rw [h]), by rw [hw]; exact below_grow q os⟩
theorem Cmp_any (x y : Key) (w : World) : Calls Try.prog 7 #[.agg #[.int .i64 x.1, .int .u64 x.2], .agg #[.int .i64 y.1, .int .u64 y.2]] w fun e w' => e = .returned (.int .i64 (cmpK x y)) ∧ Below w.heap.size w w' :=
  (Cmp_grown x y w).mono fun _ _ ⟨he, q, os, hw⟩ => ⟨he, by rw [hw]; exact below_grow q os⟩

set_option maxHeartbeats 400000 in
theorem Place_any (A : Option Addr) (l : List Key) (c : Nat) (y : Key) (w : World) (hR : Row w w.heap.size A (flat encK l)) (hl : l.length ≤ maxLen) :
    Calls Try.prog 9 #[.slice A l.length c, .agg #[.int .i64 y.1, .int .u64 y.2]] w fun e w' => e = .returned (.int .i64 (placeK l y)) ∧ Below w.heap.size w w' := by
  obtain ⟨n, hn⟩ : ∃ n, n = l.length := ⟨_, rfl⟩
  obtain ⟨B, hB⟩ : ∃ B, B = w.heap.size := ⟨_, rfl⟩
  unfold maxLen at hl
  rw [← hn] at hl ⊢
  have HN := Lib.hid hn
  clear hn
  have HR := Lib.hid hR
  clear hR
  go_enter Try.func9, Try.ntmps9
  go_wp2
  go_loopw [5, 10] (fun p i wr => ∃ k : Nat, k ≤ n ∧ i = .int .i64 k ∧ p = .int .i64 (placeK (l.take k) y) ∧ Below (w.heap.size + 1) (w.alloc (.cells #[.int .i64 y.1, .int .u64 y.2] 25)) wr)
    (fun _ i _ => n - (intOf i).toNat)
  case atStart => exact ⟨0, Nat.zero_le _, rfl, rfl, Below.refl _ _⟩
  case round =>
    obtain ⟨k, hk, rfl, rfl, hb⟩ := hrel
    have hp := placeK_le (l.take k) y
    have hpl : (l.take k).length ≤ k := by simp; omega
    by_cases hlt : k < n
    · have hlt' : k < l.length := by rw [← HN.out]; exact hlt
      obtain ⟨b, o, rfl, hbB, hc⟩ := key_at (HR.out.later (below_past hb)) hlt'
      obtain ⟨c0, c1⟩ := hc k l[k] (List.getElem?_eq_getElem hlt')
      have hkey := box_cell hb 0
      have hkey1 := box_cell hb 1
      simp at hkey hkey1
      have hz := size_past hb
      clear hc
      have hst := placeK_take l y k hlt'
      have hlk := cmpK_lt l[k] y
      by_cases hlt2 : cmpK l[k] y < 0
      · have hs : placeK (l.take (k + 1)) y = placeK (l.take k) y + 1 := by rw [hst, if_pos (by rw [← hlk]; simpa using hlt2)]
        have HS := Lib.hid hs
        clear hst hlk hs
        go_wp2_with fail
        refine (Cmp_any l[k] y _).mono ?_
        rintro e w' ⟨rfl, hb2⟩
        go_wp2
        go_roundw
        case rel => exact ⟨k + 1, by omega, by go_num, by rw [HS.out]; go_num, hb.trans (((Below.refl _ _).alloc (by omega) _).trans (hb2.mono (by simp; omega)))⟩
        case measure => simp [intOf]; omega
      · have hs : placeK (l.take (k + 1)) y = placeK (l.take k) y := by rw [hst, if_neg (by rw [← hlk]; simpa using hlt2), Nat.add_zero]
        have HS := Lib.hid hs
        clear hst hlk hs
        go_wp2_with fail
        refine (Cmp_any l[k] y _).mono ?_
        rintro e w' ⟨rfl, hb2⟩
        go_wp2
        go_roundw
        case rel => exact ⟨k + 1, by omega, by go_num, by rw [HS.out], hb.trans (((Below.refl _ _).alloc (by omega) _).trans (hb2.mono (by simp; omega)))⟩
        case measure => simp [intOf]; omega
    · go_wp2
      go_ret
      exact ⟨ret_i64 (by rw [List.take_of_length_le (by have := HN.out; omega)]), below_past hb⟩
theorem Place_is {A : Option Addr} {l : List Key} {c n : Nat} {y : Key} {v : Nat} {w : World} (hn : n = l.length) (hR : Row w w.heap.size A (flat encK l)) (hl : l.length ≤ maxLen) (h : placeK l y = v) :
    Calls Try.prog 9 #[.slice A n c, .agg #[.int .i64 y.1, .int .u64 y.2]] w fun e w' => e = .returned (.int .i64 v) ∧ Below w.heap.size w w' := by
  rw [← h, hn]
  exact Place_any A l c y w hR hl

set_option maxHeartbeats 400000 in
theorem Rising_any (A : Option Addr) (l : List Key) (c : Nat) (w : World) (hR : Row w w.heap.size A (flat encK l)) (hl : l.length ≤ maxLen) :
    Calls Try.prog 11 #[.slice A l.length c] w fun e w' => e = .returned (.bool (risingK l)) ∧ Below w.heap.size w w' := by
  obtain ⟨n, hn⟩ : ∃ n, n = l.length := ⟨_, rfl⟩
  unfold maxLen at hl
  rw [← hn] at hl ⊢
  have HN := Lib.hid hn
  clear hn
  have HR := Lib.hid hR
  clear hR
  go_enter Try.func11, Try.ntmps11
  go_wp2
  go_loopw [3] (fun i wr => ∃ k : Nat, (k = 0 ∨ k + 1 ≤ n) ∧ i = .int .i64 ((k : Int) + 1) ∧ risesTo l (k + 1) ∧ Below w.heap.size w wr)
    (fun i _ => n - (intOf i).toNat)
  case atStart => exact ⟨0, .inl rfl, rfl, risesTo_zero l, Below.refl _ _⟩
  case round =>
    obtain ⟨k, hk, rfl, hrise, hb⟩ := hrel
    have HI := Lib.hid hrise
    clear hrise
    by_cases hlt : k + 1 < n
    · have hlt' : k + 1 < l.length := by rw [← HN.out]; exact hlt
      obtain ⟨b, o, rfl, hbB, hc⟩ := key_at (HR.out.later hb) hlt'
      obtain ⟨c0, c1⟩ := hc k l[k] (List.getElem?_eq_getElem (by omega))
      obtain ⟨d0, d1⟩ := hc (k + 1) l[k + 1] (List.getElem?_eq_getElem hlt')
      clear hc
      have C0 := fun p : After wr => p.cell c0
      have C1 := fun p : After wr => p.cell c1
      have D0 := fun p : After wr => p.cell d0
      have D1 := fun p : After wr => p.cell d1
      clear c0 c1 d0 d1
      have hlk := cmpK_lt l[k] l[k + 1]
      by_cases h0 : 0 ≤ cmpK l[k] l[k + 1]
      · have hf : ltK l[k] l[k + 1] = false := by rw [← hlk]; simpa using h0
        have HF := Lib.hid (risingK_false l k hlt' hf)
        clear hlk hf
        go_wp2
        refine wp_region_after mixed (by kernel_rfl) ?_
        repeat (first | go_big_quiet_step (exact calls_after (Cmp_any l[k] l[k + 1] _)) | quiet_step (exact calls_after (Cmp_any l[k] l[k + 1] _)))
        refine wpQuiet_nil ?_
        intro _ hw'
        obtain ⟨pq, hw''⟩ := hw'
        subst hw''
        go_wp2
        go_ret
        exact ⟨ret_bool HF.out.symm, hb.trans (pq.ok.mono hb.size)⟩
      · have hf : ltK l[k] l[k + 1] = true := by rw [← hlk]; simpa using h0
        have HF := Lib.hid (risesTo_step l k hlt' HI.out hf)
        clear hlk hf
        go_wp2
        refine wp_region_after mixed (by kernel_rfl) ?_
        repeat (first | go_big_quiet_step (exact calls_after (Cmp_any l[k] l[k + 1] _)) | quiet_step (exact calls_after (Cmp_any l[k] l[k + 1] _)))
        refine wpQuiet_nil ?_
        intro _ hw'
        obtain ⟨pq, hw''⟩ := hw'
        subst hw''
        go_wp2
        go_roundw
        case rel => exact ⟨k + 1, .inr (by omega), by go_num, HF.out, hb.trans (pq.ok.mono hb.size)⟩
        case measure => simp [intOf]; omega
    · go_wp2
      go_ret
      have hN := HN.out
      exact ⟨ret_bool (risingK_true l fun j x y hj hx hy => HI.out j x y (by omega) hx hy).symm, hb⟩
end Go.Proofs.Ythbdhohbdidcnaa.Order
