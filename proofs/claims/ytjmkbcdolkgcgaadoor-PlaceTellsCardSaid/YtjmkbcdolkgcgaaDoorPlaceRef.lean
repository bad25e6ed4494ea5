/- The document's answers for layer 9 (package sundialref09), What and Where: held to the list of all spots. -/
import Derived.Test.YtjmkbcdolkgcgaaDoorPlaceAll
import Derived.Test.YtjmkbcdolkgcgaaDoorPlaceWhat
namespace Go.Proofs.YtjmkbcdolkgcgaaDoor.PlaceRef
open Go.ChangeShapes Go.WideShapes Go.RowKit PM Lay Plan Go.Proofs.YtjmkbcdolkgcgaaDoor.Open
set_option linter.unusedVariables false
open Go.Proofs.YtjmkbcdolkgcgaaDoor.Place (spotV)
open Go.Proofs.YtjmkbcdolkgcgaaDoor.PlaceAll (Spots)

theorem spots_small (T S L G : Int) : (spI T S L G).length ≤ 4096 := by
  unfold spI
  split
  · rename_i h
    obtain ⟨t, s, l, rfl, rfl, rfl, hs⟩ := small_of h
    simp only [Int.toNat_natCast]
    rw [sp_length]
    exact words_small hs.t hs.s hs.l
  · simp
theorem what_low {l : List Sp} {i : Int} (h : i < 0) : whatL l i = none3 := if_neg (by omega)
theorem what_high {l : List Sp} {i : Int} (h : (l.length : Int) ≤ i) : whatL l i = none3 := by
  unfold whatL
  split
  · rw [List.getElem?_eq_none (by omega)]; rfl
  · rfl
theorem what_at {l : List Sp} {k : Nat} {x : Sp} (h : l[k]? = some x) : whatL l (k : Int) = x := by
  unfold whatL
  rw [if_pos (by omega)]
  simp [h]

theorem two_size (T S L G : Int) (w : World) (o : Obj) : ((w.alloc (.cells #[.int .i64 T, .int .i64 S, .int .i64 L, .int .u64 G] 24)).alloc o).heap.size = w.heap.size + 2 := by simp
theorem two_below (w : World) (o o' : Obj) : Below w.heap.size w ((w.alloc o).alloc o') := ((Below.refl _ _).alloc (Nat.le_refl _) _).alloc (by simp) _
set_option maxHeartbeats 2000000 in
theorem What_any (T S L G i : Int) (w : World) : Calls Tryd.prog 7 #[.agg #[.int .i64 T, .int .i64 S, .int .i64 L, .int .u64 G], .int .i64 i] w fun e w' => e = .returned (spotV (whatI T S L G i)) ∧ Below w.heap.size w w' := by
  have HL := Lib.hid (spots_small T S L G)
  have HA := Lib.hid fun w => PlaceAll.All_any T S L G w
  unfold whatI
  generalize spI T S L G = l at HL HA ⊢
  obtain ⟨c_0, c_1, c_2, c_3⟩ := box4 w (.int .i64 T) (.int .i64 S) (.int .i64 L) (.int .u64 G) 24
  have bR := Lib.hid (Place.SpotAt.new (w.alloc (.cells #[.int .i64 T, .int .i64 S, .int .i64 L, .int .u64 G] 24)) none3)
  have HB2 := Lib.hid (two_below w (.cells #[.int .i64 T, .int .i64 S, .int .i64 L, .int .u64 G] 24) (.cells #[.int .i64 0, .int .i64 0, .int .i64 0] 26))
  go_enter Tryd.func7, Tryd.ntmps7
  go_wp2_with fail
  refine (HA.out _).mono ?_
  rintro e w1 ⟨A, c, rfl, hR, hb⟩
  have b1 := bR.out.kept (grownBy_below hb) (by simp)
  rw [World.size_alloc] at b1
  have B1 := Lib.hid b1
  have HB := Lib.hid (HB2.out.trans (hb.mono HB2.out.size))
  obtain ⟨⟨r0, r1, r2⟩, f0, f1, f2⟩ := b1.cells
  have HR := Lib.hid hR
  clear hb b1 hR bR HB2 c_0 c_1 c_2 c_3
  by_cases h0 : i < 0
  · have HW := Lib.hid (what_low (l := l) h0)
    have b2 := B1.out.set none3
    simp only [none3] at b2
    obtain ⟨⟨q0, q1, q2⟩, _⟩ := b2.cells
    clear b2
    go_wp2
    rw [HW.out]
    exact bodyPost_ret (v := spotV none3) (by simp [results, Tryd.results7, go_sem, q0, q1, q2, spotV, none3]) rfl ⟨rfl, Place.set_below HB.out (by simp) _ _ _⟩
  · by_cases h1 : (l.length : Int) ≤ i
    · have HW := Lib.hid (what_high h1)
      have b2 := B1.out.set none3
      simp only [none3] at b2
      obtain ⟨⟨q0, q1, q2⟩, _⟩ := b2.cells
      clear b2
      go_wp2
      rw [HW.out]
      exact bodyPost_ret (v := spotV none3) (by simp [results, Tryd.results7, go_sem, q0, q1, q2, spotV, none3]) rfl ⟨rfl, Place.set_below HB.out (by simp) _ _ _⟩
    · obtain ⟨k, rfl⟩ := Int.eq_ofNat_of_zero_le (show 0 ≤ i by omega)
      have hk : k < l.length := by omega
      obtain ⟨b, o, rfl, hbB, hc⟩ := three_at HR.out hk
      have hx := List.getElem?_eq_getElem hk
      obtain ⟨d0, d1, d2⟩ := hc k _ hx
      have HW := Lib.hid (what_at hx)
      generalize l[k] = x at d0 d1 d2 HW
      have b2 := B1.out.set x
      obtain ⟨⟨q0, q1, q2⟩, _⟩ := b2.cells
      have d00 : decide ((k : Int) < 0) = false := decide_eq_false (by omega)
      have d01 : decide ((l.length : Int) ≤ (k : Int)) = false := decide_eq_false (by omega)
      clear b2 hc hx h0 h1
      go_wp2
      rw [HW.out]
      exact bodyPost_ret (v := spotV x) (by simp [results, Tryd.results7, go_sem, q0, q1, q2, spotV]) rfl ⟨rfl, Place.set_below HB.out (by simp) _ _ _⟩
theorem where_at {l : List Sp} {s : Sp} {k : Nat} (h : l[k]? = some s) (hn : ∀ j, j < k → l[j]? ≠ some s) : whereL l s = (k : Int) := by
  unfold whereL
  rw [find_some h hn]
  simp
theorem where_no {l : List Sp} {s : Sp} (hn : ∀ j, j < l.length → l[j]? ≠ some s) : whereL l s = -1 := find_none fun hm => by
  obtain ⟨i, hi⟩ := List.getElem?_of_mem hm
  exact hn i (List.getElem?_eq_some_iff.1 hi).1 hi
set_option maxHeartbeats 2000000 in
theorem Where_any (T S L G : Int) (s : Sp) (w : World) : Calls Tryd.prog 9 #[.agg #[.int .i64 T, .int .i64 S, .int .i64 L, .int .u64 G], spotV s] w fun e w' => e = .returned (.int .i64 (whereI T S L G s)) ∧ Below w.heap.size w w' := by
  obtain ⟨a, b, c⟩ := s
  have HL := Lib.hid (spots_small T S L G)
  have HA := Lib.hid fun w => PlaceAll.All_any T S L G w
  unfold whereI spotV
  generalize spI T S L G = l at HL HA ⊢
  obtain ⟨c_0, c_1, c_2, c_3⟩ := box4 w (.int .i64 T) (.int .i64 S) (.int .i64 L) (.int .u64 G) 24
  have bR := Lib.hid (Place.SpotAt.new (w.alloc (.cells #[.int .i64 T, .int .i64 S, .int .i64 L, .int .u64 G] 24)) (a, b, c))
  have HB2 := Lib.hid (two_below w (.cells #[.int .i64 T, .int .i64 S, .int .i64 L, .int .u64 G] 24) (.cells #[.int .i64 a, .int .i64 b, .int .i64 c] 26))
  go_enter Tryd.func9, Tryd.ntmps9
  go_wp2_with fail
  refine (HA.out _).mono ?_
  rintro e w1 ⟨A, n, rfl, hR, hb⟩
  have b1 := bR.out.kept (grownBy_below hb) (by simp)
  rw [World.size_alloc] at b1
  have HB := Lib.hid (HB2.out.trans (hb.mono HB2.out.size))
  obtain ⟨⟨s0, s1, s2⟩, _⟩ := b1.cells
  have HR := Lib.hid hR
  dsimp only at s0 s1 s2
  clear hb b1 hR bR HB2 c_0 c_1 c_2 c_3
  go_wp2
  go_loopw [6] (fun v wr => ∃ k : Nat, k ≤ l.length ∧ v = .int .i64 k ∧ Below w1.heap.size w1 wr ∧ ∀ j, j < k → l[j]? ≠ some (a, b, c))
    (fun v _ => l.length - (intOf v).toNat)
  case atStart => exact ⟨0, Nat.zero_le _, rfl, Below.refl _ _, fun j h => by omega⟩
  case round =>
    obtain ⟨k, hk, rfl, hw, hn⟩ := hrel
    have HN := Lib.hid hn
    have HWR := Lib.hid hw
    have HBR := Lib.hid (HB.out.trans (hw.mono HB.out.size))
    clear hw
    have hL := HL.out
    clear hn
    by_cases hlt : k < l.length
    · obtain ⟨bb, o, rfl, hbB, hc⟩ := three_at HR.out hlt
      have hx := List.getElem?_eq_getElem hlt
      obtain ⟨d0, d1, d2⟩ := hc k _ hx
      have HX := Lib.hid hx
      generalize l[k] = x at d0 d1 d2 HX
      obtain ⟨x0, x1, x2⟩ := x
      dsimp only at d0 d1 d2
      have e_0 := cell_later HWR.out d0
      have e_1 := cell_later HWR.out d1
      have e_2 := cell_later HWR.out d2
      have t_0 := cell_later HWR.out s0
      have t_1 := cell_later HWR.out s1
      have t_2 := cell_later HWR.out s2
      have E_0 := fun p : After wr => p.cell e_0
      have T_0 := fun p : After wr => p.cell t_0
      have E_1 := fun p : After wr => p.cell e_1
      have T_1 := fun p : After wr => p.cell t_1
      have E_2 := fun p : After wr => p.cell e_2
      have T_2 := fun p : After wr => p.cell t_2
      clear hc hx d0 d1 d2 e_0 e_1 e_2 s0 s1 s2 t_0 t_1 t_2
      by_cases hs : x0 = a ∧ x1 = b ∧ x2 = c
      · obtain ⟨rfl, rfl, rfl⟩ := hs
        have HW := Lib.hid (where_at HX.out HN.out)
        go_wp2
        refine wp_region_after mixed (by kernel_rfl) ?_
        repeat (first | go_big_quiet_step (fail) | quiet_step (fail))
        refine wpQuiet_nil ?_
        intro _ hw'
        obtain ⟨pq, hw''⟩ := hw'
        subst hw''
        go_wp2
        go_ret
        exact ⟨by rw [HW.out]; rfl, HBR.out.trans (pq.ok.mono HBR.out.size)⟩
      · have HS := Lib.hid (show l[k]? ≠ some (a, b, c) by rw [HX.out]; intro e; cases e; exact hs ⟨rfl, rfl, rfl⟩)
        have HR2 := Lib.hid (show ∀ j, j < k + 1 → l[j]? ≠ some (a, b, c) from fun j hj => by
          by_cases ej : j = k
          · subst ej; exact HS.out
          · exact HN.out j (by omega))
        by_cases h0 : x0 = a
        · by_cases h1 : x1 = b
          · have h2 : ¬ x2 = c := fun e => hs ⟨h0, h1, e⟩
            have b2 : (x2 == c) = false := by simpa using h2
            subst h0 h1
            clear hs
            go_wp2
            refine wp_region_after mixed (by kernel_rfl) ?_
            repeat (first | go_big_quiet_step (fail) | quiet_step (fail))
            refine wpQuiet_nil ?_
            intro _ hw'
            obtain ⟨pq, hw''⟩ := hw'
            subst hw''
            go_wp2
            go_roundw
            case rel => exact ⟨k + 1, by omega, by go_num, HWR.out.trans (pq.ok.mono HWR.out.size), HR2.out⟩
            case measure => simp [intOf]; omega
          · have b1 : (x1 == b) = false := by simpa using h1
            subst h0
            clear hs
            go_wp2
            refine wp_region_after mixed (by kernel_rfl) ?_
            repeat (first | go_big_quiet_step (fail) | quiet_step (fail))
            refine wpQuiet_nil ?_
            intro _ hw'
            obtain ⟨pq, hw''⟩ := hw'
            subst hw''
            go_wp2
            go_roundw
            case rel => exact ⟨k + 1, by omega, by go_num, HWR.out.trans (pq.ok.mono HWR.out.size), HR2.out⟩
            case measure => simp [intOf]; omega
        · have b0 : (x0 == a) = false := by simpa using h0
          clear hs
          go_wp2
          refine wp_region_after mixed (by kernel_rfl) ?_
          repeat (first | go_big_quiet_step (fail) | quiet_step (fail))
          refine wpQuiet_nil ?_
          intro _ hw'
          obtain ⟨pq, hw''⟩ := hw'
          subst hw''
          go_wp2
          go_roundw
          case rel => exact ⟨k + 1, by omega, by go_num, HWR.out.trans (pq.ok.mono HWR.out.size), HR2.out⟩
          case measure => simp [intOf]; omega
    · obtain rfl : k = l.length := by omega
      have HW := Lib.hid (where_no HN.out)
      go_wp2
      go_ret
      exact ⟨by rw [HW.out]; rfl, HBR.out⟩
end Go.Proofs.YtjmkbcdolkgcgaaDoor.PlaceRef
