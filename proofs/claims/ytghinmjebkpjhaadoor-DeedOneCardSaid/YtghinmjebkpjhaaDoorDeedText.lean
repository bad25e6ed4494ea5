/- The texts of deeds, by package deed: of any deed textI's bytes; what lay in memory ahead stays as it was. -/
import Derived.Test.YtghinmjebkpjhaaDoorDeedWalks
import Derived.Test.YtghinmjebkpjhaaDoorDeedFits
import Derived.Test.YtghinmjebkpjhaaDoorFmtUint
import Derived.Test.YtghinmjebkpjhaaDoorJoinShelf
import Derived.Test.YtghinmjebkpjhaaDoorFrameLaid
namespace Go.Proofs.YtghinmjebkpjhaaDoor.DeedText
open Go.ChangeShapes Go.WideShapes Go.ChangeAt Go.RowKit CM DM Lay Ints Cells Str Fmt Deed
open SM (decI)

theorem tens_later {w w' : World} (h : Tens w) (hb : Below w.heap.size w w') : Tens w' := Frame.tab_later h hb

theorem Itoa_int (n : Int) (h0 : -9223372036854775808 ≤ n) (h1 : n ≤ 9223372036854775807) (w : World) (htab : Tens w) :
    Calls Tryd.prog 43 #[.int .i64 n] w fun e w' => e = .returned (.string (bs (Lib.itoa n))) ∧ Below w.heap.size w w' :=
  (Any.strconv_Itoa Tryd.laysM171 n h0 h1 w htab).mono fun _ _ h => by
    obtain ⟨h, k, os, rfl⟩ := h
    exact ⟨by rw [h]; rfl, Lib.below_grow _ _ (Nat.le_refl _) _ _⟩
/-- A list of strings, cell by cell. -/
def strV (l : List UInt8) : Value := .string (bs l)
theorem strV_one (ps : List (List UInt8)) : ∀ v ∈ ps.map strV, v.oneCell' = true := fun v hv => by
  obtain ⟨l, _, rfl⟩ := List.mem_map.1 hv
  rfl
theorem Join_any {w : World} {base g cap m : Nat} (ps : List (List UInt8)) (ho : w.ownsRow base 9 1 (.slice (some ⟨g, 0, none⟩) m cap) m (ps.map strV)) (hm : m = ps.length) (hs : ps.length ≤ 100000) (hl : (Lib.join ps [32]).length ≤ 100000) :
    Calls Tryd.prog 45 #[.slice (some ⟨g, 0, none⟩) m cap, .string ⟨#[32]⟩] w fun e w' => e = .returned (.string (bs (Lib.join ps [32]))) ∧ Below w.heap.size w w' := by
  have e1 : (ps.map bs).map (fun s => s.data.toList) = ps := by rw [List.map_map, show ((fun s : ByteArray => s.data.toList) ∘ bs) = id from funext bs_data, List.map_id]
  have e2 : m = (ps.map bs).length := by rw [List.length_map, hm]
  have hmc : m ≤ cap := by
    obtain ⟨A, c, e, h⟩ := slice_of_own ho
    cases e
    exact h
  have h := Any.strings_Join Tryd.lays156 Tryd.Builder_Extra_156 g 0 cap (ps.map bs) ⟨#[32]⟩ w (fun j x hj => by
      have h1 := ho.cells (g := g) rfl j (.string x) (by
        rw [List.getElem?_map] at hj ⊢
        cases hp : ps[j]? with
        | none => rw [hp] at hj; cases hj
        | some l => rw [hp] at hj; cases hj; rfl)
      rwa [Addr.add_lit] at h1) (ho.lt g rfl).2 (by rw [List.length_map]; omega) (by rw [← e2]; exact hmc) (by rw [e1]; exact Nat.le_trans hl (by decide))
  rw [e1, ← e2] at h
  exact h
theorem digits_any (u : Int) (h0 : 0 ≤ u) (h1 : u < 18446744073709551616) (w : World) (htab : Tens w) : Calls Tryd.prog 44 #[.int .u64 u] w fun e w' => e = .returned (.string (bs (decI u))) ∧ Below w.heap.size w w' := by
  have H1 := Lib.hid h1
  clear h1
  go_enter Tryd.func44, Tryd.ntmps44
  go_wp2_with fail
  refine (FormatUint_any u h0 H1.out _ htab).mono ?_
  rintro e w' ⟨rfl, hb⟩
  go_wp2
  go_ret
  exact ⟨rfl, hb⟩

theorem infoStr : (Tryd.prog.info? 9).map (fun i => (i.zero, i.size, i.bytes)) = some (some (.string ⟨#[]⟩), 1, 16) := by kernel_rfl
theorem new_cells (w : World) (cs : Array Value) (t : TypeId) : ∀ j u, cs.toList[j]? = some u → (w.alloc (.cells cs t)).cell? ((⟨w.heap.size, 0, none⟩ : Addr).add j) = some u := fun j u hu => by
  rw [Addr.add_lit, Nat.zero_add, cell_of_row _ _ _ _ _ _ (heap_alloc_new w _)]
  simpa using hu
theorem own_two (w : World) (base : Nat) (a b : List UInt8) (hb : base ≤ w.heap.size) : (w.alloc (.cells #[.string (bs a), .string (bs b)] 9)).ownsRow base 9 1 (.slice (some ⟨w.heap.size, 0, none⟩) 2 2) 2 ([a, b].map strV) :=
  own_of_whole (cs := [.string (bs a), .string (bs b)]) (heap_alloc_new w _) hb rfl (by decide)

set_option maxHeartbeats 1000000 in
theorem line_any (name : List UInt8) (A : Option Addr) (ns : List Int) (n c : Nat) (kd i a b y : Int) (w : World) (hR : Row w w.heap.size A (flat (encZ .u64) ns)) (hn : n = ns.length) (hs : n ≤ 100) (hnm : name.length ≤ 100)
    (i0 : -9223372036854775808 ≤ i) (i1 : i ≤ 9223372036854775807) (hw : ∀ x ∈ ns, 0 ≤ x ∧ x < 18446744073709551616) (y0 : 0 ≤ y) (y1 : y < 18446744073709551616) (hT : Tens w) :
    Calls Tryd.prog 29 #[.string (bs name), .agg #[.int .i64 kd, .int .i64 i, .int .u64 a, .int .u64 b, .int .u64 y], .slice A n c] w fun e w' => e = .returned (.string (bs (lineL name i ns y))) ∧ Below w.heap.size w w' := by
  have HLL := Lib.hid (line_len (name := name) hnm i0 i1 (by rw [← hn]; exact hs) (fun x hx => (hw x hx).2) y1)
  have HN := Lib.hid hn
  have HR := Lib.hid hR
  have HW := Lib.hid hw
  have HY := Lib.hid y1
  have HI0 := Lib.hid i0
  have HI1 := Lib.hid i1
  have HT := Lib.hid hT
  clear hn hR hw y1 i0 i1 hT hnm
  obtain ⟨f0, hi, hz0, hz1, hz2⟩ := info_parts infoStr
  have HB := Lib.hid (show Below w.heap.size w (w.alloc (.cells #[.int .i64 kd, .int .i64 i, .int .u64 a, .int .u64 b, .int .u64 y] 33)) from (Below.refl _ _).alloc (Nat.le_refl _) _)
  go_enter Tryd.func29, Tryd.ntmps29
  go_wp2_with fail
  refine (Itoa_int i HI0.out HI1.out _ (tens_later HT.out HB.out)).mono ?_
  rintro e w1 ⟨rfl, hb1⟩
  simp only [World.size_alloc] at hb1
  go_wp2
  have O1 := Lib.hid (own_two w1 (w.heap.size + 1) name (Lib.itoa i) (size_past hb1))
  have B1 := Lib.hid (show Below (w.heap.size + 1) (w.alloc (.cells #[.int .i64 kd, .int .i64 i, .int .u64 a, .int .u64 b, .int .u64 y] 33)) (w1.alloc (.cells #[.string (bs name), .string (bs (Lib.itoa i))] 9)) from hb1.alloc (size_past hb1) _)
  clear hb1
  go_loopw [7, 17] (fun v j wr => ∃ (k g cap : Nat), k ≤ n ∧ j = .int .i64 k ∧ v = .slice (some ⟨g, 0, none⟩) (2 + k) cap ∧ wr.ownsRow (w.heap.size + 1) 9 1 (.slice (some ⟨g, 0, none⟩) (2 + k) cap) (2 + k) ((name :: Lib.itoa i :: (ns.take k).map decI).map strV) ∧
      Below (w.heap.size + 1) (w.alloc (.cells #[.int .i64 kd, .int .i64 i, .int .u64 a, .int .u64 b, .int .u64 y] 33)) wr)
    (fun _ j _ => n - (intOf j).toNat)
  case atStart => exact ⟨0, w1.heap.size, 2, Nat.zero_le _, rfl, rfl, O1.out, B1.out⟩
  case round =>
    obtain ⟨k, g, cap, hk, rfl, rfl, ho, hb⟩ := hrel
    clear O1 B1
    have HO := Lib.hid ho
    have HB2 := Lib.hid hb
    have HBP := Lib.hid (below_past hb)
    have c4 := box_cell hb 4
    simp at c4
    have HC4 := Lib.hid c4
    clear ho hb c4
    by_cases hlt : k < n
    · have hlt' : k < ns.length := by rw [← HN.out]; exact hlt
      obtain ⟨b', o, rfl, hbB, hc⟩ := int_at (HR.out.later HBP.out) hlt'
      obtain ⟨x, hx⟩ : ∃ x, ns[k]? = some x := ⟨_, List.getElem?_eq_getElem hlt'⟩
      have c0 := hc k x hx
      have HX := Lib.hid (HW.out x (List.mem_of_getElem? hx))
      have HT2 := Lib.hid (by rw [List.take_add_one, hx]; simp : (ns.take (k + 1)).map decI = (ns.take k).map decI ++ [decI x])
      clear hc hbB hx
      go_wp2_with fail
      refine (digits_any x HX.out.1 HX.out.2 _ (tens_later HT.out HBP.out)).mono ?_
      rintro e w2 ⟨rfl, hb2⟩
      have HB3 := Lib.hid (HB2.out.trans (hb2.mono (size_past HB2.out)))
      have HO2 := Lib.hid (own_later HO.out hb2)
      clear hb2 c0
      go_wp2_with (
        at_builtin
        refine wpList_append_to _ (w.alloc (.cells #[.int .i64 kd, .int .i64 i, .int .u64 a, .int .u64 b, .int .u64 y] 33)) rfl (.tmp 21) (.tmp 24) 60 rfl (w.heap.size + 1) 9 f0 _ 1 16 Tryd.underlying60 hi hz0 hz1 hz2 rfl (by decide) _ (2 + k) _ rfl (HO2.out.alloc _) ⟨w2.heap.size, 0, none⟩ 1 1 [strV (decI x)] rfl (by decide) rfl (new_cells _ _ _) (strV_one [decI x]) (by simp only [maxLen]; omega) (by omega) (by have := size_past HB3.out; simp; omega) (HB3.out.alloc (size_past HB3.out) _) ?_
        intro g2 cap2 w3 ho3 hg3 hlt3 hb3)
      clear HO HO2 HB3 HB2 HBP HC4
      have hk2 : 2 + k + 1 = 2 + (k + 1) := by omega
      rw [hk2] at ho3
      have HO3 := Lib.hid (show w3.ownsRow (w.heap.size + 1) 9 1 (.slice (some ⟨g2, 0, none⟩) (2 + (k + 1)) cap2) (2 + (k + 1)) ((name :: Lib.itoa i :: (ns.take (k + 1)).map decI).map strV) by rw [HT2.out]; simpa using ho3)
      have HB4 := Lib.hid hb3
      clear ho3 hb3 hg3 hlt3
      go_wp2
      go_roundw
      case rel => exact ⟨k + 1, g2, cap2, by omega, by go_num, by rw [hk2], HO3.out, HB4.out⟩
      case measure => simp [intOf]; omega
    · obtain rfl : k = n := by omega
      have ho := HO.out
      rw [List.take_of_length_le (by rw [← HN.out]; exact Nat.le_refl _)] at ho
      have HO1 := Lib.hid ho
      have HL := Lib.hid (show 2 + k = (name :: Lib.itoa i :: ns.map decI).length by simp [HN.out]; omega)
      clear HO ho
      have c4 := HC4.out
      by_cases hy : y = 0
      · subst hy
        have HE := Lib.hid (show name :: Lib.itoa i :: ns.map decI = partsL name i ns 0 by simp [partsL, byL])
        go_wp2_with fail
        refine (Join_any _ HO1.out HL.out (by rw [← HL.out]; omega) (by rw [HE.out]; exact HLL.out)).mono ?_
        rintro e w2 ⟨rfl, hb2⟩
        have HB3 := Lib.hid (HBP.out.trans (hb2.mono HBP.out.size))
        clear hb2
        go_wp2
        go_ret
        exact ⟨ret_ba (by rw [HE.out]; rfl), HB3.out⟩
      · have hy2 : (y != 0) = true := by simpa using hy
        have HE := Lib.hid (show (name :: Lib.itoa i :: ns.map decI) ++ [[98, 121], decI y] = partsL name i ns y by simp [partsL, byL, hy])
        clear hy
        go_wp2_with fail
        refine (digits_any y y0 HY.out _ (tens_later HT.out HBP.out)).mono ?_
        rintro e w2 ⟨rfl, hb2⟩
        have HB3 := Lib.hid (HB2.out.trans (hb2.mono (size_past HB2.out)))
        have HO2 := Lib.hid (own_later HO1.out hb2)
        clear hb2 c4
        go_wp2_with (
          at_builtin
          refine wpList_append_to _ (w.alloc (.cells #[.int .i64 kd, .int .i64 i, .int .u64 a, .int .u64 b, .int .u64 y] 33)) rfl (.tmp 30) (.tmp 34) 60 rfl (w.heap.size + 1) 9 f0 _ 1 16 Tryd.underlying60 hi hz0 hz1 hz2 rfl (by decide) _ (2 + k) _ rfl (HO2.out.alloc _) ⟨w2.heap.size, 0, none⟩ 2 2 ([[98, 121], decI y].map strV) rfl (by decide) rfl (new_cells _ _ _) (strV_one [[98, 121], decI y]) (by simp only [maxLen]; omega) (by omega) (by have := size_past HB3.out; simp; omega) (HB3.out.alloc (size_past HB3.out) _) ?_
          intro g2 cap2 w3 ho3 hg3 hlt3 hb3
          have HO3 := Lib.hid (show w3.ownsRow (w.heap.size + 1) 9 1 (.slice (some ⟨g2, 0, none⟩) (2 + k + 2) cap2) (2 + k + 2) (((name :: Lib.itoa i :: ns.map decI) ++ [[98, 121], decI y]).map strV) by simpa using ho3)
          have HB4 := Lib.hid hb3
          have HL2 := Lib.hid (show 2 + k + 2 = ((name :: Lib.itoa i :: ns.map decI) ++ [[98, 121], decI y]).length by rw [List.length_append, ← HL.out]; rfl)
          clear ho3 hb3 hg3 hlt3)
        refine (Join_any _ HO3.out HL2.out (by rw [← HL2.out]; omega) (by rw [HE.out]; exact HLL.out)).mono ?_
        rintro e w4 ⟨rfl, hb4⟩
        have HB5 := Lib.hid ((below_past HB4.out).trans (hb4.mono (below_past HB4.out).size))
        clear hb4
        go_wp2
        go_ret
        exact ⟨ret_ba (congrArg (fun p => bs (Lib.join p [32])) HE.out), HB5.out⟩
theorem row_box (w : World) (o : Obj) (cs : Array Value) (ns : List Int) (t : TypeId) (h : flat (encZ .u64) ns = cs.toList) : Row ((w.alloc o).alloc (.cells cs t)) ((w.alloc o).alloc (.cells cs t)).heap.size (some ⟨w.heap.size + 1, 0, none⟩) (flat (encZ .u64) ns) := by
  have e := row_new (w.alloc o) cs t
  simp only [World.size_alloc] at e ⊢
  rw [h]
  exact e
theorem below_two (w : World) (o1 o2 : Obj) : Below w.heap.size w ((w.alloc o1).alloc o2) := ((Below.refl _ _).alloc (Nat.le_refl _) _).alloc (by simp) _

theorem x_two (kd i a b y : Int) (hF : Fits (kd, i, a, b, y)) (w : World) (hT : Tens w) : Calls Tryd.prog 33 #[.agg #[.int .i64 kd, .int .i64 i, .int .u64 a, .int .u64 b, .int .u64 y]] w fun e w' => e = .returned (.string (bs (lineL [115, 116, 111, 114, 101] i [a] y))) ∧ Below w.heap.size w w' := by
  obtain ⟨⟨i0, i1⟩, ⟨a0, a1⟩, ⟨b0, b1⟩, y0, y1⟩ := hF
  simp only at i0 i1 a0 a1 b0 b1 y0 y1
  have HB := Lib.hid (below_two w (.cells #[.int .i64 kd, .int .i64 i, .int .u64 a, .int .u64 b, .int .u64 y] 33) (.cells #[.int .u64 a] 29))
  have HL := Lib.hid (line_any [115, 116, 111, 114, 101] (some ⟨w.heap.size + 1, 0, none⟩) [a] (List.length [a]) (List.length [a]) kd i a b y _ (row_box w (.cells #[.int .i64 kd, .int .i64 i, .int .u64 a, .int .u64 b, .int .u64 y] 33) #[.int .u64 a] [a] 29 (flat_ints _ _)) rfl (by simp) (by decide) i0 i1 (fun x hx => by simp at hx; omega) y0 y1 (tens_later hT HB.out))
  clear i0 i1 a0 a1 b0 b1 y0 y1 hT
  go_enter Tryd.func33, Tryd.ntmps33
  go_wp2_with fail
  refine (HL.out).mono ?_
  rintro e w' ⟨rfl, hb⟩
  go_wp2
  go_ret
  exact ⟨rfl, HB.out.trans (hb.mono HB.out.size)⟩
theorem x_three (kd i a b y : Int) (hF : Fits (kd, i, a, b, y)) (w : World) (hT : Tens w) : Calls Tryd.prog 37 #[.agg #[.int .i64 kd, .int .i64 i, .int .u64 a, .int .u64 b, .int .u64 y]] w fun e w' => e = .returned (.string (bs (lineL [115, 119, 97, 112] i [a, b] y))) ∧ Below w.heap.size w w' := by
  obtain ⟨⟨i0, i1⟩, ⟨a0, a1⟩, ⟨b0, b1⟩, y0, y1⟩ := hF
  simp only at i0 i1 a0 a1 b0 b1 y0 y1
  have HB := Lib.hid (below_two w (.cells #[.int .i64 kd, .int .i64 i, .int .u64 a, .int .u64 b, .int .u64 y] 33) (.cells #[.int .u64 a, .int .u64 b] 29))
  have HL := Lib.hid (line_any [115, 119, 97, 112] (some ⟨w.heap.size + 1, 0, none⟩) [a, b] (List.length [a, b]) (List.length [a, b]) kd i a b y _ (row_box w (.cells #[.int .i64 kd, .int .i64 i, .int .u64 a, .int .u64 b, .int .u64 y] 33) #[.int .u64 a, .int .u64 b] [a, b] 29 (flat_ints _ _)) rfl (by simp) (by decide) i0 i1 (fun x hx => by simp at hx; omega) y0 y1 (tens_later hT HB.out))
  clear i0 i1 a0 a1 b0 b1 y0 y1 hT
  go_enter Tryd.func37, Tryd.ntmps37
  go_wp2_with fail
  refine (HL.out).mono ?_
  rintro e w' ⟨rfl, hb⟩
  go_wp2
  go_ret
  exact ⟨rfl, HB.out.trans (hb.mono HB.out.size)⟩
theorem x_four (kd i a b y : Int) (hF : Fits (kd, i, a, b, y)) (w : World) (hT : Tens w) : Calls Tryd.prog 41 #[.agg #[.int .i64 kd, .int .i64 i, .int .u64 a, .int .u64 b, .int .u64 y]] w fun e w' => e = .returned (.string (bs (lineL [97, 100, 100] i [a] y))) ∧ Below w.heap.size w w' := by
  obtain ⟨⟨i0, i1⟩, ⟨a0, a1⟩, ⟨b0, b1⟩, y0, y1⟩ := hF
  simp only at i0 i1 a0 a1 b0 b1 y0 y1
  have HB := Lib.hid (below_two w (.cells #[.int .i64 kd, .int .i64 i, .int .u64 a, .int .u64 b, .int .u64 y] 33) (.cells #[.int .u64 a] 29))
  have HL := Lib.hid (line_any [97, 100, 100] (some ⟨w.heap.size + 1, 0, none⟩) [a] (List.length [a]) (List.length [a]) kd i a b y _ (row_box w (.cells #[.int .i64 kd, .int .i64 i, .int .u64 a, .int .u64 b, .int .u64 y] 33) #[.int .u64 a] [a] 29 (flat_ints _ _)) rfl (by simp) (by decide) i0 i1 (fun x hx => by simp at hx; omega) y0 y1 (tens_later hT HB.out))
  clear i0 i1 a0 a1 b0 b1 y0 y1 hT
  go_enter Tryd.func41, Tryd.ntmps41
  go_wp2_with fail
  refine (HL.out).mono ?_
  rintro e w' ⟨rfl, hb⟩
  go_wp2
  go_ret
  exact ⟨rfl, HB.out.trans (hb.mono HB.out.size)⟩
theorem x_one (kd i a b y : Int) (hF : Fits (kd, i, a, b, y)) (w : World) (hT : Tens w) : Calls Tryd.prog 28 #[.agg #[.int .i64 kd, .int .i64 i, .int .u64 a, .int .u64 b, .int .u64 y]] w fun e w' => e = .returned (.string (bs (lineL [108, 111, 97, 100] i [] y))) ∧ Below w.heap.size w w' := by
  obtain ⟨⟨i0, i1⟩, ⟨a0, a1⟩, ⟨b0, b1⟩, y0, y1⟩ := hF
  simp only at i0 i1 a0 a1 b0 b1 y0 y1
  have HB := Lib.hid (show Below w.heap.size w (w.alloc (.cells #[.int .i64 kd, .int .i64 i, .int .u64 a, .int .u64 b, .int .u64 y] 33)) from (Below.refl _ _).alloc (Nat.le_refl _) _)
  have HL := Lib.hid (line_any [108, 111, 97, 100] none [] 0 0 kd i a b y _ Row.none_ rfl (by decide) (by decide) i0 i1 (by simp) y0 y1 (tens_later hT HB.out))
  clear i0 i1 a0 a1 b0 b1 y0 y1 hT
  go_enter Tryd.func28, Tryd.ntmps28
  go_wp2_with fail
  refine (HL.out).mono ?_
  rintro e w' ⟨rfl, hb⟩
  go_wp2
  go_ret
  exact ⟨rfl, HB.out.trans (hb.mono HB.out.size)⟩
theorem x_zero (kd i a b y : Int) (_ : Fits (kd, i, a, b, y)) (w : World) (_ : Tens w) : Calls Tryd.prog 24 #[.agg #[.int .i64 kd, .int .i64 i, .int .u64 a, .int .u64 b, .int .u64 y]] w fun e w' => e = .returned (.string (bs [110, 111, 110, 101])) ∧ Below w.heap.size w w' := by
  go_enter Tryd.func24, Tryd.ntmps24
  go_wp2
  go_ret
  exact ⟨rfl, (Below.refl _ _).alloc (Nat.le_refl _) _⟩

theorem Text_one (i a b y : Int)  (hF : Fits (1, i, a, b, y)) (w : World) (hT : Tens w) : Calls Tryd.prog 15 #[.agg #[.int .i64 1, .int .i64 i, .int .u64 a, .int .u64 b, .int .u64 y]] w fun e w' => e = .returned (.string (bs (lineL [108, 111, 97, 100] i [] y))) ∧ Below w.heap.size w w' := by
  obtain ⟨c0, c1, c2, c3, c4⟩ := box5 w (.int .i64 1) (.int .i64 i) (.int .u64 a) (.int .u64 b) (.int .u64 y) 33
  have C0 := fun p : After (w.alloc (.cells #[.int .i64 1, .int .i64 i, .int .u64 a, .int .u64 b, .int .u64 y] 33)) => p.cell c0
  have C1 := fun p : After (w.alloc (.cells #[.int .i64 1, .int .i64 i, .int .u64 a, .int .u64 b, .int .u64 y] 33)) => p.cell c1
  have C2 := fun p : After (w.alloc (.cells #[.int .i64 1, .int .i64 i, .int .u64 a, .int .u64 b, .int .u64 y] 33)) => p.cell c2
  have C3 := fun p : After (w.alloc (.cells #[.int .i64 1, .int .i64 i, .int .u64 a, .int .u64 b, .int .u64 y] 33)) => p.cell c3
  have C4 := fun p : After (w.alloc (.cells #[.int .i64 1, .int .i64 i, .int .u64 a, .int .u64 b, .int .u64 y] 33)) => p.cell c4
  clear c0 c1 c2 c3 c4
  have HT := Lib.hid (tens_later hT ((Below.refl _ _).alloc (Nat.le_refl _) (.cells #[.int .i64 1, .int .i64 i, .int .u64 a, .int .u64 b, .int .u64 y] 33)))
  have HZ := Lib.hid (x_one 1 i a b y hF)
  have hfd : ∀ W : World, (Instr.field 49 (.agg #[.func (.func 25) #[] #[], .func (.func 27) #[] #[], .func (.func 28) #[] #[]]) 2).run Tryd.prog W = .ok (.func (.func 28) #[] #[]) W := fun _ => by kernel_rfl
  have HO := Lib.hid (of_one  i a b y)
  clear hT hF
  try clear hk
  go_enter Tryd.func15, Tryd.ntmps15
  go_wp2
  refine wp_region_after mixed (by kernel_rfl) ?_
  repeat (first | go_big_quiet_step ((first | (with_reducible exact calls_after (HO.out _)) | exact calls_after (HZ.out _ (tens_later HT.out (After.ok _))))) | quiet_step ((first | (with_reducible exact calls_after (HO.out _)) | exact calls_after (HZ.out _ (tens_later HT.out (After.ok _))))))
  refine wpQuiet_nil ?_
  intro _ hw'
  obtain ⟨pq, hw''⟩ := hw'
  subst hw''
  go_wp2
  go_ret
  exact ⟨rfl, below_past (pq.ok.mono (by simp))⟩
theorem Text_two (i a b y : Int)  (hF : Fits (2, i, a, b, y)) (w : World) (hT : Tens w) : Calls Tryd.prog 15 #[.agg #[.int .i64 2, .int .i64 i, .int .u64 a, .int .u64 b, .int .u64 y]] w fun e w' => e = .returned (.string (bs (lineL [115, 116, 111, 114, 101] i [a] y))) ∧ Below w.heap.size w w' := by
  obtain ⟨c0, c1, c2, c3, c4⟩ := box5 w (.int .i64 2) (.int .i64 i) (.int .u64 a) (.int .u64 b) (.int .u64 y) 33
  have C0 := fun p : After (w.alloc (.cells #[.int .i64 2, .int .i64 i, .int .u64 a, .int .u64 b, .int .u64 y] 33)) => p.cell c0
  have C1 := fun p : After (w.alloc (.cells #[.int .i64 2, .int .i64 i, .int .u64 a, .int .u64 b, .int .u64 y] 33)) => p.cell c1
  have C2 := fun p : After (w.alloc (.cells #[.int .i64 2, .int .i64 i, .int .u64 a, .int .u64 b, .int .u64 y] 33)) => p.cell c2
  have C3 := fun p : After (w.alloc (.cells #[.int .i64 2, .int .i64 i, .int .u64 a, .int .u64 b, .int .u64 y] 33)) => p.cell c3
  have C4 := fun p : After (w.alloc (.cells #[.int .i64 2, .int .i64 i, .int .u64 a, .int .u64 b, .int .u64 y] 33)) => p.cell c4
  clear c0 c1 c2 c3 c4
  have HT := Lib.hid (tens_later hT ((Below.refl _ _).alloc (Nat.le_refl _) (.cells #[.int .i64 2, .int .i64 i, .int .u64 a, .int .u64 b, .int .u64 y] 33)))
  have HZ := Lib.hid (x_two 2 i a b y hF)
  have hfd : ∀ W : World, (Instr.field 49 (.agg #[.func (.func 30) #[] #[], .func (.func 32) #[] #[], .func (.func 33) #[] #[]]) 2).run Tryd.prog W = .ok (.func (.func 33) #[] #[]) W := fun _ => by kernel_rfl
  have HO := Lib.hid (of_two  i a b y)
  clear hT hF
  try clear hk
  go_enter Tryd.func15, Tryd.ntmps15
  go_wp2
  refine wp_region_after mixed (by kernel_rfl) ?_
  repeat (first | go_big_quiet_step ((first | (with_reducible exact calls_after (HO.out _)) | exact calls_after (HZ.out _ (tens_later HT.out (After.ok _))))) | quiet_step ((first | (with_reducible exact calls_after (HO.out _)) | exact calls_after (HZ.out _ (tens_later HT.out (After.ok _))))))
  refine wpQuiet_nil ?_
  intro _ hw'
  obtain ⟨pq, hw''⟩ := hw'
  subst hw''
  go_wp2
  go_ret
  exact ⟨rfl, below_past (pq.ok.mono (by simp))⟩
theorem Text_three (i a b y : Int)  (hF : Fits (3, i, a, b, y)) (w : World) (hT : Tens w) : Calls Tryd.prog 15 #[.agg #[.int .i64 3, .int .i64 i, .int .u64 a, .int .u64 b, .int .u64 y]] w fun e w' => e = .returned (.string (bs (lineL [115, 119, 97, 112] i [a, b] y))) ∧ Below w.heap.size w w' := by
  obtain ⟨c0, c1, c2, c3, c4⟩ := box5 w (.int .i64 3) (.int .i64 i) (.int .u64 a) (.int .u64 b) (.int .u64 y) 33
  have C0 := fun p : After (w.alloc (.cells #[.int .i64 3, .int .i64 i, .int .u64 a, .int .u64 b, .int .u64 y] 33)) => p.cell c0
  have C1 := fun p : After (w.alloc (.cells #[.int .i64 3, .int .i64 i, .int .u64 a, .int .u64 b, .int .u64 y] 33)) => p.cell c1
  have C2 := fun p : After (w.alloc (.cells #[.int .i64 3, .int .i64 i, .int .u64 a, .int .u64 b, .int .u64 y] 33)) => p.cell c2
  have C3 := fun p : After (w.alloc (.cells #[.int .i64 3, .int .i64 i, .int .u64 a, .int .u64 b, .int .u64 y] 33)) => p.cell c3
  have C4 := fun p : After (w.alloc (.cells #[.int .i64 3, .int .i64 i, .int .u64 a, .int .u64 b, .int .u64 y] 33)) => p.cell c4
  clear c0 c1 c2 c3 c4
  have HT := Lib.hid (tens_later hT ((Below.refl _ _).alloc (Nat.le_refl _) (.cells #[.int .i64 3, .int .i64 i, .int .u64 a, .int .u64 b, .int .u64 y] 33)))
  have HZ := Lib.hid (x_three 3 i a b y hF)
  have hfd : ∀ W : World, (Instr.field 49 (.agg #[.func (.func 34) #[] #[], .func (.func 36) #[] #[], .func (.func 37) #[] #[]]) 2).run Tryd.prog W = .ok (.func (.func 37) #[] #[]) W := fun _ => by kernel_rfl
  have HO := Lib.hid (of_three  i a b y)
  clear hT hF
  try clear hk
  go_enter Tryd.func15, Tryd.ntmps15
  go_wp2
  refine wp_region_after mixed (by kernel_rfl) ?_
  repeat (first | go_big_quiet_step ((first | (with_reducible exact calls_after (HO.out _)) | exact calls_after (HZ.out _ (tens_later HT.out (After.ok _))))) | quiet_step ((first | (with_reducible exact calls_after (HO.out _)) | exact calls_after (HZ.out _ (tens_later HT.out (After.ok _))))))
  refine wpQuiet_nil ?_
  intro _ hw'
  obtain ⟨pq, hw''⟩ := hw'
  subst hw''
  go_wp2
  go_ret
  exact ⟨rfl, below_past (pq.ok.mono (by simp))⟩
theorem Text_four (i a b y : Int)  (hF : Fits (4, i, a, b, y)) (w : World) (hT : Tens w) : Calls Tryd.prog 15 #[.agg #[.int .i64 4, .int .i64 i, .int .u64 a, .int .u64 b, .int .u64 y]] w fun e w' => e = .returned (.string (bs (lineL [97, 100, 100] i [a] y))) ∧ Below w.heap.size w w' := by
  obtain ⟨c0, c1, c2, c3, c4⟩ := box5 w (.int .i64 4) (.int .i64 i) (.int .u64 a) (.int .u64 b) (.int .u64 y) 33
  have C0 := fun p : After (w.alloc (.cells #[.int .i64 4, .int .i64 i, .int .u64 a, .int .u64 b, .int .u64 y] 33)) => p.cell c0
  have C1 := fun p : After (w.alloc (.cells #[.int .i64 4, .int .i64 i, .int .u64 a, .int .u64 b, .int .u64 y] 33)) => p.cell c1
  have C2 := fun p : After (w.alloc (.cells #[.int .i64 4, .int .i64 i, .int .u64 a, .int .u64 b, .int .u64 y] 33)) => p.cell c2
  have C3 := fun p : After (w.alloc (.cells #[.int .i64 4, .int .i64 i, .int .u64 a, .int .u64 b, .int .u64 y] 33)) => p.cell c3
  have C4 := fun p : After (w.alloc (.cells #[.int .i64 4, .int .i64 i, .int .u64 a, .int .u64 b, .int .u64 y] 33)) => p.cell c4
  clear c0 c1 c2 c3 c4
  have HT := Lib.hid (tens_later hT ((Below.refl _ _).alloc (Nat.le_refl _) (.cells #[.int .i64 4, .int .i64 i, .int .u64 a, .int .u64 b, .int .u64 y] 33)))
  have HZ := Lib.hid (x_four 4 i a b y hF)
  have hfd : ∀ W : World, (Instr.field 49 (.agg #[.func (.func 38) #[] #[], .func (.func 40) #[] #[], .func (.func 41) #[] #[]]) 2).run Tryd.prog W = .ok (.func (.func 41) #[] #[]) W := fun _ => by kernel_rfl
  have HO := Lib.hid (of_four  i a b y)
  clear hT hF
  try clear hk
  go_enter Tryd.func15, Tryd.ntmps15
  go_wp2
  refine wp_region_after mixed (by kernel_rfl) ?_
  repeat (first | go_big_quiet_step ((first | (with_reducible exact calls_after (HO.out _)) | exact calls_after (HZ.out _ (tens_later HT.out (After.ok _))))) | quiet_step ((first | (with_reducible exact calls_after (HO.out _)) | exact calls_after (HZ.out _ (tens_later HT.out (After.ok _))))))
  refine wpQuiet_nil ?_
  intro _ hw'
  obtain ⟨pq, hw''⟩ := hw'
  subst hw''
  go_wp2
  go_ret
  exact ⟨rfl, below_past (pq.ok.mono (by simp))⟩
theorem Text_zero (i a b y : Int)  (hF : Fits (0, i, a, b, y)) (w : World) (hT : Tens w) : Calls Tryd.prog 15 #[.agg #[.int .i64 0, .int .i64 i, .int .u64 a, .int .u64 b, .int .u64 y]] w fun e w' => e = .returned (.string (bs ([110, 111, 110, 101]))) ∧ Below w.heap.size w w' := by
  obtain ⟨c0, c1, c2, c3, c4⟩ := box5 w (.int .i64 0) (.int .i64 i) (.int .u64 a) (.int .u64 b) (.int .u64 y) 33
  have C0 := fun p : After (w.alloc (.cells #[.int .i64 0, .int .i64 i, .int .u64 a, .int .u64 b, .int .u64 y] 33)) => p.cell c0
  have C1 := fun p : After (w.alloc (.cells #[.int .i64 0, .int .i64 i, .int .u64 a, .int .u64 b, .int .u64 y] 33)) => p.cell c1
  have C2 := fun p : After (w.alloc (.cells #[.int .i64 0, .int .i64 i, .int .u64 a, .int .u64 b, .int .u64 y] 33)) => p.cell c2
  have C3 := fun p : After (w.alloc (.cells #[.int .i64 0, .int .i64 i, .int .u64 a, .int .u64 b, .int .u64 y] 33)) => p.cell c3
  have C4 := fun p : After (w.alloc (.cells #[.int .i64 0, .int .i64 i, .int .u64 a, .int .u64 b, .int .u64 y] 33)) => p.cell c4
  clear c0 c1 c2 c3 c4
  have HT := Lib.hid (tens_later hT ((Below.refl _ _).alloc (Nat.le_refl _) (.cells #[.int .i64 0, .int .i64 i, .int .u64 a, .int .u64 b, .int .u64 y] 33)))
  have HZ := Lib.hid (x_zero 0 i a b y hF)
  have hfd : ∀ W : World, (Instr.field 49 (.agg #[.func (.func 22) #[] #[], .func (.func 23) #[] #[], .func (.func 24) #[] #[]]) 2).run Tryd.prog W = .ok (.func (.func 24) #[] #[]) W := fun _ => by kernel_rfl
  have HO := Lib.hid (of_zero  i a b y)
  clear hT hF
  try clear hk
  go_enter Tryd.func15, Tryd.ntmps15
  go_wp2
  refine wp_region_after mixed (by kernel_rfl) ?_
  repeat (first | go_big_quiet_step ((first | (with_reducible exact calls_after (HO.out _)) | exact calls_after (HZ.out _ (tens_later HT.out (After.ok _))))) | quiet_step ((first | (with_reducible exact calls_after (HO.out _)) | exact calls_after (HZ.out _ (tens_later HT.out (After.ok _))))))
  refine wpQuiet_nil ?_
  intro _ hw'
  obtain ⟨pq, hw''⟩ := hw'
  subst hw''
  go_wp2
  go_ret
  exact ⟨rfl, below_past (pq.ok.mono (by simp))⟩
theorem Text_low (i a b y : Int) (kd : Int) (hk : kd < 0) (hF : Fits (kd, i, a, b, y)) (w : World) (hT : Tens w) : Calls Tryd.prog 15 #[.agg #[.int .i64 kd, .int .i64 i, .int .u64 a, .int .u64 b, .int .u64 y]] w fun e w' => e = .returned (.string (bs ([110, 111, 110, 101]))) ∧ Below w.heap.size w w' := by
  obtain ⟨c0, c1, c2, c3, c4⟩ := box5 w (.int .i64 kd) (.int .i64 i) (.int .u64 a) (.int .u64 b) (.int .u64 y) 33
  have C0 := fun p : After (w.alloc (.cells #[.int .i64 kd, .int .i64 i, .int .u64 a, .int .u64 b, .int .u64 y] 33)) => p.cell c0
  have C1 := fun p : After (w.alloc (.cells #[.int .i64 kd, .int .i64 i, .int .u64 a, .int .u64 b, .int .u64 y] 33)) => p.cell c1
  have C2 := fun p : After (w.alloc (.cells #[.int .i64 kd, .int .i64 i, .int .u64 a, .int .u64 b, .int .u64 y] 33)) => p.cell c2
  have C3 := fun p : After (w.alloc (.cells #[.int .i64 kd, .int .i64 i, .int .u64 a, .int .u64 b, .int .u64 y] 33)) => p.cell c3
  have C4 := fun p : After (w.alloc (.cells #[.int .i64 kd, .int .i64 i, .int .u64 a, .int .u64 b, .int .u64 y] 33)) => p.cell c4
  clear c0 c1 c2 c3 c4
  have HT := Lib.hid (tens_later hT ((Below.refl _ _).alloc (Nat.le_refl _) (.cells #[.int .i64 kd, .int .i64 i, .int .u64 a, .int .u64 b, .int .u64 y] 33)))
  have HZ := Lib.hid (x_zero kd i a b y hF)
  have hfd : ∀ W : World, (Instr.field 49 (.agg #[.func (.func 22) #[] #[], .func (.func 23) #[] #[], .func (.func 24) #[] #[]]) 2).run Tryd.prog W = .ok (.func (.func 24) #[] #[]) W := fun _ => by kernel_rfl
  have HO := Lib.hid (of_low kd hk i a b y)
  clear hT hF
  try clear hk
  go_enter Tryd.func15, Tryd.ntmps15
  go_wp2
  refine wp_region_after mixed (by kernel_rfl) ?_
  repeat (first | go_big_quiet_step ((first | (with_reducible exact calls_after (HO.out _)) | exact calls_after (HZ.out _ (tens_later HT.out (After.ok _))))) | quiet_step ((first | (with_reducible exact calls_after (HO.out _)) | exact calls_after (HZ.out _ (tens_later HT.out (After.ok _))))))
  refine wpQuiet_nil ?_
  intro _ hw'
  obtain ⟨pq, hw''⟩ := hw'
  subst hw''
  go_wp2
  go_ret
  exact ⟨rfl, below_past (pq.ok.mono (by simp))⟩
theorem Text_high (i a b y : Int) (kd : Int) (hk : 5 ≤ kd) (hF : Fits (kd, i, a, b, y)) (w : World) (hT : Tens w) : Calls Tryd.prog 15 #[.agg #[.int .i64 kd, .int .i64 i, .int .u64 a, .int .u64 b, .int .u64 y]] w fun e w' => e = .returned (.string (bs ([110, 111, 110, 101]))) ∧ Below w.heap.size w w' := by
  obtain ⟨c0, c1, c2, c3, c4⟩ := box5 w (.int .i64 kd) (.int .i64 i) (.int .u64 a) (.int .u64 b) (.int .u64 y) 33
  have C0 := fun p : After (w.alloc (.cells #[.int .i64 kd, .int .i64 i, .int .u64 a, .int .u64 b, .int .u64 y] 33)) => p.cell c0
  have C1 := fun p : After (w.alloc (.cells #[.int .i64 kd, .int .i64 i, .int .u64 a, .int .u64 b, .int .u64 y] 33)) => p.cell c1
  have C2 := fun p : After (w.alloc (.cells #[.int .i64 kd, .int .i64 i, .int .u64 a, .int .u64 b, .int .u64 y] 33)) => p.cell c2
  have C3 := fun p : After (w.alloc (.cells #[.int .i64 kd, .int .i64 i, .int .u64 a, .int .u64 b, .int .u64 y] 33)) => p.cell c3
  have C4 := fun p : After (w.alloc (.cells #[.int .i64 kd, .int .i64 i, .int .u64 a, .int .u64 b, .int .u64 y] 33)) => p.cell c4
  clear c0 c1 c2 c3 c4
  have HT := Lib.hid (tens_later hT ((Below.refl _ _).alloc (Nat.le_refl _) (.cells #[.int .i64 kd, .int .i64 i, .int .u64 a, .int .u64 b, .int .u64 y] 33)))
  have HZ := Lib.hid (x_zero kd i a b y hF)
  have hfd : ∀ W : World, (Instr.field 49 (.agg #[.func (.func 22) #[] #[], .func (.func 23) #[] #[], .func (.func 24) #[] #[]]) 2).run Tryd.prog W = .ok (.func (.func 24) #[] #[]) W := fun _ => by kernel_rfl
  have HO := Lib.hid (of_high kd hk i a b y)
  clear hT hF
  try clear hk
  go_enter Tryd.func15, Tryd.ntmps15
  go_wp2
  refine wp_region_after mixed (by kernel_rfl) ?_
  repeat (first | go_big_quiet_step ((first | (with_reducible exact calls_after (HO.out _)) | exact calls_after (HZ.out _ (tens_later HT.out (After.ok _))))) | quiet_step ((first | (with_reducible exact calls_after (HO.out _)) | exact calls_after (HZ.out _ (tens_later HT.out (After.ok _))))))
  refine wpQuiet_nil ?_
  intro _ hw'
  obtain ⟨pq, hw''⟩ := hw'
  subst hw''
  go_wp2
  go_ret
  exact ⟨rfl, below_past (pq.ok.mono (by simp))⟩

theorem Text_any (x : D) (hF : Fits x) (w : World) (hT : Tens w) : Calls Tryd.prog 15 #[.agg #[.int .i64 x.1, .int .i64 x.2.1, .int .u64 x.2.2.1, .int .u64 x.2.2.2.1, .int .u64 x.2.2.2.2]] w fun e w' => e = .returned (.string (bs (textI x))) ∧ Below w.heap.size w w' := by
  obtain ⟨kd, i, a, b, y⟩ := x
  simp only
  by_cases hk : 1 ≤ kd ∧ kd ≤ 4
  · rcases (show kd = 1 ∨ kd = 2 ∨ kd = 3 ∨ kd = 4 by omega) with rfl | rfl | rfl | rfl
    · rw [textI_1]; exact Text_one i a b y hF w hT
    · rw [textI_2]; exact Text_two i a b y hF w hT
    · rw [textI_3]; exact Text_three i a b y hF w hT
    · rw [textI_4]; exact Text_four i a b y hF w hT
  · rw [textI_no (x := (kd, i, a, b, y)) hk]
    rcases (show kd < 0 ∨ kd = 0 ∨ 5 ≤ kd by omega) with h0 | rfl | h5
    · exact Text_low i a b y kd h0 hF w hT
    · exact Text_zero i a b y hF w hT
    · exact Text_high i a b y kd h5 hF w hT
end Go.Proofs.YtghinmjebkpjhaaDoor.DeedText
