/- A linker (package link, layer 20): what it asks for, and what it becomes when it is told a word; a new one. -/
import Derived.Test.YtjefjkpomohpiaaGreatDoorLinkWalks
namespace Go.Proofs.YtjefjkpomohpiaaGreatDoor.Link
set_option maxRecDepth 20000
open Go.ChangeShapes Go.WideShapes Go.RowKit CM DM PM KM LiM Lay Ints Plan Go.Proofs.YtjefjkpomohpiaaGreatDoor.Task
open Go.Proofs.YtjefjkpomohpiaaGreatDoor.Seek (Seeks Seek_any Next_any Tell_any Preds_any Succs_any only_set)
set_option linter.unusedVariables false
set_option linter.unusedSimpArgs false

/-- A linker in block p, all of whose own blocks are of S, told k words at most. -/
def Links (w : World) (p : Nat) (S : Nat → Prop) (T N L G r dl sq tall : Int) (k : Nat) (s : LiM.St) : Prop :=
  LiM.Ok L tall k s ∧ (1 ≤ L ∧ L ≤ 9223372036854775807 ∧ Word r) ∧ S p ∧ (∀ j, S j → j < w.heap.size) ∧ ∃ q Q A1 c1 A2 c2, Raw w p (.pointer (some ⟨q, 0, none⟩)) (.slice A1 s.ps.length c1) (.slice A2 s.ss.length c2) T N L G r dl sq tall s.st s.lv ∧ Seeks w q Q T N L G dl sq k s.sk ∧ (∀ j, Q j → S j ∧ j ≠ p) ∧
    Row w w.heap.size A1 (flat (encZ .u64) s.ps) ∧ Row w w.heap.size A2 (flat (encZ .u64) s.ss) ∧ (∀ a, A1 = some a → flat (encZ .u64) s.ps ≠ [] → S a.block ∧ a.block ≠ p) ∧ (∀ a, A2 = some a → flat (encZ .u64) s.ss ≠ [] → S a.block ∧ a.block ≠ p)
theorem Links.only {w w' : World} {p k : Nat} {S R : Nat → Prop} {T N L G r dl sq tall : Int} {s : LiM.St} (h : Links w p S T N L G r dl sq tall k s) (ho : Only R w w') (hR : ∀ j, S j → ¬ R j) : Links w' p S T N L G r dl sq tall k s := by
  obtain ⟨h1, h2, h3, h4, q, Q, A1, c1, A2, c2, k1, k2, k3, k4, k5, k6, k7⟩ := h
  exact ⟨h1, h2, h3, fun j hj => Nat.lt_of_lt_of_le (h4 j hj) ho.size, q, Q, A1, c1, A2, c2, k1.only ho (hR p h3), seeks_only k2 ho (fun j hj => hR j (k3 j hj).1), k3, ho.row k4 (fun hn a e => hR _ (k6 a e hn).1), ho.row k5 (fun hn a e => hR _ (k7 a e hn).1), k6, k7⟩
theorem Links.later {w w' : World} {p k : Nat} {S : Nat → Prop} {T N L G r dl sq tall : Int} {s : LiM.St} (h : Links w p S T N L G r dl sq tall k s) (hb : Below w.heap.size w w') : Links w' p S T N L G r dl sq tall k s := h.only (only_below (fun _ => False) hb) (fun _ _ => id)
theorem flat_nil {l : List Int} (h : l = []) : flat (encZ .u64) l = [] := by rw [h]; rfl

theorem next_0 {w : World} {p : Nat} {V0 V1 V2 : Value} {T N L G r dl sq tall lv : Int} (h : Raw w p V0 V1 V2 T N L G r dl sq tall 0 lv) : Calls Tryz.prog 15 #[.pointer (some ⟨p, 0, none⟩)] w (Seek.Told w none) := by
  have K11 := fun o => cell_later (box_below w o) h.cells.2.2.2.2.2.2.2.2.2.2.2.1
  have HB := Lib.hid (box_below w)
  clear h
  go_enter Tryz.func15, Tryz.ntmps15
  go_wp2
  exact bodyPost_ret (v := .tuple #[.agg #[.int .i64 0, .int .i64 0, .int .u64 0, .int .u64 0, .int .u64 0], .bool false]) (by simp [results, Tryz.results15, go_sem]) rfl ⟨rfl, HB.out _⟩
theorem next_1 {w : World} {p : Nat} {V0 V1 V2 : Value} {T N L G r dl sq tall lv : Int} {q k : Nat} {S : Nat → Prop} {s : KM.St} (h : Raw w p (.pointer (some ⟨q, 0, none⟩)) V1 V2 T N L G r dl sq tall 1 lv) (hs : Seeks w q S T N L G dl sq k s) : Calls Tryz.prog 15 #[.pointer (some ⟨p, 0, none⟩)] w (Seek.Told w (seekA T L s)) := by
  have h1 := h.later (box_below w (.cells #[.int .i64 0, .int .i64 0, .int .u64 0, .int .u64 0, .int .u64 0] 46))
  obtain ⟨e0, -, -, -, -, -, -, -, -, -, -, e11, -⟩ := h1.cells
  have HN := Lib.hid (Next_any (seeks_only hs (only_below (fun _ => False) (box_below w (.cells #[.int .i64 0, .int .i64 0, .int .u64 0, .int .u64 0, .int .u64 0] 46))) (fun _ _ => id)))
  unfold Seek.Told at HN ⊢
  generalize (seekA T L s).isSome = bo at HN ⊢
  generalize (seekA T L s).getD (0, 0, 0, 0, 0) = d at HN ⊢
  clear h h1 hs
  go_enter Tryz.func15, Tryz.ntmps15
  go_wp2_with fail
  refine HN.out.mono ?_
  rintro e w1 ⟨rfl, hb⟩
  obtain ⟨⟨r0, r1, r2, r3, r4⟩, g0, g1, g2, g3, g4⟩ := res5 hb
  obtain ⟨⟨s0, s1, s2, s3, s4⟩, hB⟩ := set5 hb (.int .i64 d.1) (.int .i64 d.2.1) (.int .u64 d.2.2.1) (.int .u64 d.2.2.2.1) (.int .u64 d.2.2.2.2)
  have HB := Lib.hid hB
  clear hB hb
  go_wp2
  exact bodyPost_ret (v := .tuple #[.agg #[.int .i64 d.1, .int .i64 d.2.1, .int .u64 d.2.2.1, .int .u64 d.2.2.2.1, .int .u64 d.2.2.2.2], .bool bo]) (by simp [results, Tryz.results15, go_sem, s0, s1, s2, s3, s4]) rfl ⟨rfl, HB.out⟩
theorem next_2 {w : World} {p : Nat} {V0 V1 V2 : Value} {T N L G r dl sq tall lv : Int} {A2 : Option Addr} {n2 c2 g : Nat} {ss : List Int} (h : Raw w p V0 V1 (.slice A2 n2 c2) T N L G r dl sq tall 2 (g : Int)) (hr : Word r) (hR : Row w w.heap.size A2 (flat (encZ .u64) ss)) (hn : n2 = ss.length) (hg : g < n2) : Calls Tryz.prog 15 #[.pointer (some ⟨p, 0, none⟩)] w (Seek.Told w (some (2, nextI T L (idx r) g, ss.getD g 0, 0, r))) := by
  obtain ⟨b0, o0, rfl, hbl, hc0⟩ := int_at hR (show g < ss.length by omega)
  obtain ⟨x, hx⟩ : ∃ x, ss[g]? = some x := ⟨_, List.getElem?_eq_getElem (by omega)⟩
  have q0 := hc0 g x hx
  rw [show ss.getD g 0 = x by rw [List.getD_eq_getElem?_getD, hx]; rfl]
  obtain ⟨-, -, e2, -, -, -, -, e7, -, -, -, e11, e12⟩ := h.cells
  have K11 := fun o => cell_later (box_below w o) e11
  have HK := Lib.hid (show ∀ W, Below w.heap.size w W → W.cell? ⟨p, 2, none⟩ = some (.slice (some ⟨b0, o0, none⟩) n2 c2) ∧ W.cell? ⟨p, 7, none⟩ = some (.int .u64 r) ∧ W.cell? ⟨p, 12, none⟩ = some (.int .i64 (g : Int)) ∧ W.cell? ⟨b0, o0 + g, none⟩ = some (.int .u64 x) from fun W hb => ⟨cell_later hb e2, cell_later hb e7, cell_later hb e12, cell_later hb q0⟩)
  have HW := Lib.hid (show ∀ W, Below w.heap.size w W → Calls Tryz.prog 41 #[.pointer (some ⟨p, 0, none⟩), .int .u64 r, .int .i64 (g : Int)] W fun e w' => e = .returned (.int .i64 (nextI T L (idx r) g)) ∧ Below W.heap.size W w' from fun W hb => wayOn_any (h.later hb) hr g)
  have HS := Lib.hid (show Below w.heap.size w (w.alloc (.cells #[.int .i64 0, .int .i64 0, .int .u64 0, .int .u64 0, .int .u64 0] 46)).drew from (box_below w _).drew)
  have hgn : (g : Int) < (n2 : Int) := by omega
  generalize nextI T L (idx r) g = i at HW ⊢
  clear h hR hx hc0 hr e2 e7 e11 e12 q0 hn
  go_enter Tryz.func15, Tryz.ntmps15
  go_wp2
  go_region_held3 (fun W => W.cell? ⟨p, 2, none⟩ = some (.slice (some ⟨b0, o0, none⟩) n2 c2) ∧ W.cell? ⟨p, 7, none⟩ = some (.int .u64 r) ∧ W.cell? ⟨p, 12, none⟩ = some (.int .i64 (g : Int)) ∧ W.cell? ⟨b0, o0 + g, none⟩ = some (.int .u64 x))
    ((first | (with_reducible exact HK.out _ HS.out) | (with_reducible assumption) | (with_reducible exact HK.out _ HP2.out) | (with_reducible exact HK.out _ (set5 HB2.out _ _ _ _ _).2)))
    ((go_at_call 41; refine (HW.out _ HS.out).mono ?_; rintro e w2 ⟨rfl, hb⟩; have HB2 := Lib.hid (show Below (w.alloc (.cells #[.int .i64 0, .int .i64 0, .int .u64 0, .int .u64 0, .int .u64 0] 46)).heap.size (w.alloc (.cells #[.int .i64 0, .int .i64 0, .int .u64 0, .int .u64 0, .int .u64 0] 46)) w2 from (Below.refl _ _).drew.trans hb); have HP2 := Lib.hid ((box_below w (.cells #[.int .i64 0, .int .i64 0, .int .u64 0, .int .u64 0, .int .u64 0] 46)).trans (HB2.out.mono (by simp))); obtain ⟨⟨r0, r1, r2, r3, r4⟩, g0, g1, g2, g3, g4⟩ := res5 HB2.out; clear hb))
  obtain ⟨⟨s0, s1, s2, s3, s4⟩, hB⟩ := set5 HB2.out (.int .i64 2) (.int .i64 i) (.int .u64 x) (.int .u64 0) (.int .u64 r)
  have HB := Lib.hid hB
  clear hB r0 r1 r2 r3 r4 g0 g1 g2 g3 g4
  go_wp2
  exact bodyPost_ret (v := .tuple #[.agg #[.int .i64 2, .int .i64 i, .int .u64 x, .int .u64 0, .int .u64 r], .bool true]) (by simp [results, Tryz.results15, go_sem, s0, s1, s2, s3, s4]) rfl ⟨rfl, HB.out⟩
theorem next_3 {w : World} {p : Nat} {V0 V1 V2 : Value} {T N L G r dl sq tall lv : Int} {A1 A2 : Option Addr} {n1 c1 n2 c2 : Nat} {ps ss : List Int} (h : Raw w p V0 (.slice A1 n1 c1) (.slice A2 n2 c2) T N L G r dl sq tall 3 lv) (hp : ∀ x ∈ ps, Word x) (hQ : Row w w.heap.size A1 (flat (encZ .u64) ps)) (hR : Row w w.heap.size A2 (flat (encZ .u64) ss)) (hm : n1 = ps.length) (hn : n2 = ss.length) (h1 : 0 < n1) (h2 : 0 < n2) :
    Calls Tryz.prog 15 #[.pointer (some ⟨p, 0, none⟩)] w (Seek.Told w (some (3, nextI T L (idx (ps.getD 0 0)) 0, ss.getD 0 0, r, ps.getD 0 0))) := by
  obtain ⟨b0, o0, rfl, hbl, hc0⟩ := int_at hR (show 0 < ss.length by omega)
  obtain ⟨x, hx⟩ : ∃ x, ss[0]? = some x := ⟨_, List.getElem?_eq_getElem (by omega)⟩
  obtain ⟨b1, o1, rfl, hbl1, hc1⟩ := int_at hQ (show 0 < ps.length by omega)
  obtain ⟨y, hy⟩ : ∃ y, ps[0]? = some y := ⟨_, List.getElem?_eq_getElem (by omega)⟩
  have q0 := hc0 0 x hx
  have q1 := hc1 0 y hy
  rw [Nat.add_zero] at q0 q1
  have hyw := hp y (List.mem_of_getElem? hy)
  rw [show ss.getD 0 0 = x by rw [List.getD_eq_getElem?_getD, hx]; rfl, show ps.getD 0 0 = y by rw [List.getD_eq_getElem?_getD, hy]; rfl]
  obtain ⟨-, e1, e2, -, -, -, -, e7, -, -, -, e11, -⟩ := h.cells
  have K11 := fun o => cell_later (box_below w o) e11
  have K1 := fun o => cell_later (box_below w o) e1
  have Q1 := fun o => cell_later (box_below w o) q1
  have HK := Lib.hid (show ∀ W, Below w.heap.size w W → W.cell? ⟨p, 2, none⟩ = some (.slice (some ⟨b0, o0, none⟩) n2 c2) ∧ W.cell? ⟨p, 7, none⟩ = some (.int .u64 r) ∧ W.cell? ⟨b0, o0, none⟩ = some (.int .u64 x) from fun W hb => ⟨cell_later hb e2, cell_later hb e7, cell_later hb q0⟩)
  have HW := Lib.hid (show ∀ W, Below w.heap.size w W → Calls Tryz.prog 41 #[.pointer (some ⟨p, 0, none⟩), .int .u64 y, .int .i64 0] W fun e w' => e = .returned (.int .i64 (nextI T L (idx y) 0)) ∧ Below W.heap.size W w' from fun W hb => wayOn_any (h.later hb) hyw 0)
  have HS := Lib.hid (show Below w.heap.size w (w.alloc (.cells #[.int .i64 0, .int .i64 0, .int .u64 0, .int .u64 0, .int .u64 0] 46)).drew from (box_below w _).drew)
  have hgn : (0 : Int) < (n2 : Int) := by omega
  have hgm : (0 : Int) < (n1 : Int) := by omega
  generalize nextI T L (idx y) 0 = i at HW ⊢
  clear h hR hQ hx hy hc0 hc1 hp hyw e1 e2 e7 e11 q0 q1 hn hm
  go_enter Tryz.func15, Tryz.ntmps15
  go_wp2
  go_region_held3 (fun W => W.cell? ⟨p, 2, none⟩ = some (.slice (some ⟨b0, o0, none⟩) n2 c2) ∧ W.cell? ⟨p, 7, none⟩ = some (.int .u64 r) ∧ W.cell? ⟨b0, o0, none⟩ = some (.int .u64 x))
    ((first | (with_reducible exact HK.out _ HS.out) | (with_reducible assumption) | (with_reducible exact HK.out _ HP2.out) | (with_reducible exact HK.out _ (set5 HB2.out _ _ _ _ _).2)))
    ((go_at_call 41; refine (HW.out _ HS.out).mono ?_; rintro e w2 ⟨rfl, hb⟩; have HB2 := Lib.hid (show Below (w.alloc (.cells #[.int .i64 0, .int .i64 0, .int .u64 0, .int .u64 0, .int .u64 0] 46)).heap.size (w.alloc (.cells #[.int .i64 0, .int .i64 0, .int .u64 0, .int .u64 0, .int .u64 0] 46)) w2 from (Below.refl _ _).drew.trans hb); have HP2 := Lib.hid ((box_below w (.cells #[.int .i64 0, .int .i64 0, .int .u64 0, .int .u64 0, .int .u64 0] 46)).trans (HB2.out.mono (by simp))); obtain ⟨⟨r0, r1, r2, r3, r4⟩, g0, g1, g2, g3, g4⟩ := res5 HB2.out; clear hb))
  obtain ⟨⟨s0, s1, s2, s3, s4⟩, hB⟩ := set5 HB2.out (.int .i64 3) (.int .i64 i) (.int .u64 x) (.int .u64 r) (.int .u64 y)
  have HB := Lib.hid hB
  clear hB r0 r1 r2 r3 r4 g0 g1 g2 g3 g4
  go_wp2
  exact bodyPost_ret (v := .tuple #[.agg #[.int .i64 3, .int .i64 i, .int .u64 x, .int .u64 r, .int .u64 y], .bool true]) (by simp [results, Tryz.results15, go_sem, s0, s1, s2, s3, s4]) rfl ⟨rfl, HB.out⟩
theorem Link_next {w : World} {p k : Nat} {S : Nat → Prop} {T N L G r dl sq tall : Int} {s : LiM.St} (h : Links w p S T N L G r dl sq tall k s) : Calls Tryz.prog 15 #[.pointer (some ⟨p, 0, none⟩)] w (Seek.Told w (linkA T L r s)) := by
  obtain ⟨ho, ⟨hL1, -, hr⟩, -, -, q, Q, A1, c1, A2, c2, k1, k2, -, k4, k5, -⟩ := h
  obtain ⟨st, lv, sk, ps, ss⟩ := s
  have h0 := ho.st
  simp only at h0 k1 k2 k4 k5
  rcases h0 with rfl | rfl | rfl | rfl
  · rw [linkA_0]; exact next_0 k1
  · rw [linkA_1]; exact next_1 (V0 := .bool false) k1 k2
  · rw [linkA_2]
    obtain ⟨a, b⟩ := ho.lead rfl
    have c := (ho.len (by simp)).2
    have d := ho.lv.1
    simp only at a b c d
    obtain ⟨g, rfl⟩ := Int.eq_ofNat_of_zero_le d
    rw [Int.toNat_natCast]
    exact next_2 (lv := 0) (V2 := .bool false) k1 hr k5 rfl (by omega)
  · rw [linkA_3]
    obtain ⟨a, b⟩ := ho.len (by simp)
    simp only at a b
    exact next_3 (V1 := .bool false) (V2 := .bool false) k1 ho.ps k4 k5 rfl rfl (by omega) (by omega)
end Go.Proofs.YtjefjkpomohpiaaGreatDoor.Link
