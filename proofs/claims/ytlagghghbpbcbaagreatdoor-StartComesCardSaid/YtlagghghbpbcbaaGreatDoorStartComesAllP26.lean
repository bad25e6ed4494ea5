import Derived.Test.YtlagghghbpbcbaaGreatDoorStartComesAllP1
import Derived.Test.YtlagghghbpbcbaaGreatDoorStartComesAllP20
import Derived.Test.YtlagghghbpbcbaaGreatDoorStartComesAllP22
import Derived.Test.YtlagghghbpbcbaaGreatDoorStartComesAllP24
import Derived.RegionTactic
import Derived.Deep.RegionWith
/- Package settle (layer 23), held to plain arithmetic: what a settler asks for, what it tells at its end; a new one; all else in memory stays as it was. -/
namespace Go.Proofs.YtlagghghbpbcbaaGreatDoor.Stl
set_option maxRecDepth 20000
open Go.ChangeShapes Go.WideShapes Go.RowKit CM DM PM KM StM Lay Ints Plan Go.Proofs.YtlagghghbpbcbaaGreatDoor.Task
open Go.Proofs.YtlagghghbpbcbaaGreatDoor.Seek (Seeks Seek_any Next_any Tell_any Told ToldD only_set)
set_option linter.unusedVariables false
set_option linter.unusedSimpArgs false

/-- A settler in block p, word by word. -/
def Raw (w : World) (p : Nat) (V : Value) (T N L G r dl sq st ep : Int) (wt : Bool) : Prop := w.heap[p]? = some (.cells #[.int .i64 T, .int .i64 N, .int .i64 L, .int .u64 G, .int .i64 dl, .int .u64 sq, .int .i64 st, V, .int .u64 r, .int .u64 ep, .bool wt] 212 (0, 0))
section
variable {w w' : World} {p : Nat} {V : Value} {T N L G r dl sq st ep : Int} {wt : Bool}
theorem Raw.lt (h : Raw w p V T N L G r dl sq st ep wt) : p < w.heap.size := (Array.getElem?_eq_some_iff.1 h).1
theorem Raw.only {R : Nat → Prop} (h : Raw w p V T N L G r dl sq st ep wt) (ho : Only R w w') (hp : ¬ R p) : Raw w' p V T N L G r dl sq st ep wt := ho.heap h hp
theorem Raw.later (h : Raw w p V T N L G r dl sq st ep wt) (hb : Below w.heap.size w w') : Raw w' p V T N L G r dl sq st ep wt := h.only (only_below (fun _ => False) hb) id
theorem Raw.cells (h : Raw w p V T N L G r dl sq st ep wt) : w.cell? ⟨p, 0, none⟩ = some (.int .i64 T) ∧ w.cell? ⟨p, 1, none⟩ = some (.int .i64 N) ∧ w.cell? ⟨p, 2, none⟩ = some (.int .i64 L) ∧ w.cell? ⟨p, 3, none⟩ = some (.int .u64 G) ∧ w.cell? ⟨p, 4, none⟩ = some (.int .i64 dl) ∧ w.cell? ⟨p, 5, none⟩ = some (.int .u64 sq) ∧
    w.cell? ⟨p, 6, none⟩ = some (.int .i64 st) ∧ w.cell? ⟨p, 7, none⟩ = some V ∧ w.cell? ⟨p, 8, none⟩ = some (.int .u64 r) ∧ w.cell? ⟨p, 9, none⟩ = some (.int .u64 ep) ∧ w.cell? ⟨p, 10, none⟩ = some (.bool wt) := by
  have hc := fun j => (cell_heap h j).1
  exact ⟨hc 0, hc 1, hc 2, hc 3, hc 4, hc 5, hc 6, hc 7, hc 8, hc 9, hc 10⟩
theorem Raw.thawed (h : Raw w p V T N L G r dl sq st ep wt) (j : Nat) : w.frozen? ⟨p, j, none⟩ = false := (cell_heap h j).2
theorem Raw.set_st (h : Raw w p V T N L G r dl sq st ep wt) (v : Int) : Raw (w.setCell ⟨p, 6, none⟩ (.int .i64 v)) p V T N L G r dl sq v ep wt := set_heap (j := 6) h (.int .i64 v)
theorem Raw.set_sk (h : Raw w p V T N L G r dl sq st ep wt) (v : Value) : Raw (w.setCell ⟨p, 7, none⟩ v) p v T N L G r dl sq st ep wt := set_heap (j := 7) h v
theorem Raw.set_ep (h : Raw w p V T N L G r dl sq st ep wt) (v : Int) : Raw (w.setCell ⟨p, 9, none⟩ (.int .u64 v)) p V T N L G r dl sq st v wt := set_heap (j := 9) h (.int .u64 v)
theorem Raw.set_wt (h : Raw w p V T N L G r dl sq st ep wt) (v : Bool) : Raw (w.setCell ⟨p, 10, none⟩ (.bool v)) p V T N L G r dl sq st ep v := set_heap (j := 10) h (.bool v)
theorem Raw.drew (h : Raw w p V T N L G r dl sq st ep wt) : Raw w.drew p V T N L G r dl sq st ep wt := h
end
theorem seeks_only {w w' : World} {q k : Nat} {S R : Nat → Prop} {T N L G dl sq : Int} {s : KM.St} (h : Seeks w q S T N L G dl sq k s) (ho : Only R w w') (hR : ∀ j, S j → ¬ R j) : Seeks w' q S T N L G dl sq k s := by
  obtain ⟨h1, h2, A1, c1, A2, c2, h3⟩ := h
  exact ⟨h1, h2, A1, c1, A2, c2, h3.only ho hR⟩
/-- A settler in block p, all of whose own blocks are of S, told k words at most. -/
def Settles (w : World) (p : Nat) (S : Nat → Prop) (T N L G r dl sq : Int) (k : Nat) (s : StM.St) : Prop :=
  StM.Ok L k s ∧ (L ≤ 9223372036854775807 ∧ Word r) ∧ S p ∧ (∀ j, S j → j < w.heap.size) ∧ ∃ V, Raw w p V T N L G r dl sq s.st s.ep s.wt ∧ (s.st = 2 → ∃ q Q, V = .pointer (some ⟨q, 0, none⟩) ∧ Seeks w q Q T N L G dl sq k s.sk ∧ ∀ j, Q j → S j ∧ j ≠ p)
theorem Settles.only {w w' : World} {p k : Nat} {S R : Nat → Prop} {T N L G r dl sq : Int} {s : StM.St} (h : Settles w p S T N L G r dl sq k s) (ho : Only R w w') (hR : ∀ j, S j → ¬ R j) : Settles w' p S T N L G r dl sq k s := by
  obtain ⟨h1, h2, h3, h4, V, k1, k2⟩ := h
  exact ⟨h1, h2, h3, fun j hj => Nat.lt_of_lt_of_le (h4 j hj) ho.size, V, k1.only ho (hR p h3), fun e => by
    obtain ⟨q, Q, e1, e2, e3⟩ := k2 e
    exact ⟨q, Q, e1, seeks_only e2 ho (fun j hj => hR j (e3 j hj).1), e3⟩⟩
theorem Settles.later {w w' : World} {p k : Nat} {S : Nat → Prop} {T N L G r dl sq : Int} {s : StM.St} (h : Settles w p S T N L G r dl sq k s) (hb : Below w.heap.size w w') : Settles w' p S T N L G r dl sq k s := h.only (only_below (fun _ => False) hb) (fun _ _ => id)
theorem Settles.up {w : World} {p k k' : Nat} {S : Nat → Prop} {T N L G r dl sq : Int} {s : StM.St} (h : Settles w p S T N L G r dl sq k s) (hk : k ≤ k') : Settles w p S T N L G r dl sq k' s := by
  obtain ⟨h1, h2, h3, h4, V, k1, k2⟩ := h
  exact ⟨h1.up hk, h2, h3, h4, V, k1, fun e => by
    obtain ⟨q, Q, e1, e2, e3⟩ := k2 e
    exact ⟨q, Q, e1, ⟨e2.1.up hk, e2.2⟩, e3⟩⟩

theorem next_0 {w : World} {p : Nat} {V : Value} {T N L G r dl sq ep : Int} {wt : Bool} (h : Raw w p V T N L G r dl sq 0 ep wt) : Calls Tryz.prog 217 #[.pointer (some ⟨p, 0, none⟩)] w (Seek.Told w none) := by
  have K6 := fun o => cell_later (box_below w o) h.cells.2.2.2.2.2.2.1
  have HB := Lib.hid (box_below w)
  clear h
  go_enter Tryz.func217, Tryz.ntmps217
  go_wp2
  exact bodyPost_ret (v := .tuple #[.agg #[.int .i64 0, .int .i64 0, .int .u64 0, .int .u64 0, .int .u64 0], .bool false]) (by simp [results, Tryz.results217, go_sem]) rfl ⟨rfl, HB.out _⟩
theorem next_3 {w : World} {p : Nat} {V : Value} {T N L G r dl sq ep : Int} {wt : Bool} (h : Raw w p V T N L G r dl sq 3 ep wt) : Calls Tryz.prog 217 #[.pointer (some ⟨p, 0, none⟩)] w (Seek.Told w (some (1, 0, 0, 0, 0))) := by
  have K6 := fun o => cell_later (box_below w o) h.cells.2.2.2.2.2.2.1
  have HB := Lib.hid (box_below w)
  clear h
  go_enter Tryz.func217, Tryz.ntmps217
  go_wp2
  exact bodyPost_ret (v := .tuple #[.agg #[.int .i64 1, .int .i64 0, .int .u64 0, .int .u64 0, .int .u64 0], .bool true]) (by simp [results, Tryz.results217, go_sem]) rfl ⟨rfl, HB.out _⟩
theorem next_2 {w : World} {p : Nat} {V : Value} {T N L G r dl sq ep : Int} {wt : Bool} {q k : Nat} {S : Nat → Prop} {s : KM.St} (h : Raw w p (.pointer (some ⟨q, 0, none⟩)) T N L G r dl sq 2 ep wt) (hs : Seeks w q S T N L G dl sq k s) : Calls Tryz.prog 217 #[.pointer (some ⟨p, 0, none⟩)] w (Seek.Told w (seekA T L s)) := by
  have h1 := h.later (box_below w (.cells #[.int .i64 0, .int .i64 0, .int .u64 0, .int .u64 0, .int .u64 0] 63))
  obtain ⟨-, -, -, -, -, -, e6, e7, -⟩ := h1.cells
  have HN := Lib.hid (Next_any (seeks_only hs (only_below (fun _ => False) (box_below w (.cells #[.int .i64 0, .int .i64 0, .int .u64 0, .int .u64 0, .int .u64 0] 63))) (fun _ _ => id)))
  unfold Seek.Told at HN ⊢
  generalize (seekA T L s).isSome = bo at HN ⊢
  generalize (seekA T L s).getD (0, 0, 0, 0, 0) = d at HN ⊢
  clear h h1 hs
  go_enter Tryz.func217, Tryz.ntmps217
  go_wp2_with fail
  refine HN.out.mono ?_
  rintro e w1 ⟨rfl, hb⟩
  obtain ⟨⟨r0, r1, r2, r3, r4⟩, g0, g1, g2, g3, g4⟩ := res5 hb
  obtain ⟨⟨s0, s1, s2, s3, s4⟩, hB⟩ := set5 hb (.int .i64 d.1) (.int .i64 d.2.1) (.int .u64 d.2.2.1) (.int .u64 d.2.2.2.1) (.int .u64 d.2.2.2.2)
  have HB := Lib.hid hB
  clear hB hb
  go_wp2
  exact bodyPost_ret (v := .tuple #[.agg #[.int .i64 d.1, .int .i64 d.2.1, .int .u64 d.2.2.1, .int .u64 d.2.2.2.1, .int .u64 d.2.2.2.2], .bool bo]) (by simp [results, Tryz.results217, go_sem, s0, s1, s2, s3, s4]) rfl ⟨rfl, HB.out⟩
theorem next_1 {w : World} {p : Nat} {V : Value} {T N L G r dl sq ep : Int} {wt : Bool} (h : Raw w p V T N L G r dl sq 1 ep wt) (hr : Word r) : Calls Tryz.prog 217 #[.pointer (some ⟨p, 0, none⟩)] w (Seek.Told w (some (4, atI T L (idx r) 4, 18446744073709551615, 0, r))) := by
  obtain ⟨e0, e1, e2, e3, -, -, e6, -, e8, -⟩ := h.cells
  have K6 := fun o => cell_later (box_below w o) e6
  have K8 := fun o => cell_later (box_below w o) e8
  have HK := Lib.hid (show ∀ W, Below w.heap.size w W → W.cell? ⟨p, 0, none⟩ = some (.int .i64 T) ∧ W.cell? ⟨p, 1, none⟩ = some (.int .i64 N) ∧ W.cell? ⟨p, 2, none⟩ = some (.int .i64 L) ∧ W.cell? ⟨p, 3, none⟩ = some (.int .u64 G) from fun W hb => ⟨cell_later hb e0, cell_later hb e1, cell_later hb e2, cell_later hb e3⟩)
  have HI := Lib.hid fun W => Refer.Index_any r hr.1 hr.2 W
  have HN := Lib.hid fun W => Plan.Hold_any T N L G (idx r) W
  have HS := Lib.hid (show Below w.heap.size w (w.alloc (.cells #[.int .i64 0, .int .i64 0, .int .u64 0, .int .u64 0, .int .u64 0] 63)).drew from (box_below w _).drew)
  unfold idx at HN ⊢
  generalize r % 4294967296 / 2 = j at HI HN ⊢
  generalize atI T L j 4 = i at HN ⊢
  clear h hr e0 e1 e2 e3 e6 e8
  go_enter Tryz.func217, Tryz.ntmps217
  go_wp2
  go_region_held3 (fun W => W.cell? ⟨p, 0, none⟩ = some (.int .i64 T) ∧ W.cell? ⟨p, 1, none⟩ = some (.int .i64 N) ∧ W.cell? ⟨p, 2, none⟩ = some (.int .i64 L) ∧ W.cell? ⟨p, 3, none⟩ = some (.int .u64 G))
    ((first | (with_reducible exact HK.out _ HS.out) | (with_reducible assumption) | (with_reducible exact HK.out _ HP2.out) | (with_reducible exact HK.out _ (set5 HB2.out _ _ _ _ _).2)))
    (first
      | (go_at_call 36; refine (HI.out _).mono ?_; rintro e w2 ⟨rfl, rfl⟩)
      | (go_at_call 127; refine (HN.out _).mono ?_; rintro e w2 ⟨rfl, hb⟩; have HB2 := Lib.hid (show Below (w.alloc (.cells #[.int .i64 0, .int .i64 0, .int .u64 0, .int .u64 0, .int .u64 0] 63)).heap.size (w.alloc (.cells #[.int .i64 0, .int .i64 0, .int .u64 0, .int .u64 0, .int .u64 0] 63)) w2 from (Below.refl _ _).drew.trans hb); have HP2 := Lib.hid ((box_below w (.cells #[.int .i64 0, .int .i64 0, .int .u64 0, .int .u64 0, .int .u64 0] 63)).trans (HB2.out.mono (by simp))); obtain ⟨⟨r0, r1, r2, r3, r4⟩, g0, g1, g2, g3, g4⟩ := res5 HB2.out; clear hb))
  obtain ⟨⟨s0, s1, s2, s3, s4⟩, hB⟩ := set5 HB2.out (.int .i64 4) (.int .i64 i) (.int .u64 18446744073709551615) (.int .u64 0) (.int .u64 r)
  have HB := Lib.hid hB
  clear hB r0 r1 r2 r3 r4 g0 g1 g2 g3 g4
  go_wp2
  exact bodyPost_ret (v := .tuple #[.agg #[.int .i64 4, .int .i64 i, .int .u64 18446744073709551615, .int .u64 0, .int .u64 r], .bool true]) (by simp [results, Tryz.results217, go_sem, s0, s1, s2, s3, s4]) rfl ⟨rfl, HB.out⟩
theorem Settle_next {w : World} {p k : Nat} {S : Nat → Prop} {T N L G r dl sq : Int} {s : StM.St} (h : Settles w p S T N L G r dl sq k s) : Calls Tryz.prog 217 #[.pointer (some ⟨p, 0, none⟩)] w (Seek.Told w (settleA T L r s)) := by
  obtain ⟨ho, ⟨-, hr⟩, -, -, V, k1, k2⟩ := h
  obtain ⟨st, sk, ep, wt⟩ := s
  have h0 := ho.st
  simp only at h0 k1 k2
  rcases h0 with rfl | rfl | rfl | rfl
  · rw [settleA_0]; exact next_0 k1
  · rw [settleA_1]; exact next_1 k1 hr
  · rw [settleA_2]
    obtain ⟨q, Q, rfl, g1, -⟩ := k2 rfl
    exact next_2 (V := .bool false) k1 g1
  · rw [settleA_3]; exact next_3 k1
/-- What waits, and since when. -/
theorem Retired_any {w : World} {p k : Nat} {S : Nat → Prop} {T N L G r dl sq : Int} {s : StM.St} (h : Settles w p S T N L G r dl sq k s) : Calls Tryz.prog 163 #[.pointer (some ⟨p, 0, none⟩)] w fun e w' => e = .returned (.tuple #[.agg #[.int .u64 (if s.wt = true then r else 0), .int .u64 (if s.wt = true then s.ep else 0)], .bool s.wt]) ∧ Below w.heap.size w w' := by
  obtain ⟨-, -, -, -, V, h, -⟩ := h
  generalize s.wt = wt at h ⊢
  generalize s.ep = ep at h ⊢
  have K8 := fun o => cell_later (box_below w o) h.cells.2.2.2.2.2.2.2.2.1
  have K9 := fun o => cell_later (box_below w o) h.cells.2.2.2.2.2.2.2.2.2.1
  have K10 := fun o => cell_later (box_below w o) h.cells.2.2.2.2.2.2.2.2.2.2
  obtain ⟨-, -, -, -, -, -, -, -, e8, e9, e10⟩ := h.cells
  have HB := Lib.hid (box_below w)
  clear h
  cases wt with
  | false =>
    rw [if_neg (by simp), if_neg (by simp)]
    go_enter Tryz.func163, Tryz.ntmps163
    go_wp2
    exact bodyPost_ret (v := .tuple #[.agg #[.int .u64 0, .int .u64 0], .bool false]) (by simp [results, Tryz.results163, go_sem]) rfl ⟨rfl, HB.out _⟩
  | true =>
    rw [if_pos rfl, if_pos rfl]
    go_enter Tryz.func163, Tryz.ntmps163
    go_wp2
    exact bodyPost_ret (v := .tuple #[.agg #[.int .u64 r, .int .u64 ep], .bool true]) (by simp [results, Tryz.results163, go_sem]) rfl ⟨rfl, HB.out _⟩
theorem Settle_any (T N L G r dl sq : Int) (hL : L ≤ 9223372036854775807) (hr : Word r) (w : World) : Calls Tryz.prog 158 #[.agg #[.int .i64 T, .int .i64 N, .int .i64 L, .int .u64 G], .int .u64 r, .agg #[.int .i64 dl, .int .u64 sq]] w fun e w' => ∃ p S, e = .returned (.pointer (some ⟨p, 0, none⟩)) ∧ Settles w' p S T N L G r dl sq 0 StM.new ∧ (∀ k, S k → w.heap.size ≤ k ∧ k < w'.heap.size) ∧ Below w.heap.size w w' := by
  have HE := Lib.hid (show Raw (((w.alloc (.cells #[.int .i64 T, .int .i64 N, .int .i64 L, .int .u64 G] 24)).alloc (.cells #[.int .i64 dl, .int .u64 sq] 58)).alloc (.cells #[.int .i64 T, .int .i64 N, .int .i64 L, .int .u64 G, .int .i64 dl, .int .u64 sq, .int .i64 1, .pointer none, .int .u64 r, .int .u64 0, .bool false] 212)) (w.heap.size + 2) (.pointer none) T N L G r dl sq 1 0 false from by
    have h := new_heap ((w.alloc (.cells #[.int .i64 T, .int .i64 N, .int .i64 L, .int .u64 G] 24)).alloc (.cells #[.int .i64 dl, .int .u64 sq] 58)) (.cells #[.int .i64 T, .int .i64 N, .int .i64 L, .int .u64 G, .int .i64 dl, .int .u64 sq, .int .i64 1, .pointer none, .int .u64 r, .int .u64 0, .bool false] 212)
    simp only [World.size_alloc] at h
    exact h)
  have HB := Lib.hid (show ∀ o1 o2 o3, Below w.heap.size w (((w.alloc o1).alloc o2).alloc o3) from fun o1 o2 o3 => (((Below.refl _ _).alloc (Nat.le_refl _) _).alloc (by simp) _).alloc (by simp; omega) _)
  obtain ⟨c_0, c_1, c_2, c_3⟩ := box4 w (.int .i64 T) (.int .i64 N) (.int .i64 L) (.int .u64 G) 24
  have HH := Lib.hid (And.intro hL hr)
  clear hL hr
  go_enter Tryz.func158, Tryz.ntmps158
  go_wp2
  go_ret
  exact ⟨_, fun j => j = w.heap.size + 2, rfl, ⟨new_ok, HH.out, rfl, fun j e => by subst e; simp, .pointer none, HE.out, fun e => (by cases e)⟩, fun k e => by subst e; simp, HB.out _ _ _⟩
end Go.Proofs.YtlagghghbpbcbaaGreatDoor.Stl

/- A settler (package settle, layer 23): what it becomes when it is told what was found. -/
namespace Go.Proofs.YtlagghghbpbcbaaGreatDoor.Stl
set_option maxRecDepth 20000
open Go.ChangeShapes Go.WideShapes Go.RowKit CM DM PM KM StM Lay Ints Plan Go.Proofs.YtlagghghbpbcbaaGreatDoor.Task
open Go.Proofs.YtlagghghbpbcbaaGreatDoor.Seek (Seeks Seek_any Next_any Tell_any Told ToldD only_set)
set_option linter.unusedVariables false
set_option linter.unusedSimpArgs false

/-- Where the seeker stands: amid its steps, or at its end. -/
theorem goOn_more {w : World} {p : Nat} {V : Value} {T N L G r dl sq ep f : Int} {wt : Bool} {q k : Nat} {S : Nat → Prop} {s : KM.St} (h : Raw w p (.pointer (some ⟨q, 0, none⟩)) T N L G r dl sq 2 ep wt) (hs : Seeks w q S T N L G dl sq k s) (h0 : ¬ s.st = 0) : Calls Tryz.prog 219 #[.pointer (some ⟨p, 0, none⟩)] w fun e w' => e = .returned (.tuple #[]) ∧ Below w.heap.size w w' := by
  obtain ⟨-, -, -, -, -, -, -, e7, -⟩ := h.cells
  have HN := Lib.hid (Next_any hs)
  have hx : ∃ d, seekA T L s = some d := by
    cases e : seekA T L s with
    | none => exact absurd ((seekA_none hs.1).1 e) h0
    | some d => exact ⟨d, rfl⟩
  obtain ⟨d, hd⟩ := hx
  rw [hd] at HN
  clear h hs h0 hd
  go_enter Tryz.func219, Tryz.ntmps219
  go_wp2_with fail
  refine HN.out.mono ?_
  rintro e w1 ⟨rfl, b1⟩
  simp only [Option.getD_some, Option.isSome_some]
  have HB := Lib.hid b1
  have HO := Lib.hid (box_below w1)
  clear b1
  go_wp2
  refine bodyPost_end (results_none rfl _ _ _) rfl ?_
  exact ⟨rfl, HB.out.trans ((HO.out _).mono HB.out.size)⟩
theorem goOn_done {w : World} {p : Nat} {V : Value} {T N L G r dl sq ep f : Int} {wt : Bool} {q k : Nat} {S : Nat → Prop} {s : KM.St} (h : Raw w p (.pointer (some ⟨q, 0, none⟩)) T N L G r dl sq 2 ep wt) (hs : Seeks w q S T N L G dl sq k s) (h0 : s.st = 0) : Calls Tryz.prog 219 #[.pointer (some ⟨p, 0, none⟩)] w fun e w' => e = .returned (.tuple #[]) ∧ Raw w' p (.pointer (some ⟨q, 0, none⟩)) T N L G r dl sq 3 ep wt ∧ Only (fun j => j = p) w w' := by
  have HX := Lib.hid h
  obtain ⟨-, -, -, -, -, -, -, e7, -⟩ := h.cells
  have HN := Lib.hid (Next_any hs)
  rw [(seekA_none hs.1).2 h0] at HN
  clear h hs h0
  go_enter Tryz.func219, Tryz.ntmps219
  go_wp2_with fail
  refine HN.out.mono ?_
  rintro e w1 ⟨rfl, b1⟩
  simp only [Option.getD_none, Option.isSome_none]
  have HB := Lib.hid (b1.trans ((box_below w1 (.cells #[.int .i64 0, .int .i64 0, .int .u64 0, .int .u64 0, .int .u64 0] 63)).mono b1.size))
  have h9 := HX.out.later HB.out
  have t6 := h9.thawed 6
  obtain ⟨-, -, -, -, -, -, a6, -⟩ := h9.cells
  have HE := Lib.hid (And.intro (h9.set_st 3) ((only_below (fun j => j = p) HB.out).trans (only_set _ p 6 (.int .i64 3))))
  clear b1 h9
  go_wp2
  refine bodyPost_end (results_none rfl _ _ _) rfl ?_
  exact ⟨rfl, HE.out⟩
/-- Either way. -/
theorem goOn_any {w : World} {p : Nat} {V : Value} {T N L G r dl sq ep f : Int} {wt : Bool} {q k : Nat} {S : Nat → Prop} {s : KM.St} (h : Raw w p (.pointer (some ⟨q, 0, none⟩)) T N L G r dl sq 2 ep wt) (hs : Seeks w q S T N L G dl sq k s) : Calls Tryz.prog 219 #[.pointer (some ⟨p, 0, none⟩)] w fun e w' => e = .returned (.tuple #[]) ∧ Raw w' p (.pointer (some ⟨q, 0, none⟩)) T N L G r dl sq (goOn s ep wt).st ep wt ∧ Only (fun j => j = p) w w' := by
  by_cases h0 : s.st = 0
  · rw [StM.goOn_done h0]
    exact goOn_done (V := .bool false) (f := 0) h hs h0
  · rw [StM.goOn_more h0]
    refine (goOn_more (V := .bool false) (f := 0) h hs h0).mono ?_
    rintro e w' ⟨rfl, hb⟩
    exact ⟨rfl, h.later hb, only_below _ hb⟩
theorem tell_0 {w : World} {p : Nat} {V : Value} {T N L G r dl sq ep f : Int} {wt : Bool} (h : Raw w p V T N L G r dl sq 0 ep wt) : Calls Tryz.prog 218 #[.pointer (some ⟨p, 0, none⟩), .int .u64 f] w fun e w' => e = .returned (.tuple #[]) ∧ w = w' := by
  obtain ⟨-, -, -, -, -, -, e6, -⟩ := h.cells
  clear h
  go_enter Tryz.func218, Tryz.ntmps218
  go_wp2
  exact bodyPost_end (results_none rfl _ _ _) rfl ⟨rfl, rfl⟩
theorem tell_3 {w : World} {p : Nat} {V : Value} {T N L G r dl sq ep f : Int} {wt : Bool} (h : Raw w p V T N L G r dl sq 3 ep wt) : Calls Tryz.prog 218 #[.pointer (some ⟨p, 0, none⟩), .int .u64 f] w fun e w' => e = .returned (.tuple #[]) ∧ Raw w' p V T N L G r dl sq 0 f true ∧ Only (fun j => j = p) w w' := by
  obtain ⟨-, -, -, -, -, -, e6, -, -, e9, e10⟩ := h.cells
  have t6 := h.thawed 6
  have t9 := (h.set_st 0).thawed 9
  have t10 := ((h.set_st 0).set_ep f).thawed 10
  have HE := Lib.hid (And.intro (((h.set_st 0).set_ep f).set_wt true) (((only_set w p 6 (.int .i64 0)).trans (only_set _ p 9 (.int .u64 f))).trans (only_set _ p 10 (.bool true))))
  clear h
  go_enter Tryz.func218, Tryz.ntmps218
  go_wp2
  exact bodyPost_end (results_none rfl _ _ _) rfl ⟨rfl, HE.out⟩
theorem tell_1n {w : World} {p : Nat} {V : Value} {T N L G r dl sq ep f : Int} {wt : Bool} (h : Raw w p V T N L G r dl sq 1 ep wt) (h0 : ¬ f = 1) : Calls Tryz.prog 218 #[.pointer (some ⟨p, 0, none⟩), .int .u64 f] w fun e w' => e = .returned (.tuple #[]) ∧ Raw w' p V T N L G r dl sq 0 ep wt ∧ Only (fun j => j = p) w w' := by
  obtain ⟨-, -, -, -, -, -, e6, -⟩ := h.cells
  have t6 := h.thawed 6
  have HE := Lib.hid (And.intro (h.set_st 0) (only_set w p 6 (.int .i64 0)))
  have hq : (f == 1) = false := by simpa using h0
  clear h
  go_enter Tryz.func218, Tryz.ntmps218
  go_wp2
  exact bodyPost_end (results_none rfl _ _ _) rfl ⟨rfl, HE.out⟩
/-- What a settler that seeks becomes. -/
def Kept (w : World) (p : Nat) (Q : Nat → Prop) (T N L G r dl sq ep : Int) (wt : Bool) (k : Nat) (s : KM.St) (e : Ending) (w' : World) : Prop :=
  e = .returned (.tuple #[]) ∧ ∃ q Q', Raw w' p (.pointer (some ⟨q, 0, none⟩)) T N L G r dl sq (goOn s ep wt).st ep wt ∧ Seeks w' q Q' T N L G dl sq k s ∧ (∀ j, Q' j → Q j ∨ (w.heap.size ≤ j ∧ j < w'.heap.size)) ∧ (∀ j, Q' j → j ≠ p) ∧ Only (fun j => j = p ∨ Q j) w w'
theorem tell_2 {w : World} {p : Nat} {V : Value} {T N L G r dl sq ep f : Int} {wt : Bool} {q k : Nat} {Q : Nat → Prop} {s : KM.St} (h : Raw w p (.pointer (some ⟨q, 0, none⟩)) T N L G r dl sq 2 ep wt) (hs : Seeks w q Q T N L G dl sq k s) (hQ : ∀ j, Q j → j ≠ p) (hk : k + 1 ≤ 1000000) (hf : Word f) : Calls Tryz.prog 218 #[.pointer (some ⟨p, 0, none⟩), .int .u64 f] w (Kept w p Q T N L G r dl sq ep wt (k + 1) (seekT L dl sq s f)) := by
  obtain ⟨-, -, -, -, -, -, e6, e7, -⟩ := h.cells
  have HX := Lib.hid h
  have HQ := Lib.hid hQ
  have hp := h.lt
  have HT := Lib.hid (Tell_any hs (by omega) hf)
  generalize seekT L dl sq s f = s1 at HT ⊢
  clear h hs hQ hf
  go_enter Tryz.func218, Tryz.ntmps218
  go_wp2_with fail
  refine HT.out.mono ?_
  rintro e w1 ⟨rfl, Q1, h1, o1, k1⟩
  have hX1 := HX.out.only o1 (fun e => HQ.out p e rfl)
  have hq1 : ∀ j, Q1 j → j ≠ p := fun j e => (k1 j e).elim (HQ.out j) (fun e => by omega)
  have HO1 := Lib.hid (And.intro (o1.wide (R' := fun j => j = p ∨ Q j) fun j e => .inl (.inr e)) (And.intro k1 (And.intro h1 hq1)))
  have HGO := Lib.hid (goOn_any (V := .bool false) (f := 0) hX1 h1)
  obtain ⟨-, -, -, -, -, -, -, a7, -⟩ := hX1.cells
  clear h1 o1 k1 hX1 hq1
  go_wp2_with fail
  refine HGO.out.mono ?_
  rintro e w2 ⟨rfl, g1, g2⟩
  have HE := Lib.hid (show Kept w p Q T N L G r dl sq ep wt (k + 1) s1 (.returned (.tuple #[])) w2 from
    ⟨rfl, q, Q1, g1, seeks_only HO1.out.2.2.1 g2 (fun j e => HO1.out.2.2.2 j e), fun j e => (HO1.out.2.1 j e).imp id fun z => ⟨z.1, Nat.lt_of_lt_of_le z.2 g2.size⟩, HO1.out.2.2.2, HO1.out.1.trans (g2.wide fun j e => .inl (.inl e))⟩)
  clear g1 g2
  go_wp2
  exact bodyPost_end (results_none rfl _ _ _) rfl HE.out
/-- The seeker is made, and stands in the settler's box. -/
theorem made {w w1 : World} {p q : Nat} {S1 : Nat → Prop} {V : Value} {T N L G r dl sq ep : Int} {wt : Bool} (h : Raw w p V T N L G r dl sq 0 ep wt) (hs : Seeks w1 q S1 T N L G dl sq 0 (anew L 0 0)) (hk : ∀ k, S1 k → w.heap.size ≤ k ∧ k < w1.heap.size) (hb : Below w.heap.size w w1) :
    Raw (((w1.setCell ⟨p, 6, none⟩ (.int .i64 2)).setCell ⟨p, 7, none⟩ (.pointer (some ⟨q, 0, none⟩)))) p (.pointer (some ⟨q, 0, none⟩)) T N L G r dl sq 2 ep wt ∧ Seeks (((w1.setCell ⟨p, 6, none⟩ (.int .i64 2)).setCell ⟨p, 7, none⟩ (.pointer (some ⟨q, 0, none⟩)))) q S1 T N L G dl sq 0 (anew L 0 0) ∧ (∀ k, S1 k → k ≠ p) ∧ Only (fun k => k = p) w (((w1.setCell ⟨p, 6, none⟩ (.int .i64 2)).setCell ⟨p, 7, none⟩ (.pointer (some ⟨q, 0, none⟩)))) ∧ ∀ k, S1 k → w.heap.size ≤ k ∧ k < (((w1.setCell ⟨p, 6, none⟩ (.int .i64 2)).setCell ⟨p, 7, none⟩ (.pointer (some ⟨q, 0, none⟩)))).heap.size := by
  have hp := h.lt
  have h1 := h.later hb
  have ho : Only (fun k => k = p) w1 (((w1.setCell ⟨p, 6, none⟩ (.int .i64 2)).setCell ⟨p, 7, none⟩ (.pointer (some ⟨q, 0, none⟩)))) := (only_set w1 p 6 (.int .i64 2)).trans (only_set _ p 7 (.pointer (some ⟨q, 0, none⟩)))
  have hne : ∀ k, S1 k → k ≠ p := fun k z e => by have h2 := (hk k z).1; omega
  exact ⟨(h1.set_st 2).set_sk _, seeks_only hs ho hne, hne, (only_below _ hb).trans ho, fun k z => ⟨(hk k z).1, Nat.lt_of_lt_of_le (hk k z).2 ho.size⟩⟩
theorem tell_1 {w : World} {p : Nat} {V : Value} {T N L G r dl sq ep f : Int} {wt : Bool} (h : Raw w p V T N L G r dl sq 1 ep wt) (hL : L ≤ 9223372036854775807) (h0 : f = 1) : Calls Tryz.prog 218 #[.pointer (some ⟨p, 0, none⟩), .int .u64 f] w (Kept w p (fun _ => False) T N L G r dl sq ep wt 0 (anew L 0 0)) := by
  subst h0
  obtain ⟨e0, e1, e2, e3, e4, e5, e6, -⟩ := h.cells
  have t6 := h.thawed 6
  have HX := Lib.hid (h.set_st 0)
  obtain ⟨c0, c1, c2, c3, c4, c5, -⟩ := HX.out.cells
  have HO0 := Lib.hid (only_set w p 6 (.int .i64 0))
  have HS := Lib.hid fun W => Seek_any T N L G dl sq hL W
  generalize hw0 : w.setCell ⟨p, 6, none⟩ (.int .i64 0) = w0 at HX HO0 c0 c1 c2 c3 c4 c5
  clear h hL
  go_enter Tryz.func218, Tryz.ntmps218
  go_wp2_with fail
  clear hw0 e0 e1 e2 e3 e4 e5 e6 t6
  go_region_with (go_at_call 144; refine (HS.out _).mono ?_; rintro e w1 ⟨q, S1, rfl, s1, k1, b1⟩; have b2 := (Below.refl w0.heap.size w0).drew.trans b1; have h1 := HX.out.later b2; obtain ⟨-, -, -, -, -, -, a6, a7, -⟩ := h1.cells; have u6 := h1.thawed 6; have u7 := (h1.set_st 2).thawed 7; have HE := Lib.hid (made HX.out s1 k1 b2); clear s1 k1 b1 b2 h1)
  all_goals go_wp2_with fail
  all_goals refine (goOn_any (V := .bool false) (f := 0) HE.out.1 HE.out.2.1).mono ?_
  all_goals rintro e w2 ⟨rfl, g1, g2⟩
  all_goals have HF := Lib.hid (show Kept w p (fun _ => False) T N L G r dl sq ep wt 0 (anew L 0 0) (.returned (.tuple #[])) w2 from ⟨rfl, q, S1, g1, seeks_only HE.out.2.1 g2 (fun j e => HE.out.2.2.1 j e), fun j e => .inr ⟨Nat.le_trans HO0.out.size (HE.out.2.2.2.2 j e).1, Nat.lt_of_lt_of_le (HE.out.2.2.2.2 j e).2 g2.size⟩, HE.out.2.2.1, ((HO0.out.trans HE.out.2.2.2.1).trans g2).wide fun j e => .inl (.inl e)⟩)
  all_goals clear g1 g2
  all_goals go_wp2
  all_goals exact bodyPost_end (results_none rfl _ _ _) rfl HF.out
theorem Settle_tell {w : World} {p k : Nat} {S : Nat → Prop} {T N L G r dl sq f : Int} {s : StM.St} (h : Settles w p S T N L G r dl sq k s) (hk : k + 1 ≤ 1000000) (hf : Word f) : Calls Tryz.prog 218 #[.pointer (some ⟨p, 0, none⟩), .int .u64 f] w fun e w' =>
    e = .returned (.tuple #[]) ∧ ∃ S', Settles w' p S' T N L G r dl sq (k + 1) (settleT L dl sq s f) ∧ Only S w w' ∧ ∀ j, S' j → S j ∨ (w.heap.size ≤ j ∧ j < w'.heap.size) := by
  obtain ⟨ho, ⟨hL, hr⟩, hp, hlt, V, k1, k2⟩ := h
  have hok := settleT_ok (dl := dl) (sq := sq) ho hL hf
  have hone : ∀ {w' : World}, Only (fun j => j = p) w w' → Only S w w' := fun z => z.wide fun j e => .inl (e ▸ hp)
  have hpw := k1.lt
  have hlook := ho.look
  obtain ⟨st, sk, ep, wt⟩ := s
  have h0 := ho.st
  simp only at h0 k1 k2 hlook
  -- what a seek leaves
  have hkept : ∀ {w' : World} {e : Ending} {Q : Nat → Prop} {k' : Nat} {s1 : KM.St}, (∀ j, Q j → S j ∧ j ≠ p) → k' ≤ k + 1 → StM.Ok L (k + 1) (goOn s1 ep wt) → Kept w p Q T N L G r dl sq ep wt k' s1 e w' →
      e = .returned (.tuple #[]) ∧ ∃ S', Settles w' p S' T N L G r dl sq (k + 1) (goOn s1 ep wt) ∧ Only S w w' ∧ ∀ j, S' j → S j ∨ (w.heap.size ≤ j ∧ j < w'.heap.size) := fun {w' e Q k' s1} hQ hk' hok' z => by
    obtain ⟨rfl, q, Q', g1, g2, g3, g4, g5⟩ := z
    have hz := g5.size
    have hsk : (goOn s1 ep wt).sk = s1 := rfl
    exact ⟨rfl, fun j => S j ∨ (w.heap.size ≤ j ∧ j < w'.heap.size), ⟨hok', ⟨hL, hr⟩, .inl hp, fun j e => e.elim (fun e => Nat.lt_of_lt_of_le (hlt j e) hz) And.right, _, g1, fun _ => ⟨q, Q', rfl, ⟨g2.1.up hk', g2.2⟩, fun j e => ⟨(g3 j e).imp (fun e => (hQ j e).1) id, g4 j e⟩⟩⟩, g5.wide fun j e => .inl (e.elim (fun e => e ▸ hp) fun e => (hQ j e).1), fun j e => e⟩
  rcases h0 with rfl | rfl | rfl | rfl
  · rw [settleT_0] at hok ⊢
    refine (tell_0 k1).mono ?_
    rintro e w' ⟨rfl, rfl⟩
    exact ⟨rfl, S, ⟨hok, ⟨hL, hr⟩, hp, hlt, V, k1, fun e => (by cases e)⟩, Only.refl _ _, fun j e => .inl e⟩
  · by_cases e1 : f = 1
    · rw [settleT_1 e1] at hok ⊢
      exact (tell_1 k1 hL e1).mono fun e w' z => hkept (fun j e => e.elim) (Nat.zero_le _) hok z
    · rw [settleT_1n e1] at hok ⊢
      refine (tell_1n k1 e1).mono ?_
      rintro e w' ⟨rfl, g1, g2⟩
      exact ⟨rfl, S, ⟨hok, ⟨hL, hr⟩, hp, fun j e => Nat.lt_of_lt_of_le (hlt j e) g2.size, V, g1, fun e => (by cases e)⟩, hone g2, fun j e => .inl e⟩
  · rw [settleT_2] at hok ⊢
    obtain ⟨q, Q, rfl, g1, g2⟩ := k2 rfl
    exact (tell_2 (V := .bool false) k1 g1 (fun j e => (g2 j e).2) hk hf).mono fun e w' z => hkept g2 (Nat.le_refl _) hok z
  · rw [settleT_3] at hok ⊢
    refine (tell_3 k1).mono ?_
    rintro e w' ⟨rfl, g1, g2⟩
    exact ⟨rfl, S, ⟨hok, ⟨hL, hr⟩, hp, fun j e => Nat.lt_of_lt_of_le (hlt j e) g2.size, V, g1, fun e => (by cases e)⟩, hone g2, fun j e => .inl e⟩
end Go.Proofs.YtlagghghbpbcbaaGreatDoor.Stl
