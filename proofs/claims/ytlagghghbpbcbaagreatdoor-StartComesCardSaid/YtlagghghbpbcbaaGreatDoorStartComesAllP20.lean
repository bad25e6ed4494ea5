import Derived.Test.YtlagghghbpbcbaaGreatDoorStartComesAllP1
import Derived.Test.YtlagghghbpbcbaaGreatDoorStartComesAllP12
import Derived.Test.YtlagghghbpbcbaaGreatDoorStartComesAllP5
import Derived.Test.YtlagghghbpbcbaaGreatDoorStartComesAllP8
import Derived.Test.YtlagghghbpbcbaaGreatDoorStartComesAllP16
import Derived.Deep.AppendLies
import Derived.Deep.RegionLaw
import Derived.Deep.RegionHeld3
/- Package seek (layer 18), held to plain arithmetic: what a seeker becomes, which blocks are its own; all else in memory stays as it was. -/
namespace Go.Proofs.YtlagghghbpbcbaaGreatDoor.Seek
set_option maxRecDepth 20000
open Go.ChangeShapes Go.WideShapes Go.RowKit CM DM PM KM Lay Ints Plan Go.Proofs.YtlagghghbpbcbaaGreatDoor.Task
set_option linter.unusedVariables false
set_option linter.unusedSimpArgs false

theorem info_u64 : (Tryz.prog.info? 22).map (fun i => (i.zero, i.size, i.bytes)) = some (some (.int .u64 0), 1, 8) := by kernel_rfl
theorem own_block {F : Option Addr} {a fc k : Nat} (h : (Value.slice F a fc).ownBlock = some k) : ∃ x, F = some x ∧ x.block = k := by
  cases F with
  | none => cases h
  | some x => exact ⟨x, rfl, by simpa [Value.ownBlock] using h⟩

/-- A seeker in block p: S are all its blocks; its two rows are in the blocks of A1 and A2. -/
structure Parts (w : World) (p : Nat) (S : Nat → Prop) (T N L G dl sq : Int) (s : St) (A1 : Option Addr) (c1 : Nat) (A2 : Option Addr) (c2 : Nat) : Prop where
  box : w.heap[p]? = some (.cells #[.int .i64 T, .int .i64 N, .int .i64 L, .int .u64 G, .int .i64 dl, .int .u64 sq, .int .i64 s.st, .int .i64 s.lv, .int .u64 s.pr, .int .u64 s.cu, .int .u64 s.nx, .slice A1 s.ps.length c1, .slice A2 s.ss.length c2] 202 (0, 0))
  o1 : w.ownsRow 0 22 1 (.slice A1 s.ps.length c1) s.ps.length (flat (encZ .u64) s.ps)
  o2 : w.ownsRow 0 22 1 (.slice A2 s.ss.length c2) s.ss.length (flat (encZ .u64) s.ss)
  a1 : ∀ a, A1 = some a → S a.block ∧ a.block ≠ p
  a2 : ∀ a, A2 = some a → S a.block ∧ a.block ≠ p
  ap : ∀ a b, A1 = some a → A2 = some b → a.block ≠ b.block
  mem : S p
  lt : ∀ k, S k → k < w.heap.size
/-- So, told k words at most. -/
def Seeks (w : World) (p : Nat) (S : Nat → Prop) (T N L G dl sq : Int) (k : Nat) (s : St) : Prop := Ok k s ∧ L ≤ 9223372036854775807 ∧ ∃ A1 c1 A2 c2, Parts w p S T N L G dl sq s A1 c1 A2 c2

section
variable {w w' : World} {p c1 c2 : Nat} {S R : Nat → Prop} {T N L G dl sq : Int} {s : St} {A1 A2 : Option Addr}
theorem Parts.only (h : Parts w p S T N L G dl sq s A1 c1 A2 c2) (ho : Only R w w') (hR : ∀ k, S k → ¬ R k) : Parts w' p S T N L G dl sq s A1 c1 A2 c2 :=
  ⟨ho.heap h.box (hR p h.mem), ho.own h.o1 (fun k hk e => by obtain ⟨x, hx, rfl⟩ := own_block hk; exact hR _ (h.a1 x hx).1 e), ho.own h.o2 (fun k hk e => by obtain ⟨x, hx, rfl⟩ := own_block hk; exact hR _ (h.a2 x hx).1 e),
    h.a1, h.a2, h.ap, h.mem, fun k hk => Nat.lt_of_lt_of_le (h.lt k hk) ho.size⟩
theorem Parts.later (h : Parts w p S T N L G dl sq s A1 c1 A2 c2) (hb : Below w.heap.size w w') : Parts w' p S T N L G dl sq s A1 c1 A2 c2 := h.only (only_below (fun _ => False) hb) (fun _ _ e => e)
theorem Parts.cells (h : Parts w p S T N L G dl sq s A1 c1 A2 c2) : w.cell? ⟨p, 0, none⟩ = some (.int .i64 T) ∧ w.cell? ⟨p, 1, none⟩ = some (.int .i64 N) ∧ w.cell? ⟨p, 2, none⟩ = some (.int .i64 L) ∧ w.cell? ⟨p, 3, none⟩ = some (.int .u64 G) ∧
    w.cell? ⟨p, 4, none⟩ = some (.int .i64 dl) ∧ w.cell? ⟨p, 5, none⟩ = some (.int .u64 sq) ∧ w.cell? ⟨p, 6, none⟩ = some (.int .i64 s.st) ∧ w.cell? ⟨p, 7, none⟩ = some (.int .i64 s.lv) ∧ w.cell? ⟨p, 8, none⟩ = some (.int .u64 s.pr) ∧
    w.cell? ⟨p, 9, none⟩ = some (.int .u64 s.cu) ∧ w.cell? ⟨p, 10, none⟩ = some (.int .u64 s.nx) ∧ w.cell? ⟨p, 11, none⟩ = some (.slice A1 s.ps.length c1) ∧ w.cell? ⟨p, 12, none⟩ = some (.slice A2 s.ss.length c2) := by
  have hc := fun j => (cell_heap h.box j).1
  exact ⟨hc 0, hc 1, hc 2, hc 3, hc 4, hc 5, hc 6, hc 7, hc 8, hc 9, hc 10, hc 11, hc 12⟩
theorem Parts.thawed (h : Parts w p S T N L G dl sq s A1 c1 A2 c2) (j : Nat) : w.frozen? ⟨p, j, none⟩ = false := (cell_heap h.box j).2
end
section
variable {w w' : World} {p c1 c2 : Nat} {S R : Nat → Prop} {T N L G dl sq st lv pr cu nx : Int} {ps ss : List Int} {A1 A2 : Option Addr}
theorem Parts.set_st (h : Parts w p S T N L G dl sq ⟨st, lv, pr, cu, nx, ps, ss⟩ A1 c1 A2 c2) (v : Int) : Parts (w.setCell ⟨p, 6, none⟩ (.int .i64 v)) p S T N L G dl sq ⟨v, lv, pr, cu, nx, ps, ss⟩ A1 c1 A2 c2 := by
  have hs := only_setCell (R := fun k => k = p) w (p := ⟨p, 6, none⟩) rfl (.int .i64 v)
  exact ⟨set_heap (j := 6) h.box (.int .i64 v), hs.own h.o1 (fun k hk e => by obtain ⟨x, hx, rfl⟩ := own_block hk; exact (h.a1 x hx).2 e), hs.own h.o2 (fun k hk e => by obtain ⟨x, hx, rfl⟩ := own_block hk; exact (h.a2 x hx).2 e),
    h.a1, h.a2, h.ap, h.mem, fun k hk => Nat.lt_of_lt_of_le (h.lt k hk) hs.size⟩
theorem Parts.set_lv (h : Parts w p S T N L G dl sq ⟨st, lv, pr, cu, nx, ps, ss⟩ A1 c1 A2 c2) (v : Int) : Parts (w.setCell ⟨p, 7, none⟩ (.int .i64 v)) p S T N L G dl sq ⟨st, v, pr, cu, nx, ps, ss⟩ A1 c1 A2 c2 := by
  have hs := only_setCell (R := fun k => k = p) w (p := ⟨p, 7, none⟩) rfl (.int .i64 v)
  exact ⟨set_heap (j := 7) h.box (.int .i64 v), hs.own h.o1 (fun k hk e => by obtain ⟨x, hx, rfl⟩ := own_block hk; exact (h.a1 x hx).2 e), hs.own h.o2 (fun k hk e => by obtain ⟨x, hx, rfl⟩ := own_block hk; exact (h.a2 x hx).2 e),
    h.a1, h.a2, h.ap, h.mem, fun k hk => Nat.lt_of_lt_of_le (h.lt k hk) hs.size⟩
theorem Parts.set_pr (h : Parts w p S T N L G dl sq ⟨st, lv, pr, cu, nx, ps, ss⟩ A1 c1 A2 c2) (v : Int) : Parts (w.setCell ⟨p, 8, none⟩ (.int .u64 v)) p S T N L G dl sq ⟨st, lv, v, cu, nx, ps, ss⟩ A1 c1 A2 c2 := by
  have hs := only_setCell (R := fun k => k = p) w (p := ⟨p, 8, none⟩) rfl (.int .u64 v)
  exact ⟨set_heap (j := 8) h.box (.int .u64 v), hs.own h.o1 (fun k hk e => by obtain ⟨x, hx, rfl⟩ := own_block hk; exact (h.a1 x hx).2 e), hs.own h.o2 (fun k hk e => by obtain ⟨x, hx, rfl⟩ := own_block hk; exact (h.a2 x hx).2 e),
    h.a1, h.a2, h.ap, h.mem, fun k hk => Nat.lt_of_lt_of_le (h.lt k hk) hs.size⟩
theorem Parts.set_cu (h : Parts w p S T N L G dl sq ⟨st, lv, pr, cu, nx, ps, ss⟩ A1 c1 A2 c2) (v : Int) : Parts (w.setCell ⟨p, 9, none⟩ (.int .u64 v)) p S T N L G dl sq ⟨st, lv, pr, v, nx, ps, ss⟩ A1 c1 A2 c2 := by
  have hs := only_setCell (R := fun k => k = p) w (p := ⟨p, 9, none⟩) rfl (.int .u64 v)
  exact ⟨set_heap (j := 9) h.box (.int .u64 v), hs.own h.o1 (fun k hk e => by obtain ⟨x, hx, rfl⟩ := own_block hk; exact (h.a1 x hx).2 e), hs.own h.o2 (fun k hk e => by obtain ⟨x, hx, rfl⟩ := own_block hk; exact (h.a2 x hx).2 e),
    h.a1, h.a2, h.ap, h.mem, fun k hk => Nat.lt_of_lt_of_le (h.lt k hk) hs.size⟩
theorem Parts.set_nx (h : Parts w p S T N L G dl sq ⟨st, lv, pr, cu, nx, ps, ss⟩ A1 c1 A2 c2) (v : Int) : Parts (w.setCell ⟨p, 10, none⟩ (.int .u64 v)) p S T N L G dl sq ⟨st, lv, pr, cu, v, ps, ss⟩ A1 c1 A2 c2 := by
  have hs := only_setCell (R := fun k => k = p) w (p := ⟨p, 10, none⟩) rfl (.int .u64 v)
  exact ⟨set_heap (j := 10) h.box (.int .u64 v), hs.own h.o1 (fun k hk e => by obtain ⟨x, hx, rfl⟩ := own_block hk; exact (h.a1 x hx).2 e), hs.own h.o2 (fun k hk e => by obtain ⟨x, hx, rfl⟩ := own_block hk; exact (h.a2 x hx).2 e),
    h.a1, h.a2, h.ap, h.mem, fun k hk => Nat.lt_of_lt_of_le (h.lt k hk) hs.size⟩
theorem Parts.nil_ps (h : Parts w p S T N L G dl sq ⟨st, lv, pr, cu, nx, ps, ss⟩ A1 c1 A2 c2) : Parts (w.setCell ⟨p, 11, none⟩ (.slice none 0 0)) p S T N L G dl sq ⟨st, lv, pr, cu, nx, [], ss⟩ none 0 A2 c2 := by
  have hs := only_setCell (R := fun k => k = p) w (p := ⟨p, 11, none⟩) rfl (.slice none 0 0)
  exact ⟨set_heap (j := 11) h.box (.slice none 0 0), World.ownsRow_nil _ _ _ _, hs.own h.o2 (fun k hk e => by obtain ⟨x, hx, rfl⟩ := own_block hk; exact (h.a2 x hx).2 e),
    fun a e => (by cases e), h.a2, fun a b e => (by cases e), h.mem, fun k hk => Nat.lt_of_lt_of_le (h.lt k hk) hs.size⟩
theorem Parts.nil_ss (h : Parts w p S T N L G dl sq ⟨st, lv, pr, cu, nx, ps, ss⟩ A1 c1 A2 c2) : Parts (w.setCell ⟨p, 12, none⟩ (.slice none 0 0)) p S T N L G dl sq ⟨st, lv, pr, cu, nx, ps, []⟩ A1 c1 none 0 := by
  have hs := only_setCell (R := fun k => k = p) w (p := ⟨p, 12, none⟩) rfl (.slice none 0 0)
  exact ⟨set_heap (j := 12) h.box (.slice none 0 0), hs.own h.o1 (fun k hk e => by obtain ⟨x, hx, rfl⟩ := own_block hk; exact (h.a1 x hx).2 e), World.ownsRow_nil _ _ _ _,
    h.a1, fun a e => (by cases e), fun a b _ e => (by cases e), h.mem, fun k hk => Nat.lt_of_lt_of_le (h.lt k hk) hs.size⟩
theorem only_set (w : World) (p j : Nat) (v : Value) : Only (fun k => k = p) w (w.setCell ⟨p, j, none⟩ v) := only_setCell (R := fun k => k = p) w (p := ⟨p, j, none⟩) rfl v

/-- Its first row has grown: by an append whose room is its own, or new. -/
theorem Parts.put_ps (h : Parts w p S T N L G dl sq ⟨st, lv, pr, cu, nx, ps, ss⟩ A1 c1 A2 c2) {W0 w3 : World} {g2 cap n : Nat} (hB : Below w.heap.size w W0) (hon : Only (fun k => (Value.slice A1 n c1).ownBlock = some k) W0 w3) (hn : n = ps.length)
    (ho : w3.ownsRow 0 22 1 (.slice (some ⟨g2, 0, none⟩) (n + 1) cap) (n + 1) (flat (encZ .u64) ps ++ encZ .u64 pr)) (hor : (Value.slice A1 n c1).ownBlock = some g2 ∨ g2 = W0.heap.size) (hlt : g2 < w3.heap.size) :
    (∀ j, w3.cell? ⟨p, j, none⟩ = w.cell? ⟨p, j, none⟩ ∧ w3.frozen? ⟨p, j, none⟩ = false) ∧ ∃ S', Parts (w3.setCell ⟨p, 11, none⟩ (.slice (some ⟨g2, 0, none⟩) (n + 1) cap)) p S' T N L G dl sq ⟨st, lv, pr, cu, nx, ps ++ [pr], ss⟩ (some ⟨g2, 0, none⟩) cap A2 c2 ∧
      Only S w (w3.setCell ⟨p, 11, none⟩ (.slice (some ⟨g2, 0, none⟩) (n + 1) cap)) ∧ ∀ k, S' k → S k ∨ (w.heap.size ≤ k ∧ k < w3.heap.size) := by
  subst hn
  have hz := hB.size
  have hp := h.lt p h.mem
  have hR : Only (fun k => (Value.slice A1 ps.length c1).ownBlock = some k) w w3 := (only_below _ hB).trans hon
  have hnp : ¬ (Value.slice A1 ps.length c1).ownBlock = some p := fun e => by obtain ⟨x, hx, hxp⟩ := own_block e; exact (h.a1 x hx).2 hxp
  have hb3 := hR.heap h.box hnp
  have hg : (S g2 ∨ w.heap.size ≤ g2) ∧ g2 ≠ p ∧ ∀ b, A2 = some b → g2 ≠ b.block := by
    rcases hor with e | e
    · obtain ⟨x, hx, rfl⟩ := own_block e
      exact ⟨.inl (h.a1 x hx).1, (h.a1 x hx).2, fun b hb => h.ap x b hx hb⟩
    · exact ⟨.inr (by omega), by omega, fun b hb q => by have := h.lt _ (h.a2 b hb).1; omega⟩
  have hs := only_set w3 p 11 (.slice (some ⟨g2, 0, none⟩) (ps.length + 1) cap)
  have hl : (ps ++ [pr]).length = ps.length + 1 := by simp
  refine ⟨fun j => ⟨?_, (cell_heap hb3 j).2⟩, fun k => S k ∨ k = g2, ⟨?_, ?_, ?_, ?_, ?_, ?_, .inl h.mem, ?_⟩, ?_, ?_⟩
  · rw [(cell_heap hb3 j).1, (cell_heap h.box j).1]
  · rw [set_heap (j := 11) hb3]
    simp only [hl]
    rfl
  · simp only [hl, flat_append, flat_one]
    exact hs.own ho (fun k hk e => by obtain ⟨x, hx, rfl⟩ := own_block hk; cases hx; exact hg.2.1 e)
  · exact hs.own (hR.own h.o2 (fun k hk e => by obtain ⟨x, hx, rfl⟩ := own_block hk; obtain ⟨y, hy, e2⟩ := own_block e; exact h.ap y x hy hx e2)) (fun k hk e => by obtain ⟨x, hx, rfl⟩ := own_block hk; exact (h.a2 x hx).2 e)
  · rintro a e; cases e; exact ⟨.inr rfl, hg.2.1⟩
  · exact fun a e => ⟨.inl (h.a2 a e).1, (h.a2 a e).2⟩
  · rintro a b e hb; cases e; exact hg.2.2 b hb
  · rintro k (hk | rfl)
    · have h1 := h.lt k hk; have h2 := hR.size; have h3 := hs.size; omega
    · have h3 := hs.size; omega
  · exact (hR.wide (R' := S) fun k e => by obtain ⟨y, hy, rfl⟩ := own_block e; exact .inl (h.a1 y hy).1).setCell (.inl h.mem) _
  · rintro k (hk | rfl)
    · exact .inl hk
    · exact hg.1.imp id fun z => ⟨z, hlt⟩
theorem Parts.put_ss (h : Parts w p S T N L G dl sq ⟨st, lv, pr, cu, nx, ps, ss⟩ A1 c1 A2 c2) {W0 w3 : World} {g2 cap n : Nat} {x : Int} (hB : Below w.heap.size w W0) (hon : Only (fun k => (Value.slice A2 n c2).ownBlock = some k) W0 w3) (hn : n = ss.length)
    (ho : w3.ownsRow 0 22 1 (.slice (some ⟨g2, 0, none⟩) (n + 1) cap) (n + 1) (flat (encZ .u64) ss ++ encZ .u64 x)) (hor : (Value.slice A2 n c2).ownBlock = some g2 ∨ g2 = W0.heap.size) (hlt : g2 < w3.heap.size) :
    (∀ j, w3.cell? ⟨p, j, none⟩ = w.cell? ⟨p, j, none⟩ ∧ w3.frozen? ⟨p, j, none⟩ = false) ∧ ∃ S', Parts (w3.setCell ⟨p, 12, none⟩ (.slice (some ⟨g2, 0, none⟩) (n + 1) cap)) p S' T N L G dl sq ⟨st, lv, pr, cu, nx, ps, ss ++ [x]⟩ A1 c1 (some ⟨g2, 0, none⟩) cap ∧
      Only S w (w3.setCell ⟨p, 12, none⟩ (.slice (some ⟨g2, 0, none⟩) (n + 1) cap)) ∧ ∀ k, S' k → S k ∨ (w.heap.size ≤ k ∧ k < w3.heap.size) := by
  subst hn
  have hz := hB.size
  have hp := h.lt p h.mem
  have hR : Only (fun k => (Value.slice A2 ss.length c2).ownBlock = some k) w w3 := (only_below _ hB).trans hon
  have hnp : ¬ (Value.slice A2 ss.length c2).ownBlock = some p := fun e => by obtain ⟨x, hx, hxp⟩ := own_block e; exact (h.a2 x hx).2 hxp
  have hb3 := hR.heap h.box hnp
  have hg : (S g2 ∨ w.heap.size ≤ g2) ∧ g2 ≠ p ∧ ∀ b, A1 = some b → b.block ≠ g2 := by
    rcases hor with e | e
    · obtain ⟨x, hx, rfl⟩ := own_block e
      exact ⟨.inl (h.a2 x hx).1, (h.a2 x hx).2, fun b hb => h.ap b x hb hx⟩
    · exact ⟨.inr (by omega), by omega, fun b hb q => by have := h.lt _ (h.a1 b hb).1; omega⟩
  have hs := only_set w3 p 12 (.slice (some ⟨g2, 0, none⟩) (ss.length + 1) cap)
  have hl : (ss ++ [x]).length = ss.length + 1 := by simp
  refine ⟨fun j => ⟨?_, (cell_heap hb3 j).2⟩, fun k => S k ∨ k = g2, ⟨?_, ?_, ?_, ?_, ?_, ?_, .inl h.mem, ?_⟩, ?_, ?_⟩
  · rw [(cell_heap hb3 j).1, (cell_heap h.box j).1]
  · rw [set_heap (j := 12) hb3]
    simp only [hl]
    rfl
  · exact hs.own (hR.own h.o1 (fun k hk e => by obtain ⟨x, hx, rfl⟩ := own_block hk; obtain ⟨y, hy, e2⟩ := own_block e; exact h.ap x y hx hy e2.symm)) (fun k hk e => by obtain ⟨x, hx, rfl⟩ := own_block hk; exact (h.a1 x hx).2 e)
  · simp only [hl, flat_append, flat_one]
    exact hs.own ho (fun k hk e => by obtain ⟨x, hx, rfl⟩ := own_block hk; cases hx; exact hg.2.1 e)
  · exact fun a e => ⟨.inl (h.a1 a e).1, (h.a1 a e).2⟩
  · rintro a e; cases e; exact ⟨.inr rfl, hg.2.1⟩
  · rintro a b hb e; cases e; exact hg.2.2 a hb
  · rintro k (hk | rfl)
    · have h1 := h.lt k hk; have h2 := hR.size; have h3 := hs.size; omega
    · have h3 := hs.size; omega
  · exact (hR.wide (R' := S) fun k e => by obtain ⟨y, hy, rfl⟩ := own_block e; exact .inl (h.a2 y hy).1).setCell (.inl h.mem) _
  · rintro k (hk | rfl)
    · exact .inl hk
    · exact hg.1.imp id fun z => ⟨z, hlt⟩
end

/-- What a seeker's step ends in. -/
def Turned (w : World) (p : Nat) (S : Nat → Prop) (T N L G dl sq : Int) (s : St) (e : Ending) (w' : World) : Prop :=
  e = .returned (.tuple #[]) ∧ ∃ S' A1 c1 A2 c2, Parts w' p S' T N L G dl sq s A1 c1 A2 c2 ∧ Only S w w' ∧ ∀ k, S' k → S k ∨ (w.heap.size ≤ k ∧ k < w'.heap.size)
theorem turned_one {w w' : World} {p c1 c2 : Nat} {S : Nat → Prop} {T N L G dl sq : Int} {s : St} {A1 A2 : Option Addr} (h : Parts w' p S T N L G dl sq s A1 c1 A2 c2) (ho : Only (fun k => k = p) w w') : Turned w p S T N L G dl sq s (.returned (.tuple #[])) w' :=
  ⟨rfl, S, A1, c1, A2, c2, h, ho.wide fun k e => .inl (e ▸ h.mem), fun k e => .inl e⟩
/-- Two steps. -/
theorem Turned.behind {w w1 w' : World} {p : Nat} {S S1 : Nat → Prop} {T N L G dl sq : Int} {s : St} {e : Ending} (h : Turned w1 p S1 T N L G dl sq s e w') (ho : Only S w w1) (hS : ∀ k, S1 k → S k ∨ (w.heap.size ≤ k ∧ k < w1.heap.size)) : Turned w p S T N L G dl sq s e w' := by
  obtain ⟨rfl, S', A1, c1, A2, c2, h1, h2, h3⟩ := h
  refine ⟨rfl, S', A1, c1, A2, c2, h1, ho.more h2 fun k e => (hS k e).imp id fun z => z.1, fun k e => ?_⟩
  have z1 := ho.size
  have z2 := h2.size
  rcases h3 k e with e | e
  · rcases hS k e with e | e
    · exact .inl e
    · exact .inr (by omega)
  · exact .inr (by omega)

theorem descend_end {w : World} {p c1 c2 : Nat} {S : Nat → Prop} {T N L G dl sq st lv pr cu nx : Int} {ps ss : List Int} {A1 A2 : Option Addr} (h : Parts w p S T N L G dl sq ⟨st, lv, pr, cu, nx, ps, ss⟩ A1 c1 A2 c2) (hl : lv ≤ 0) : Calls Tryz.prog 162 #[.pointer (some ⟨p, 0, none⟩)] w fun e w' =>
    e = .returned (.tuple #[]) ∧ Parts w' p S T N L G dl sq (desc lv pr cu nx ps ss) A1 c1 A2 c2 ∧ Only (fun k => k = p) w w' := by
  obtain ⟨-, -, -, -, -, -, c6, c7, -⟩ := h.cells
  have f6 := h.thawed 6
  have H := Lib.hid (And.intro (h.set_st 0) (only_set w p 6 (.int .i64 0)))
  simp only at c6 c7
  rw [desc_end hl]
  clear h
  go_enter Tryz.func162, Tryz.ntmps162
  go_wp2
  exact bodyPost_ret (v := .tuple #[]) (results_none rfl _ _ _) rfl ⟨rfl, H.out⟩
theorem descend_on {w : World} {p c1 c2 : Nat} {S : Nat → Prop} {T N L G dl sq st lv pr cu nx : Int} {ps ss : List Int} {A1 A2 : Option Addr} (h : Parts w p S T N L G dl sq ⟨st, lv, pr, cu, nx, ps, ss⟩ A1 c1 A2 c2) (hl : ¬ lv ≤ 0) (hm : lv ≤ 9223372036854775807) : Calls Tryz.prog 162 #[.pointer (some ⟨p, 0, none⟩)] w fun e w' =>
    e = .returned (.tuple #[]) ∧ Parts w' p S T N L G dl sq (desc lv pr cu nx ps ss) A1 c1 A2 c2 ∧ Only (fun k => k = p) w w' := by
  obtain ⟨-, -, -, -, -, -, c6, c7, -⟩ := h.cells
  have f7 := h.thawed 7
  have g6 := fun v => (h.set_lv v).thawed 6
  have H := Lib.hid (And.intro ((h.set_lv (lv - 1)).set_st 1) ((only_set w p 7 (.int .i64 (lv - 1))).trans (only_set _ p 6 (.int .i64 1))))
  have hw : IntKind.i64.wrap (lv - 1) = lv - 1 := IntWalk.i64_in _ ⟨by omega, by omega⟩
  simp only at c6 c7
  rw [desc_on hl]
  clear h
  go_enter Tryz.func162, Tryz.ntmps162
  go_wp2
  refine bodyPost_end (results_none rfl _ _ _) rfl ?_
  exact ⟨rfl, H.out⟩
theorem descend_any {w : World} {p c1 c2 : Nat} {S : Nat → Prop} {T N L G dl sq st lv pr cu nx : Int} {ps ss : List Int} {A1 A2 : Option Addr} (h : Parts w p S T N L G dl sq ⟨st, lv, pr, cu, nx, ps, ss⟩ A1 c1 A2 c2) (hm : lv ≤ 9223372036854775807) : Calls Tryz.prog 162 #[.pointer (some ⟨p, 0, none⟩)] w fun e w' =>
    e = .returned (.tuple #[]) ∧ Parts w' p S T N L G dl sq (desc lv pr cu nx ps ss) A1 c1 A2 c2 ∧ Only (fun k => k = p) w w' := by
  by_cases hl : lv ≤ 0
  · exact descend_end h hl
  · exact descend_on h hl hm
theorem begin_any {w : World} {p c1 c2 : Nat} {S : Nat → Prop} {T N L G dl sq st lv pr cu nx : Int} {ps ss : List Int} {A1 A2 : Option Addr} (h : Parts w p S T N L G dl sq ⟨st, lv, pr, cu, nx, ps, ss⟩ A1 c1 A2 c2) (hm : L ≤ 9223372036854775807) : Calls Tryz.prog 155 #[.pointer (some ⟨p, 0, none⟩)] w fun e w' =>
    e = .returned (.tuple #[]) ∧ Parts w' p S T N L G dl sq (anew L cu nx) none 0 none 0 ∧ Only (fun k => k = p) w w' := by
  obtain ⟨-, -, e2, -, -, -, -, e7, e8, -, -, e11, e12⟩ := h.cells
  simp only at e2 e7 e8 e11 e12
  have f11 := h.thawed 11
  have f12 := h.nil_ps.thawed 12
  have f8 := h.nil_ps.nil_ss.thawed 8
  have f7 := (h.nil_ps.nil_ss.set_pr 0).thawed 7
  have HD := Lib.hid (descend_any ((h.nil_ps.nil_ss.set_pr 0).set_lv L) hm)
  have HO := Lib.hid ((((only_set w p 11 (.slice none 0 0)).trans (only_set _ p 12 (.slice none 0 0))).trans (only_set _ p 8 (.int .u64 0))).trans (only_set _ p 7 (.int .i64 L)))
  unfold anew
  clear h
  go_enter Tryz.func155, Tryz.ntmps155
  go_wp2_with fail
  refine HD.out.mono ?_
  rintro e w1 ⟨rfl, h1, h2⟩
  go_wp2
  refine bodyPost_end (results_none rfl _ _ _) rfl ?_
  exact ⟨rfl, h1, HO.out.trans h2⟩
end Go.Proofs.YtlagghghbpbcbaaGreatDoor.Seek

/- What a seeker asks for. -/
namespace Go.Proofs.YtlagghghbpbcbaaGreatDoor.Seek
set_option maxRecDepth 20000
open Go.ChangeShapes Go.WideShapes Go.RowKit CM DM PM KM Lay Ints Plan Go.Proofs.YtlagghghbpbcbaaGreatDoor.Task
set_option linter.unusedVariables false
set_option linter.unusedSimpArgs false

/-- What a task is asked for. -/
def ToldD (w : World) (d : D) (more : Bool) (e : Ending) (w' : World) : Prop :=
  e = .returned (.tuple #[.agg #[.int .i64 d.1, .int .i64 d.2.1, .int .u64 d.2.2.1, .int .u64 d.2.2.2.1, .int .u64 d.2.2.2.2], .bool more]) ∧ Below w.heap.size w w'
def Told (w : World) (x : Option D) : Ending → World → Prop := ToldD w (x.getD (0, 0, 0, 0, 0)) x.isSome

section
variable {w W : World} {p c1 c2 : Nat} {S : Nat → Prop} {T N L G dl sq st lv pr cu nx : Int} {ps ss : List Int} {A1 A2 : Option Addr}
/-- All that the regions read, in any later world. -/
theorem stay (h : Parts w p S T N L G dl sq ⟨st, lv, pr, cu, nx, ps, ss⟩ A1 c1 A2 c2) (hb : Below w.heap.size w W) : W.cell? ⟨p, 0, none⟩ = some (.int .i64 T) ∧ W.cell? ⟨p, 1, none⟩ = some (.int .i64 N) ∧ W.cell? ⟨p, 2, none⟩ = some (.int .i64 L) ∧ W.cell? ⟨p, 3, none⟩ = some (.int .u64 G) ∧ W.cell? ⟨p, 8, none⟩ = some (.int .u64 pr) ∧ W.cell? ⟨p, 9, none⟩ = some (.int .u64 cu) ∧ W.cell? ⟨p, 10, none⟩ = some (.int .u64 nx) := by
  obtain ⟨e0, e1, e2, e3, -, -, -, -, e8, e9, e10, -⟩ := (h.later hb).cells
  exact ⟨e0, e1, e2, e3, e8, e9, e10⟩
theorem stay_past (h : Parts w p S T N L G dl sq ⟨st, lv, pr, cu, nx, ps, ss⟩ A1 c1 A2 c2) (hb : Below (w.alloc (.cells #[.int .i64 0, .int .i64 0, .int .u64 0, .int .u64 0, .int .u64 0] 63)).heap.size (w.alloc (.cells #[.int .i64 0, .int .i64 0, .int .u64 0, .int .u64 0, .int .u64 0] 63)) W) : W.cell? ⟨p, 0, none⟩ = some (.int .i64 T) ∧ W.cell? ⟨p, 1, none⟩ = some (.int .i64 N) ∧ W.cell? ⟨p, 2, none⟩ = some (.int .i64 L) ∧ W.cell? ⟨p, 3, none⟩ = some (.int .u64 G) ∧ W.cell? ⟨p, 8, none⟩ = some (.int .u64 pr) ∧ W.cell? ⟨p, 9, none⟩ = some (.int .u64 cu) ∧ W.cell? ⟨p, 10, none⟩ = some (.int .u64 nx) := stay h ((box_below _ _).trans (hb.mono (by simp)))
theorem stay_start (h : Parts w p S T N L G dl sq ⟨st, lv, pr, cu, nx, ps, ss⟩ A1 c1 A2 c2) : (fun W : World => W.cell? ⟨p, 0, none⟩ = some (.int .i64 T) ∧ W.cell? ⟨p, 1, none⟩ = some (.int .i64 N) ∧ W.cell? ⟨p, 2, none⟩ = some (.int .i64 L) ∧ W.cell? ⟨p, 3, none⟩ = some (.int .u64 G) ∧ W.cell? ⟨p, 8, none⟩ = some (.int .u64 pr) ∧ W.cell? ⟨p, 9, none⟩ = some (.int .u64 cu) ∧ W.cell? ⟨p, 10, none⟩ = some (.int .u64 nx)) (w.alloc (.cells #[.int .i64 0, .int .i64 0, .int .u64 0, .int .u64 0, .int .u64 0] 63)).drew := stay_past h (Below.refl _ _).drew
theorem stay_set (h : Parts w p S T N L G dl sq ⟨st, lv, pr, cu, nx, ps, ss⟩ A1 c1 A2 c2) (hb : Below (w.alloc (.cells #[.int .i64 0, .int .i64 0, .int .u64 0, .int .u64 0, .int .u64 0] 63)).heap.size (w.alloc (.cells #[.int .i64 0, .int .i64 0, .int .u64 0, .int .u64 0, .int .u64 0] 63)) W) (u0 u1 u2 u3 u4 : Value) :
    (fun W : World => W.cell? ⟨p, 0, none⟩ = some (.int .i64 T) ∧ W.cell? ⟨p, 1, none⟩ = some (.int .i64 N) ∧ W.cell? ⟨p, 2, none⟩ = some (.int .i64 L) ∧ W.cell? ⟨p, 3, none⟩ = some (.int .u64 G) ∧ W.cell? ⟨p, 8, none⟩ = some (.int .u64 pr) ∧ W.cell? ⟨p, 9, none⟩ = some (.int .u64 cu) ∧ W.cell? ⟨p, 10, none⟩ = some (.int .u64 nx)) (((((W.setCell ⟨w.heap.size, 0, none⟩ u0).setCell ⟨w.heap.size, 1, none⟩ u1).setCell ⟨w.heap.size, 2, none⟩ u2).setCell ⟨w.heap.size, 3, none⟩ u3).setCell ⟨w.heap.size, 4, none⟩ u4) :=
  stay h (set5 hb u0 u1 u2 u3 u4).2
end

theorem load_any (i y : Int) (w : World) : Calls Tryz.prog 204 #[.int .i64 i, .int .u64 y] w fun e w' => e = .returned (.agg #[.int .i64 1, .int .i64 i, .int .u64 0, .int .u64 0, .int .u64 y]) ∧ Below w.heap.size w w' := by
  have HB := Lib.hid (box_below w)
  go_enter Tryz.func204, Tryz.ntmps204
  go_wp2
  exact bodyPost_ret (v := .agg #[.int .i64 1, .int .i64 i, .int .u64 0, .int .u64 0, .int .u64 y]) (by simp [results, Tryz.results204, go_sem]) rfl ⟨rfl, HB.out _⟩
theorem wayOn_any {w : World} {p c1 c2 : Nat} {S : Nat → Prop} {T N L G dl sq : Int} {s : St} {A1 A2 : Option Addr} (h : Parts w p S T N L G dl sq s A1 c1 A2 c2) {r : Int} (hr : 0 ≤ r ∧ r < 18446744073709551616) : Calls Tryz.prog 205 #[.pointer (some ⟨p, 0, none⟩), .int .u64 r] w fun e w' =>
    e = .returned (.int .i64 (nextI T L (idx r) s.lv)) ∧ Below w.heap.size w w' := by
  obtain ⟨e0, e1, e2, e3, -, -, -, e7, -⟩ := h.cells
  have K0 := fun p : After w => p.cell e0
  have K1 := fun p : After w => p.cell e1
  have K2 := fun p : After w => p.cell e2
  have K3 := fun p : After w => p.cell e3
  have K7 := fun p : After w => p.cell e7
  have HI := Lib.hid fun W => Refer.Index_any r hr.1 hr.2 W
  have HN := Lib.hid fun W => Plan.Next_any T N L G (idx r) s.lv W
  unfold idx at HN ⊢
  generalize r % 4294967296 / 2 = i at HI HN ⊢
  clear h hr e0 e1 e2 e3 e7
  go_enter Tryz.func205, Tryz.ntmps205
  go_wp2
  refine wp_region_after mixed (by kernel_rfl) ?_
  repeat (first | go_big_quiet_step ((first | (with_reducible exact calls_after_same (HI.out _)) | exact calls_after (HN.out _))) | quiet_step ((first | (with_reducible exact calls_after_same (HI.out _)) | exact calls_after (HN.out _))))
  refine wpQuiet_nil ?_
  intro _ hw'
  obtain ⟨pq, hw''⟩ := hw'
  subst hw''
  go_wp2
  go_ret
  exact ⟨rfl, pq.ok⟩
theorem next_0 {w : World} {p c1 c2 : Nat} {S : Nat → Prop} {T N L G dl sq lv pr cu nx : Int} {ps ss : List Int} {A1 A2 : Option Addr} (h : Parts w p S T N L G dl sq ⟨0, lv, pr, cu, nx, ps, ss⟩ A1 c1 A2 c2) : Calls Tryz.prog 199 #[.pointer (some ⟨p, 0, none⟩)] w (Told w none) := by
  obtain ⟨-, -, -, -, -, -, e6, -⟩ := h.cells
  simp only at e6
  have K6 := fun o => cell_later (box_below w o) e6
  have HB := Lib.hid (box_below w)
  clear h
  go_enter Tryz.func199, Tryz.ntmps199
  go_wp2
  exact bodyPost_ret (v := .tuple #[.agg #[.int .i64 0, .int .i64 0, .int .u64 0, .int .u64 0, .int .u64 0], .bool false]) (by simp [results, Tryz.results199, go_sem]) rfl ⟨rfl, HB.out _⟩
theorem next_1 {w : World} {p c1 c2 : Nat} {S : Nat → Prop} {T N L G dl sq lv pr cu nx : Int} {ps ss : List Int} {A1 A2 : Option Addr} (h : Parts w p S T N L G dl sq ⟨1, lv, pr, cu, nx, ps, ss⟩ A1 c1 A2 c2) (hr : 0 ≤ pr ∧ pr < 18446744073709551616) : Calls Tryz.prog 199 #[.pointer (some ⟨p, 0, none⟩)] w (Told w (some (1, nextI T L (idx pr) lv, 0, 0, pr))) := by
  obtain ⟨-, -, -, -, -, -, e6, -⟩ := h.cells
  simp only at e6
  have K6 := fun o => cell_later (box_below w o) e6
  have HX := Lib.hid h
  have HW := Lib.hid fun (W : World) (hb : Below w.heap.size w W) => wayOn_any (h.later hb) hr
  simp only at HW
  generalize nextI T L (idx pr) lv = i at HW ⊢
  clear h hr
  go_enter Tryz.func199, Tryz.ntmps199
  go_wp2
  go_region_held3 (fun W => W.cell? ⟨p, 0, none⟩ = some (.int .i64 T) ∧ W.cell? ⟨p, 1, none⟩ = some (.int .i64 N) ∧ W.cell? ⟨p, 2, none⟩ = some (.int .i64 L) ∧ W.cell? ⟨p, 3, none⟩ = some (.int .u64 G) ∧ W.cell? ⟨p, 8, none⟩ = some (.int .u64 pr) ∧ W.cell? ⟨p, 9, none⟩ = some (.int .u64 cu) ∧ W.cell? ⟨p, 10, none⟩ = some (.int .u64 nx))
    ((first | (with_reducible exact stay_start HX.out) | (with_reducible assumption) | (with_reducible exact stay_past HX.out HB4.out) | (with_reducible exact stay_past HX.out HB2.out) | (with_reducible exact stay_set HX.out HB4.out _ _ _ _ _)))
    (first
      | (go_at_call 205; refine (HW.out _ ((box_below w _).drew)).mono ?_; rintro e w2 ⟨rfl, hb⟩; have HB2 := Lib.hid (show Below (w.alloc (.cells #[.int .i64 0, .int .i64 0, .int .u64 0, .int .u64 0, .int .u64 0] 63)).heap.size (w.alloc (.cells #[.int .i64 0, .int .i64 0, .int .u64 0, .int .u64 0, .int .u64 0] 63)) w2 from (Below.refl _ _).drew.trans hb); clear hb)
      | (go_at_call 204; refine (load_any i pr _).mono ?_; rintro e w4 ⟨rfl, hb⟩; have HB4 := Lib.hid (show Below (w.alloc (.cells #[.int .i64 0, .int .i64 0, .int .u64 0, .int .u64 0, .int .u64 0] 63)).heap.size (w.alloc (.cells #[.int .i64 0, .int .i64 0, .int .u64 0, .int .u64 0, .int .u64 0] 63)) w4 from HB2.out.trans (hb.mono HB2.out.size)); obtain ⟨⟨r0, r1, r2, r3, r4⟩, g0, g1, g2, g3, g4⟩ := res5 HB4.out; clear hb))
  obtain ⟨⟨s0, s1, s2, s3, s4⟩, hB⟩ := set5 HB4.out (.int .i64 1) (.int .i64 i) (.int .u64 0) (.int .u64 0) (.int .u64 pr)
  have HB := Lib.hid hB
  clear hB r0 r1 r2 r3 r4 g0 g1 g2 g3 g4
  go_wp2
  exact bodyPost_ret (v := .tuple #[.agg #[.int .i64 1, .int .i64 i, .int .u64 0, .int .u64 0, .int .u64 pr], .bool true]) (by simp [results, Tryz.results199, go_sem, s0, s1, s2, s3, s4]) rfl ⟨rfl, HB.out⟩
theorem next_2 {w : World} {p c1 c2 : Nat} {S : Nat → Prop} {T N L G dl sq lv pr cu nx : Int} {ps ss : List Int} {A1 A2 : Option Addr} (h : Parts w p S T N L G dl sq ⟨2, lv, pr, cu, nx, ps, ss⟩ A1 c1 A2 c2) (hr : 0 ≤ cu ∧ cu < 18446744073709551616) : Calls Tryz.prog 199 #[.pointer (some ⟨p, 0, none⟩)] w (Told w (some (1, nextI T L (idx cu) lv, 0, 0, cu))) := by
  obtain ⟨-, -, -, -, -, -, e6, -⟩ := h.cells
  simp only at e6
  have K6 := fun o => cell_later (box_below w o) e6
  have HX := Lib.hid h
  have HW := Lib.hid fun (W : World) (hb : Below w.heap.size w W) => wayOn_any (h.later hb) hr
  simp only at HW
  generalize nextI T L (idx cu) lv = i at HW ⊢
  clear h hr
  go_enter Tryz.func199, Tryz.ntmps199
  go_wp2
  go_region_held3 (fun W => W.cell? ⟨p, 0, none⟩ = some (.int .i64 T) ∧ W.cell? ⟨p, 1, none⟩ = some (.int .i64 N) ∧ W.cell? ⟨p, 2, none⟩ = some (.int .i64 L) ∧ W.cell? ⟨p, 3, none⟩ = some (.int .u64 G) ∧ W.cell? ⟨p, 8, none⟩ = some (.int .u64 pr) ∧ W.cell? ⟨p, 9, none⟩ = some (.int .u64 cu) ∧ W.cell? ⟨p, 10, none⟩ = some (.int .u64 nx))
    ((first | (with_reducible exact stay_start HX.out) | (with_reducible assumption) | (with_reducible exact stay_past HX.out HB4.out) | (with_reducible exact stay_past HX.out HB2.out) | (with_reducible exact stay_set HX.out HB4.out _ _ _ _ _)))
    (first
      | (go_at_call 205; refine (HW.out _ ((box_below w _).drew)).mono ?_; rintro e w2 ⟨rfl, hb⟩; have HB2 := Lib.hid (show Below (w.alloc (.cells #[.int .i64 0, .int .i64 0, .int .u64 0, .int .u64 0, .int .u64 0] 63)).heap.size (w.alloc (.cells #[.int .i64 0, .int .i64 0, .int .u64 0, .int .u64 0, .int .u64 0] 63)) w2 from (Below.refl _ _).drew.trans hb); clear hb)
      | (go_at_call 204; refine (load_any i cu _).mono ?_; rintro e w4 ⟨rfl, hb⟩; have HB4 := Lib.hid (show Below (w.alloc (.cells #[.int .i64 0, .int .i64 0, .int .u64 0, .int .u64 0, .int .u64 0] 63)).heap.size (w.alloc (.cells #[.int .i64 0, .int .i64 0, .int .u64 0, .int .u64 0, .int .u64 0] 63)) w4 from HB2.out.trans (hb.mono HB2.out.size)); obtain ⟨⟨r0, r1, r2, r3, r4⟩, g0, g1, g2, g3, g4⟩ := res5 HB4.out; clear hb))
  obtain ⟨⟨s0, s1, s2, s3, s4⟩, hB⟩ := set5 HB4.out (.int .i64 1) (.int .i64 i) (.int .u64 0) (.int .u64 0) (.int .u64 cu)
  have HB := Lib.hid hB
  clear hB r0 r1 r2 r3 r4 g0 g1 g2 g3 g4
  go_wp2
  exact bodyPost_ret (v := .tuple #[.agg #[.int .i64 1, .int .i64 i, .int .u64 0, .int .u64 0, .int .u64 cu], .bool true]) (by simp [results, Tryz.results199, go_sem, s0, s1, s2, s3, s4]) rfl ⟨rfl, HB.out⟩
theorem next_3 {w : World} {p c1 c2 : Nat} {S : Nat → Prop} {T N L G dl sq lv pr cu nx : Int} {ps ss : List Int} {A1 A2 : Option Addr} (h : Parts w p S T N L G dl sq ⟨3, lv, pr, cu, nx, ps, ss⟩ A1 c1 A2 c2) (hr : 0 ≤ pr ∧ pr < 18446744073709551616) : Calls Tryz.prog 199 #[.pointer (some ⟨p, 0, none⟩)] w (Told w (some (3, nextI T L (idx pr) lv, cu, nx, pr))) := by
  obtain ⟨-, -, -, -, -, -, e6, -⟩ := h.cells
  simp only at e6
  have K6 := fun o => cell_later (box_below w o) e6
  have HX := Lib.hid h
  have HW := Lib.hid fun (W : World) (hb : Below w.heap.size w W) => wayOn_any (h.later hb) hr
  simp only at HW
  generalize nextI T L (idx pr) lv = i at HW ⊢
  clear h hr
  go_enter Tryz.func199, Tryz.ntmps199
  go_wp2
  go_region_held3 (fun W => W.cell? ⟨p, 0, none⟩ = some (.int .i64 T) ∧ W.cell? ⟨p, 1, none⟩ = some (.int .i64 N) ∧ W.cell? ⟨p, 2, none⟩ = some (.int .i64 L) ∧ W.cell? ⟨p, 3, none⟩ = some (.int .u64 G) ∧ W.cell? ⟨p, 8, none⟩ = some (.int .u64 pr) ∧ W.cell? ⟨p, 9, none⟩ = some (.int .u64 cu) ∧ W.cell? ⟨p, 10, none⟩ = some (.int .u64 nx))
    ((first | (with_reducible exact stay_start HX.out) | (with_reducible assumption) | (with_reducible exact stay_past HX.out HB2.out) | (with_reducible exact stay_set HX.out HB2.out _ _ _ _ _)))
    ((go_at_call 205; refine (HW.out _ ((box_below w _).drew)).mono ?_; rintro e w2 ⟨rfl, hb⟩; have HB2 := Lib.hid (show Below (w.alloc (.cells #[.int .i64 0, .int .i64 0, .int .u64 0, .int .u64 0, .int .u64 0] 63)).heap.size (w.alloc (.cells #[.int .i64 0, .int .i64 0, .int .u64 0, .int .u64 0, .int .u64 0] 63)) w2 from (Below.refl _ _).drew.trans hb); obtain ⟨⟨r0, r1, r2, r3, r4⟩, g0, g1, g2, g3, g4⟩ := res5 HB2.out; clear hb))
  obtain ⟨⟨s0, s1, s2, s3, s4⟩, hB⟩ := set5 HB2.out (.int .i64 3) (.int .i64 i) (.int .u64 cu) (.int .u64 nx) (.int .u64 pr)
  have HB := Lib.hid hB
  clear hB r0 r1 r2 r3 r4 g0 g1 g2 g3 g4
  go_wp2
  exact bodyPost_ret (v := .tuple #[.agg #[.int .i64 3, .int .i64 i, .int .u64 cu, .int .u64 nx, .int .u64 pr], .bool true]) (by simp [results, Tryz.results199, go_sem, s0, s1, s2, s3, s4]) rfl ⟨rfl, HB.out⟩
theorem next_4 {w : World} {p c1 c2 : Nat} {S : Nat → Prop} {T N L G dl sq lv pr cu nx : Int} {ps ss : List Int} {A1 A2 : Option Addr} (h : Parts w p S T N L G dl sq ⟨4, lv, pr, cu, nx, ps, ss⟩ A1 c1 A2 c2) (hr : 0 ≤ cu ∧ cu < 18446744073709551616) : Calls Tryz.prog 199 #[.pointer (some ⟨p, 0, none⟩)] w (Told w (some (1, atI T L (idx cu) 1, 0, 0, cu))) := by
  obtain ⟨-, -, -, -, -, -, e6, -⟩ := h.cells
  simp only at e6
  have K6 := fun o => cell_later (box_below w o) e6
  have HX := Lib.hid h
  have HI := Lib.hid fun W => Refer.Index_any cu hr.1 hr.2 W
  have HW := Lib.hid fun W => Plan.Dead_any T N L G (idx cu) W
  unfold idx at HW ⊢
  generalize cu % 4294967296 / 2 = j at HW HI ⊢
  generalize atI T L j 1 = i at HW ⊢
  clear h hr
  go_enter Tryz.func199, Tryz.ntmps199
  go_wp2
  go_region_held3 (fun W => W.cell? ⟨p, 0, none⟩ = some (.int .i64 T) ∧ W.cell? ⟨p, 1, none⟩ = some (.int .i64 N) ∧ W.cell? ⟨p, 2, none⟩ = some (.int .i64 L) ∧ W.cell? ⟨p, 3, none⟩ = some (.int .u64 G) ∧ W.cell? ⟨p, 8, none⟩ = some (.int .u64 pr) ∧ W.cell? ⟨p, 9, none⟩ = some (.int .u64 cu) ∧ W.cell? ⟨p, 10, none⟩ = some (.int .u64 nx))
    ((first | (with_reducible exact stay_start HX.out) | (with_reducible assumption) | (with_reducible exact stay_past HX.out HB4.out) | (with_reducible exact stay_past HX.out HB2.out) | (with_reducible exact stay_set HX.out HB4.out _ _ _ _ _)))
    (first
      | (go_at_call 36; refine (HI.out _).mono ?_; rintro e w1 ⟨rfl, rfl⟩)
      | (go_at_call 124; refine (HW.out _).mono ?_; rintro e w2 ⟨rfl, hb⟩; have HB2 := Lib.hid (show Below (w.alloc (.cells #[.int .i64 0, .int .i64 0, .int .u64 0, .int .u64 0, .int .u64 0] 63)).heap.size (w.alloc (.cells #[.int .i64 0, .int .i64 0, .int .u64 0, .int .u64 0, .int .u64 0] 63)) w2 from (Below.refl _ _).drew.trans hb); clear hb)
      | (go_at_call 204; refine (load_any i cu _).mono ?_; rintro e w4 ⟨rfl, hb⟩; have HB4 := Lib.hid (show Below (w.alloc (.cells #[.int .i64 0, .int .i64 0, .int .u64 0, .int .u64 0, .int .u64 0] 63)).heap.size (w.alloc (.cells #[.int .i64 0, .int .i64 0, .int .u64 0, .int .u64 0, .int .u64 0] 63)) w4 from HB2.out.trans (hb.mono HB2.out.size)); obtain ⟨⟨r0, r1, r2, r3, r4⟩, g0, g1, g2, g3, g4⟩ := res5 HB4.out; clear hb))
  obtain ⟨⟨s0, s1, s2, s3, s4⟩, hB⟩ := set5 HB4.out (.int .i64 1) (.int .i64 i) (.int .u64 0) (.int .u64 0) (.int .u64 cu)
  have HB := Lib.hid hB
  clear hB r0 r1 r2 r3 r4 g0 g1 g2 g3 g4
  go_wp2
  exact bodyPost_ret (v := .tuple #[.agg #[.int .i64 1, .int .i64 i, .int .u64 0, .int .u64 0, .int .u64 cu], .bool true]) (by simp [results, Tryz.results199, go_sem, s0, s1, s2, s3, s4]) rfl ⟨rfl, HB.out⟩
theorem next_5 {w : World} {p c1 c2 : Nat} {S : Nat → Prop} {T N L G dl sq lv pr cu nx : Int} {ps ss : List Int} {A1 A2 : Option Addr} (h : Parts w p S T N L G dl sq ⟨5, lv, pr, cu, nx, ps, ss⟩ A1 c1 A2 c2) (hr : 0 ≤ cu ∧ cu < 18446744073709551616) : Calls Tryz.prog 199 #[.pointer (some ⟨p, 0, none⟩)] w (Told w (some (1, atI T L (idx cu) 2, 0, 0, cu))) := by
  obtain ⟨-, -, -, -, -, -, e6, -⟩ := h.cells
  simp only at e6
  have K6 := fun o => cell_later (box_below w o) e6
  have HX := Lib.hid h
  have HI := Lib.hid fun W => Refer.Index_any cu hr.1 hr.2 W
  have HW := Lib.hid fun W => Plan.Seq_any T N L G (idx cu) W
  unfold idx at HW ⊢
  generalize cu % 4294967296 / 2 = j at HW HI ⊢
  generalize atI T L j 2 = i at HW ⊢
  clear h hr
  go_enter Tryz.func199, Tryz.ntmps199
  go_wp2
  go_region_held3 (fun W => W.cell? ⟨p, 0, none⟩ = some (.int .i64 T) ∧ W.cell? ⟨p, 1, none⟩ = some (.int .i64 N) ∧ W.cell? ⟨p, 2, none⟩ = some (.int .i64 L) ∧ W.cell? ⟨p, 3, none⟩ = some (.int .u64 G) ∧ W.cell? ⟨p, 8, none⟩ = some (.int .u64 pr) ∧ W.cell? ⟨p, 9, none⟩ = some (.int .u64 cu) ∧ W.cell? ⟨p, 10, none⟩ = some (.int .u64 nx))
    ((first | (with_reducible exact stay_start HX.out) | (with_reducible assumption) | (with_reducible exact stay_past HX.out HB4.out) | (with_reducible exact stay_past HX.out HB2.out) | (with_reducible exact stay_set HX.out HB4.out _ _ _ _ _)))
    (first
      | (go_at_call 36; refine (HI.out _).mono ?_; rintro e w1 ⟨rfl, rfl⟩)
      | (go_at_call 125; refine (HW.out _).mono ?_; rintro e w2 ⟨rfl, hb⟩; have HB2 := Lib.hid (show Below (w.alloc (.cells #[.int .i64 0, .int .i64 0, .int .u64 0, .int .u64 0, .int .u64 0] 63)).heap.size (w.alloc (.cells #[.int .i64 0, .int .i64 0, .int .u64 0, .int .u64 0, .int .u64 0] 63)) w2 from (Below.refl _ _).drew.trans hb); clear hb)
      | (go_at_call 204; refine (load_any i cu _).mono ?_; rintro e w4 ⟨rfl, hb⟩; have HB4 := Lib.hid (show Below (w.alloc (.cells #[.int .i64 0, .int .i64 0, .int .u64 0, .int .u64 0, .int .u64 0] 63)).heap.size (w.alloc (.cells #[.int .i64 0, .int .i64 0, .int .u64 0, .int .u64 0, .int .u64 0] 63)) w4 from HB2.out.trans (hb.mono HB2.out.size)); obtain ⟨⟨r0, r1, r2, r3, r4⟩, g0, g1, g2, g3, g4⟩ := res5 HB4.out; clear hb))
  obtain ⟨⟨s0, s1, s2, s3, s4⟩, hB⟩ := set5 HB4.out (.int .i64 1) (.int .i64 i) (.int .u64 0) (.int .u64 0) (.int .u64 cu)
  have HB := Lib.hid hB
  clear hB r0 r1 r2 r3 r4 g0 g1 g2 g3 g4
  go_wp2
  exact bodyPost_ret (v := .tuple #[.agg #[.int .i64 1, .int .i64 i, .int .u64 0, .int .u64 0, .int .u64 cu], .bool true]) (by simp [results, Tryz.results199, go_sem, s0, s1, s2, s3, s4]) rfl ⟨rfl, HB.out⟩
theorem Next_any {w : World} {p k : Nat} {S : Nat → Prop} {T N L G dl sq : Int} {s : St} (h : Seeks w p S T N L G dl sq k s) : Calls Tryz.prog 199 #[.pointer (some ⟨p, 0, none⟩)] w (Told w (seekA T L s)) := by
  obtain ⟨ho, hL, A1, c1, A2, c2, h⟩ := h
  obtain ⟨st, lv, pr, cu, nx, ps, ss⟩ := s
  obtain ⟨h1, h2, h3, h4, h5, h6, h7⟩ := ho
  simp only at h1 h2 h3 h4 h5 h6 h7
  rcases h1 with rfl | rfl | rfl | rfl | rfl | rfl
  · rw [seekA_0]; exact next_0 h
  · rw [seekA_1]; exact next_1 h h3
  · rw [seekA_2]; exact next_2 h h4
  · rw [seekA_3]; exact next_3 h h3
  · rw [seekA_4]; exact next_4 h h4
  · rw [seekA_5]; exact next_5 h h4
end Go.Proofs.YtlagghghbpbcbaaGreatDoor.Seek
