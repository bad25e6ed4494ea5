/- The functions of package cells (layer 6), each held to a plain list of words: what each call tells, and what stands in the memory behind it; all else in memory stays as it was. -/
import Derived.Test.YtelnkbikgboblaaRows
import Derived.Test.YtelnkbikgboblaaInts
import Derived.Test.YtelnkbikgboblaaCellsMath
import Derived.WalkKit
import Derived.ProofKit
import Derived.Lib.Hide
import Derived.Deep.RegionHeld3
namespace Go.Proofs.Ytelnkbikgboblaa.Cells
set_option maxRecDepth 20000
open Go.ChangeShapes Go.WideShapes Go.RowKit CM Lay Ints

theorem ret_i64 {a b : Int} (h : a = b) : Ending.returned (.int .i64 a) = .returned (.int .i64 b) := by rw [h]
theorem ret_u64 {a b : Int} (h : a = b) : Ending.returned (.int .u64 a) = .returned (.int .u64 b) := by rw [h]
theorem ret_bool {a b : Bool} (h : a = b) : Ending.returned (.bool a) = .returned (.bool b) := by rw [h]
theorem mixed : Try.prog.follows .mixedOrders = true := by kernel_rfl

/-! Worlds in which all but one block has stayed. -/
theorem grown_refl (w : World) (r : Option Nat) : w.grownBy w r := ⟨rfl, rfl, rfl, Nat.le_refl _, fun _ _ _ => rfl⟩
theorem grown_trans {a b c : World} {r : Option Nat} (h : a.grownBy b r) (k : b.grownBy c r) : a.grownBy c r :=
  ⟨k.os.trans h.os, k.tape.trans h.tape, k.output.trans h.output, Nat.le_trans h.size k.size, fun i hi hr => (k.block i (Nat.lt_of_lt_of_le hi h.size) hr).trans (h.block i hi hr)⟩
theorem grown_below {w w' : World} (r : Option Nat) (h : Below w.heap.size w w') : w.grownBy w' r := ⟨h.os, h.tape, h.output, h.size, fun k hk _ => h.block k hk⟩
theorem grown_setCell (w : World) (h j : Nat) (v : Value) : w.grownBy (w.setCell ⟨h, j, none⟩ v) (some h) :=
  ⟨rfl, rfl, rfl, by simp [World.setCell], fun k _ hr => Below.heap_setCell _ _ _ _ (fun e => hr (by rw [e]))⟩
theorem below_of_grown {B h : Nat} {a w w' : World} (hb : Below B a w) (hg : w.grownBy w' (some h)) (hB : B ≤ w.heap.size) (hh : B ≤ h) : Below B a w' :=
  hb.grown hg hB fun k hk => by cases hk; exact hh
theorem row_grown {w w' : World} {h : Nat} {A : Option Addr} {xs : List Value} (hR : Row w w.heap.size A xs) (hg : w.grownBy w' (some h)) (hA : xs ≠ [] → ∀ a, A = some a → a.block ≠ h) : Row w' w'.heap.size A xs := fun hn => by
  obtain ⟨b, o, e, hb, hc⟩ := hR hn
  have hne : b ≠ h := hA hn _ e
  refine ⟨b, o, e, Nat.lt_of_lt_of_le hb hg.size, fun j v hv => ?_⟩
  rw [World.cell?_of_block (w := w) (hg.block b hb (fun e => hne (by simpa using e)))]
  exact hc j v hv
theorem row_old {w : World} {B h : Nat} {A : Option Addr} {xs : List Value} (hR : Row w B A xs) (hB : B ≤ h) : xs ≠ [] → ∀ a, A = some a → a.block ≠ h := fun hn a ha => by
  obtain ⟨b, o, e, hb, _⟩ := hR hn
  rw [e] at ha
  cases ha
  show b ≠ h
  omega
theorem flat_none {k : IntKind} {l l' : List Int} (h : l.length = l'.length) (hn : flat (encZ k) l ≠ []) : flat (encZ k) l' ≠ [] := fun e => hn (by
  have h1 : l'.length = 0 := by have := flat_ints_length k l'; rw [e] at this; simpa using this.symm
  rw [List.eq_nil_of_length_eq_zero (h.trans h1)]; rfl)
theorem row_new (w : World) (cs : Array Value) (t : TypeId) : Row (w.alloc (.cells cs t)) (w.alloc (.cells cs t)).heap.size (some ⟨w.heap.size, 0, none⟩) cs.toList := fun _ =>
  ⟨w.heap.size, 0, rfl, by simp, fun j v hv => by rw [Nat.zero_add, cell_of_row _ _ _ _ _ _ (heap_alloc_new w _)]; simpa using hv⟩
theorem own_of_whole {w : World} {base g n : Nat} {e : TypeId} {cs : List Value} (hg : w.heap[g]? = some (.cells cs.toArray e (0, 0))) (hb : base ≤ g) (hn : cs.length = n) (hm : n ≤ maxLen) :
    w.ownsRow base e 1 (.slice (some ⟨g, 0, none⟩) n n) n cs :=
  ⟨by omega, .inr ⟨g, n, cs.toArray, rfl, hb, hg, Nat.le_refl _, hm, by simpa using hn, by rw [List.take_of_length_le (by simp; omega)]⟩⟩

/-- A memory: a struct in block p that holds a row of the words, the whole of block h. -/
def Mem (w : World) (p h n : Nat) (l : List Int) : Prop :=
  p ≠ h ∧ n = l.length ∧ n ≤ 4096 ∧ w.cell? ⟨p, 0, none⟩ = some (.slice (some ⟨h, 0, none⟩) n n) ∧ w.ownsRow 0 22 1 (.slice (some ⟨h, 0, none⟩) n n) n (flat (encZ .u64) l)

theorem Mem.len {w : World} {p h n : Nat} {l : List Int} (hM : Mem w p h n l) : n = l.length := hM.2.1
theorem Mem.most {w : World} {p h n : Nat} {l : List Int} (hM : Mem w p h n l) : n ≤ 4096 := hM.2.2.1
theorem Mem.box {w : World} {p h n : Nat} {l : List Int} (hM : Mem w p h n l) : w.cell? ⟨p, 0, none⟩ = some (.slice (some ⟨h, 0, none⟩) n n) := hM.2.2.2.1
theorem Mem.own {w : World} {p h n : Nat} {l : List Int} (hM : Mem w p h n l) : w.ownsRow 0 22 1 (.slice (some ⟨h, 0, none⟩) n n) n (flat (encZ .u64) l) := hM.2.2.2.2
theorem Mem.row {w : World} {p h n : Nat} {l : List Int} (hM : Mem w p h n l) : Row w w.heap.size (some ⟨h, 0, none⟩) (flat (encZ .u64) l) := Row.of_own hM.own
theorem Mem.lt {w : World} {p h n : Nat} {l : List Int} (hM : Mem w p h n l) : p < w.heap.size ∧ h < w.heap.size :=
  ⟨World.block_lt_of_cell? _ _ hM.box, (hM.own.lt h rfl).2⟩
theorem Mem.grown {w w' : World} {p h n r : Nat} {l : List Int} (hM : Mem w p h n l) (hg : w.grownBy w' (some r)) (hp : p ≠ r) (hh : h ≠ r) : Mem w' p h n l :=
  ⟨hM.1, hM.len, hM.most, hg.cell hM.box (by simpa using hp), hM.own.kept hg (Or.inr (by simpa [Value.ownBlock] using hh))⟩
theorem Mem.later {w w' : World} {p h n : Nat} {l : List Int} (hM : Mem w p h n l) (hb : Below w.heap.size w w') : Mem w' p h n l :=
  ⟨hM.1, hM.len, hM.most, cell_later hb hM.box, own_later hM.own hb⟩
theorem Mem.stored {w : World} {p h n : Nat} {l : List Int} (hM : Mem w p h n l) (j : Nat) (v : Int) : Mem (w.setCell ⟨h, j, none⟩ (.int .u64 v)) p h n (l.set j v) :=
  ⟨hM.1, by simpa using hM.len, hM.most, (grown_setCell w h j _).cell hM.box (by simpa using hM.1), own_int_set hM.own j v⟩
theorem Mem.made {w : World} {h n : Nat} {l : List Int} {base : Nat} {t : TypeId} (hw : w.ownsRow base 22 1 (.slice (some ⟨h, 0, none⟩) n n) n (flat (encZ .u64) l)) (hn : n = l.length) (hm : n ≤ 4096) :
    Mem (w.alloc (.cells #[.slice (some ⟨h, 0, none⟩) n n] t)) w.heap.size h n l := by
  refine ⟨?_, hn, hm, ?_, ?_⟩
  · have := (hw.lt h rfl).2
    omega
  · rw [cell_of_row _ _ _ _ _ _ (heap_alloc_new w _)]
    rfl
  · have h1 := hw.alloc (.cells #[.slice (some ⟨h, 0, none⟩) n n] t)
    refine ⟨h1.1, ?_⟩
    rcases h1.2 with h2 | ⟨g, cap, cur, hv, _, r⟩
    · exact .inl h2
    · exact .inr ⟨g, cap, cur, hv, Nat.zero_le _, r⟩
/-- What stands at a place that there is. -/
theorem Mem.word {w : World} {p h n : Nat} {l : List Int} (hM : Mem w p h n l) {j : Nat} (hj : j < n) : w.cell? ⟨h, j, none⟩ = some (.int .u64 (getI l (j : Int))) ∧ w.frozen? ⟨h, j, none⟩ = false := by
  have hx := List.getElem?_eq_getElem (show j < l.length by rw [← hM.len]; exact hj)
  have := own_int_at hM.own hM.len hx
  rwa [← getI_some hx] at this


/-- What an access that stores ends in. -/
def Does (w : World) (p h n : Nat) (f : Int) (l : List Int) (e : Ending) (w' : World) : Prop := e = .returned (.int .u64 f) ∧ w.grownBy w' (some h) ∧ Mem w' p h n l




/-- A new memory of the words. -/
def Makes (w : World) (n : Nat) (l : List Int) (w' : World) (p h : Nat) : Prop := Mem w' p h n l ∧ w.heap.size ≤ p ∧ w.heap.size ≤ h ∧ Below w.heap.size w w'
theorem makes_of {w w1 : World} {n : Nat} {l : List Int} {t : TypeId} (hw : w1.ownsRow w.heap.size 22 1 (.slice (some ⟨w.heap.size, 0, none⟩) n n) n (flat (encZ .u64) l)) (hb : Below w.heap.size w w1) (hn : n = l.length) (hm : n ≤ 4096) :
    Makes w n l (w1.alloc (.cells #[.slice (some ⟨w.heap.size, 0, none⟩) n n] t)) w1.heap.size w.heap.size :=
  ⟨Mem.made hw hn hm, hb.size, Nat.le_refl _, hb.alloc hb.size _⟩

end Go.Proofs.Ytelnkbikgboblaa.Cells
