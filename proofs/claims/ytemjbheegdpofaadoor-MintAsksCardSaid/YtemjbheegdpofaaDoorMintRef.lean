/- The document's answer for layer 19 (package sundialref19), on a tape that holds deeds already, or has stopped: just what a maker asks for, and the timer. -/
import Derived.Test.YtemjbheegdpofaaDoorTape
import Derived.Test.YtemjbheegdpofaaDoorMintMath
import Derived.Test.YtemjbheegdpofaaDoorPlanRef
import Derived.Test.YtemjbheegdpofaaDoorReferRef
import Derived.Test.YtemjbheegdpofaaDoorStateRef
namespace Go.Proofs.YtemjbheegdpofaaDoor.MintRef
set_option maxRecDepth 20000
open Go.ChangeShapes Go.WideShapes Go.RowKit CM DM PM MiM Runs Lay Ints Plan Go.Proofs.YtemjbheegdpofaaDoor.Task Go.Proofs.YtemjbheegdpofaaDoor.Tape
set_option linter.unusedVariables false
set_option linter.unusedSimpArgs false

theorem plan4 {w w' : World} {N : Nat} {R : Nat → Prop} {T S L G : Int} (h : w.cell? ⟨N, 0, none⟩ = some (.int .i64 T) ∧ w.cell? ⟨N, 1, none⟩ = some (.int .i64 S) ∧ w.cell? ⟨N, 2, none⟩ = some (.int .i64 L) ∧ w.cell? ⟨N, 3, none⟩ = some (.int .u64 G)) (ho : Only R w w') (hr : ¬ R N) :
    w'.cell? ⟨N, 0, none⟩ = some (.int .i64 T) ∧ w'.cell? ⟨N, 1, none⟩ = some (.int .i64 S) ∧ w'.cell? ⟨N, 2, none⟩ = some (.int .i64 L) ∧ w'.cell? ⟨N, 3, none⟩ = some (.int .u64 G) :=
  ⟨ho.cell h.1 hr, ho.cell h.2.1 hr, ho.cell h.2.2.1 hr, ho.cell h.2.2.2 hr⟩

/-- A word laid into a block that the tape never touches, and that is too short to hold what it is told. -/
theorem tp_stored {P : Nat → Prop} {W : World} {x k j : Nat} {fs : List Int} {out : List D} {st : Bool} {cs : Array Value} {t : TypeId} (h : Tp P W x fs out st) (hk : P k) (hc : W.heap[k]? = some (.cells cs t (0, 0))) (hs : cs.size < fs.length) (v : Value) :
    Tp P (W.setCell ⟨k, j, none⟩ v) x fs out st := by
  obtain ⟨⟨A, c, O, oc, hb, hr, ho, ha, hA⟩, hl, ho2, hf, hn⟩ := h
  have hset := only_setCell (R := fun b => b = k) W (p := ⟨k, j, none⟩) rfl v
  have hxk : x ≠ k := fun e => hl (e ▸ hk)
  refine ⟨⟨A, c, O, oc, hset.heap hb hxk, hset.row hr ?_, hset.own ho ?_, ha, hA⟩, hl, fun b q => Nat.lt_of_lt_of_le (ho2 b q) hset.size, hf, hn⟩
  · intro hne p hp e
    obtain ⟨b, o, rfl, _, hcell⟩ := int_at hr (show fs.length - 1 < fs.length by omega)
    cases hp
    simp only at e
    subst e
    have h2 := hcell (fs.length - 1) _ (List.getElem?_eq_getElem (by omega))
    rw [(cell_heap hc _).1] at h2
    have := (Array.getElem?_eq_some_iff.1 h2).1
    omega
  · intro b hb e
    cases O with
    | none => cases hb
    | some a =>
      cases hb
      exact (ha a rfl).2 (e ▸ hk)
/-- A word laid where it is already. -/
theorem set_same {W : World} {k j : Nat} {cs : Array Value} {t : TypeId} (hc : W.heap[k]? = some (.cells cs t (0, 0))) {v : Value} (hv : cs[j]? = some v) : W.setCell ⟨k, j, none⟩ v = W := by
  have hh : (W.setCell ⟨k, j, none⟩ v).heap = W.heap := by
    refine Array.ext_getElem? fun b => ?_
    by_cases e : b = k
    · subst e
      rw [set_heap (j := j) hc v, hc]
      congr 2
      obtain ⟨hlt, hv2⟩ := Array.getElem?_eq_some_iff.1 hv
      exact Array.ext_getElem? fun n => by
        rw [Array.getElem?_setIfInBounds]
        split
        · rename_i e2
          subst e2
          exact hv.symm
        · rfl
    · exact Below.heap_setCell _ _ _ _ (fun q => e q)
  show ({ W with heap := (W.setCell ⟨k, j, none⟩ v).heap } : World) = W
  rw [hh]

/-- What the document's making ends in. -/
def MintRan (P : Nat → Prop) (w : World) (x : Nat) (fs : List Int) (pre : List D) (T L i dl dw tw : Int) (e : Ending) (w' : World) : Prop :=
  ∃ s out, e = .returned (.tuple #[.int .u64 (refI s), .agg #[.int .i64 (keyI dl s).1, .int .u64 (keyI dl s).2]]) ∧ Fins (minA T L i dw tw) (minT i) fs pre ⟨0, 0, 0, 0⟩ out s ∧ Tp P w' x fs out (minA T L i dw tw s).isSome ∧ Only (fun k => ¬ P k) w w'
/-- Amid the deeds: the tape goes on, or has stopped. -/
def Ran (P : Nat → Prop) (w : World) (x : Nat) (fs : List Int) (pre : List D) (T L i dw tw : Int) (s : St) (W : World) : Prop :=
  (∃ out, (Amid (minA T L i dw tw) (minT i) fs pre ⟨0, 0, 0, 0⟩ out s ∧ out.length = pre.length + s.k) ∧ Tp P W x fs out false ∧ Only (fun k => ¬ P k) w W) ∨
  (∃ s' out, Fins (minA T L i dw tw) (minT i) fs pre ⟨0, 0, 0, 0⟩ out s' ∧ (minA T L i dw tw s').isSome = true ∧ Tp P W x fs out true ∧ Only (fun k => ¬ P k) w W)
section
variable {P : Nat → Prop} {w W W' : World} {x : Nat} {fs : List Int} {pre : List D} {T L i dw tw : Int} {s : St}
theorem Ran.only (h : Ran P w x fs pre T L i dw tw s W) : Only (fun k => ¬ P k) w W := by
  rcases h with ⟨_, _, _, h⟩ | ⟨_, _, _, _, _, h⟩ <;> exact h
theorem Ran.later (h : Ran P w x fs pre T L i dw tw s W) (hb : Below W.heap.size W W') : Ran P w x fs pre T L i dw tw s W' := by
  rcases h with ⟨out, h1, h2, h3⟩ | ⟨s', out, h1, h2, h3, h4⟩
  · exact .inl ⟨out, h1, h2.later hb, h3.then_below hb⟩
  · exact .inr ⟨s', out, h1, h2, h3.later hb, h4.then_below hb⟩
/-- A call of the tape: a word is found, and it goes on. -/
def Found (P : Nat → Prop) (w : World) (x : Nat) (fs : List Int) (pre : List D) (T L i dw tw : Int) (s : St) (e : Ending) (W' : World) : Prop := ∃ f, e = .returned (.int .u64 f) ∧ Word f ∧ Ran P w x fs pre T L i dw tw (minT i s f) W'
theorem ran_load (h : Ran P w x fs pre T L i dw tw s W) (hf : ∀ f ∈ fs, Word f) (a y : Int) (ha : minA T L i dw tw s = some (1, a, 0, 0, y)) : Calls Tryd.prog 29 #[.pointer (some ⟨x, 0, none⟩), .int .i64 a, .int .u64 y] W (Found P w x fs pre T L i dw tw s) := by
  rcases h with ⟨out, ⟨h1, hk⟩, h2, h3⟩ | ⟨s', out, h1, h2, h3, h4⟩
  · by_cases hl : out.length = fs.length
    · exact (Load_last h2 hl a y).mono fun e w' ⟨a, b, c⟩ => ⟨0, a, word_zero, .inr ⟨s, _, h1.last ha (by omega), by rw [ha]; rfl, b, h3.trans c⟩⟩
    · obtain ⟨f, hff⟩ : ∃ f, fs[out.length]? = some f := ⟨_, List.getElem?_eq_getElem (by have := h1.len; omega)⟩
      exact (Load_more h2 hff a y).mono fun e w' ⟨a, b, c⟩ => ⟨f, a, hf f (List.mem_of_getElem? hff), .inl ⟨_, ⟨h1.more ha hff, by rw [minT_k (some_k ha), List.length_append, hk]; simp; omega⟩, b, h3.trans c⟩⟩
  · exact (Load_stop h3 a y).mono fun e w' ⟨a, b⟩ => ⟨0, a, word_zero, .inr ⟨s', out, h1, h2, b ▸ h3, b ▸ h4⟩⟩
theorem ran_do (h : Ran P w x fs pre T L i dw tw s W) (hf : ∀ f ∈ fs, Word f) (kd a u v y : Int) (ha : minA T L i dw tw s = some (kd, a, u, v, y)) : Calls Tryd.prog 33 #[.pointer (some ⟨x, 0, none⟩), .int .i64 kd, .int .i64 a, .int .u64 u, .int .u64 v, .int .u64 y] W (Found P w x fs pre T L i dw tw s) := by
  rcases h with ⟨out, ⟨h1, hk⟩, h2, h3⟩ | ⟨s', out, h1, h2, h3, h4⟩
  · by_cases hl : out.length = fs.length
    · exact (Do_last h2 hl kd a u v y).mono fun e w' ⟨a, b, c⟩ => ⟨0, a, word_zero, .inr ⟨s, _, h1.last ha (by omega), by rw [ha]; rfl, b, h3.trans c⟩⟩
    · obtain ⟨f, hff⟩ : ∃ f, fs[out.length]? = some f := ⟨_, List.getElem?_eq_getElem (by have := h1.len; omega)⟩
      exact (Do_more h2 hff kd a u v y).mono fun e w' ⟨a, b, c⟩ => ⟨f, a, hf f (List.mem_of_getElem? hff), .inl ⟨_, ⟨h1.more ha hff, by rw [minT_k (some_k ha), List.length_append, hk]; simp; omega⟩, b, h3.trans c⟩⟩
  · exact (Do_stop h3 kd a u v y).mono fun e w' ⟨a, b⟩ => ⟨0, a, word_zero, .inr ⟨s', out, h1, h2, b ▸ h3, b ▸ h4⟩⟩
/-- A store: what was found does not matter. -/
theorem ran_store (h : Ran P w x fs pre T L i dw tw s W) {s2 : St} (h2 : ∀ f, minT i s f = s2) (a u y : Int) (ha : minA T L i dw tw s = some (2, a, u, 0, y)) : Calls Tryd.prog 31 #[.pointer (some ⟨x, 0, none⟩), .int .i64 a, .int .u64 u, .int .u64 y] W fun e W' => e = .returned (.tuple #[]) ∧ Ran P w x fs pre T L i dw tw s2 W' := by
  rcases h with ⟨out, ⟨h1, hk⟩, h3, h4⟩ | ⟨s', out, h1, h3, h4, h5⟩
  · by_cases hl : out.length = fs.length
    · exact (Store_last h3 hl a u y).mono fun e w' ⟨p, b, c⟩ => ⟨p, .inr ⟨s, _, h1.last ha (by omega), by rw [ha]; rfl, b, h4.trans c⟩⟩
    · obtain ⟨f, hff⟩ : ∃ f, fs[out.length]? = some f := ⟨_, List.getElem?_eq_getElem (by have := h1.len; omega)⟩
      exact (Store_more h3 hff a u y).mono fun e w' ⟨p, b, c⟩ => ⟨p, .inl ⟨_, ⟨h2 f ▸ h1.more ha hff, by rw [← h2 f, minT_k (some_k ha), List.length_append, hk]; simp; omega⟩, b, h4.trans c⟩⟩
  · exact (Store_stop h4 a u y).mono fun e w' ⟨p, b⟩ => ⟨p, .inr ⟨s', out, h1, h3, b ▸ h4, b ▸ h5⟩⟩
end

theorem Mint_runs {P : Nat → Prop} {x : Nat} {w : World} {fs : List Int} {pre : List D} (hT : Tp P w x fs pre false) (hle : pre.length ≤ fs.length) (hf : ∀ f ∈ fs, 0 ≤ f ∧ f < 18446744073709551616) (T S L G i dl tl : Int) : Calls Tryd.prog 9 #[.pointer (some ⟨x, 0, none⟩), .agg #[.int .i64 T, .int .i64 S, .int .i64 L, .int .u64 G], .int .i64 i, .int .i64 dl, .int .i64 tl] w (MintRan P w x fs pre T L i dl (IntKind.u64.wrap dl) (IntKind.u64.wrap tl)) := by
  have HF := Lib.hid hf
  obtain ⟨P', hP'⟩ : ∃ P' : Nat → Prop, P' = fun k => P k ∨ k = w.heap.size ∨ k = w.heap.size + 1 := ⟨_, rfl⟩
  obtain ⟨w0, hw0⟩ : ∃ w0, w0 = (w.alloc (.cells #[.int .i64 T, .int .i64 S, .int .i64 L, .int .u64 G] 24)).alloc (.cells #[.int .i64 0, .int .u64 0] 40) := ⟨_, rfl⟩
  have hz : (w.alloc (.cells #[.int .i64 T, .int .i64 S, .int .i64 L, .int .u64 G] 24)).heap.size = w.heap.size + 1 := by simp
  have hT0 : Tp P' w0 x fs pre false := by
    subst hP' hw0
    have := (hT.more (.cells #[.int .i64 T, .int .i64 S, .int .i64 L, .int .u64 G] 24)).more (.cells #[.int .i64 0, .int .u64 0] 40)
    exact this.less fun k q => by rw [hz]; rcases q with q | q | q <;> simp [q]
  have HLESS := Lib.hid (show ∀ (wr : World) out st, Tp P' wr x fs out st → Only (fun k => ¬ P' k) w0 wr → Tp P wr x fs out st ∧ Only (fun k => ¬ P k) w wr from fun wr out st h1 h2 => by
    subst hP' hw0
    exact ⟨h1.less fun k q => .inl q, ((only_alloc w _ (.cells #[.int .i64 T, .int .i64 S, .int .i64 L, .int .u64 G] 24)).trans (only_alloc _ _ (.cells #[.int .i64 0, .int .u64 0] 40))).trans (h2.wide fun k q => .inl fun z => q (.inl z))⟩)
  have HSUB := Lib.hid (show ∀ k, P k → P' k from fun k q => by rw [hP']; exact .inl q)
  have HN := Lib.hid (show ¬ (fun k => ¬ P' k) w.heap.size ∧ ¬ (fun k => ¬ P' k) (w.heap.size + 1) from ⟨fun q => q (by rw [hP']; exact .inr (.inl rfl)), fun q => q (by rw [hP']; exact .inr (.inr rfl))⟩)
  have HB := Lib.hid (show w0.cell? ⟨w.heap.size, 0, none⟩ = some (.int .i64 T) ∧ w0.cell? ⟨w.heap.size, 1, none⟩ = some (.int .i64 S) ∧ w0.cell? ⟨w.heap.size, 2, none⟩ = some (.int .i64 L) ∧ w0.cell? ⟨w.heap.size, 3, none⟩ = some (.int .u64 G) from by
    subst hw0
    exact plan4 (box4 w (.int .i64 T) (.int .i64 S) (.int .i64 L) (.int .u64 G) 24) (only_alloc _ (fun _ => False) (.cells #[.int .i64 0, .int .u64 0] 40)) id)
  have HKB := Lib.hid (show w0.heap[w.heap.size + 1]? = some (.cells #[.int .i64 0, .int .u64 0] 40 (0, 0)) from by
    subst hw0
    have := new_heap (w.alloc (.cells #[.int .i64 T, .int .i64 S, .int .i64 L, .int .u64 G] 24)) (.cells #[.int .i64 0, .int .u64 0] 40)
    rwa [hz] at this)
  have HR := Lib.hid (show Ran P' w0 x fs pre T L i (IntKind.u64.wrap dl) (IntKind.u64.wrap tl) ⟨0, 0, 0, 0⟩ w0 from .inl ⟨pre, ⟨Amid.start hle _, rfl⟩, hT0, Only.refl _ _⟩)
  have hC := HB.out
  have HW0 := Lib.hid hw0
  rw [hw0] at hC
  obtain ⟨c_0, c_1, c_2, c_3⟩ := hC
  clear hf hT hP' hle hT0 hz hw0
  go_enter Tryd.func9, Tryd.ntmps9
  go_wp2_with fail
  refine (PlanRef.Slot_any T S L G i 0 _).mono ?_
  rintro e w1 ⟨rfl, b1⟩
  rw [← HW0.out] at b1
  have HR1 := Lib.hid (HR.out.later b1)
  have HO1 := Lib.hid (only_below (fun k => ¬ P' k) b1)
  clear b1 c_0 c_1 c_2 c_3 HR
  obtain ⟨c_0, c_1, c_2, c_3⟩ := plan4 HB.out HR1.out.only HN.out.1
  go_wp2_with fail
  refine (ran_load HR1.out HF.out _ _ rfl).mono ?_
  rintro e w2 ⟨f, rfl, hf, r2⟩
  have HR2 := Lib.hid r2
  have hf0 := hf.1
  have hf1 := hf.2
  have HG := Lib.hid fun W : World => Ref04.Gen_any f hf0 hf1 W
  have HG0 := Lib.hid (show 0 ≤ f / 4294967296 by omega)
  simp only [minT] at HR2
  clear r2 c_0 c_1 c_2 c_3 HR1 hf hf0 hf1
  generalize f / 4294967296 = g at HG HG0 HR2
  go_wp2_with fail
  refine (HG.out _).mono ?_
  rintro e w' ⟨rfl, rfl⟩
  have HRO := Lib.hid fun W : World => Ref02.Of_any g i HG0.out W
  have HSO := Lib.hid fun W : World => Ref04.Of_any g 1 HG0.out W
  generalize RM.ofI g i = r at HRO HR2
  generalize SM.stI g 1 = sa at HSO HR2
  obtain ⟨c_0, c_1, c_2, c_3⟩ := plan4 HB.out HR2.out.only HN.out.1
  go_wp2_with fail
  refine (HRO.out _).mono ?_
  rintro e w' ⟨rfl, rfl⟩
  go_wp2_with fail
  refine (HSO.out _).mono ?_
  rintro e w' ⟨rfl, rfl⟩
  go_wp2_with fail
  refine (ran_store HR2.out (fun _ => rfl) _ _ _ rfl).mono ?_
  rintro e w3 ⟨rfl, r3⟩
  have HR3 := Lib.hid r3
  clear r3 c_0 c_1 c_2 c_3 HR2
  go_wp2_with fail
  refine (ran_do HR3.out HF.out _ _ _ _ _ rfl).mono ?_
  rintro e w4 ⟨sq, rfl, hf, r4⟩
  simp only [minT] at r4
  have HR4 := Lib.hid r4
  clear r4 hf HR3
  obtain ⟨c_0, c_1, c_2, c_3⟩ := plan4 HB.out HR4.out.only HN.out.1
  go_wp2_with fail
  refine (PlanRef.Slot_any T S L G i 1 _).mono ?_
  rintro e w5 ⟨rfl, b1⟩
  have HR5 := Lib.hid (HR4.out.later b1)
  clear b1 c_0 c_1 c_2 c_3 HR4
  go_wp2_with fail
  refine (ran_store HR5.out (fun _ => rfl) _ _ _ rfl).mono ?_
  rintro e w6 ⟨rfl, r6⟩
  have HR6 := Lib.hid r6
  clear r6 HR5
  obtain ⟨c_0, c_1, c_2, c_3⟩ := plan4 HB.out HR6.out.only HN.out.1
  go_wp2_with fail
  refine (PlanRef.Slot_any T S L G i 2 _).mono ?_
  rintro e w7 ⟨rfl, b1⟩
  have HR7 := Lib.hid (HR6.out.later b1)
  clear b1 c_0 c_1 c_2 c_3 HR6
  go_wp2_with fail
  refine (ran_store HR7.out (fun _ => rfl) _ _ _ rfl).mono ?_
  rintro e w8 ⟨rfl, r6⟩
  have HR8 := Lib.hid r6
  clear r6 HR7
  obtain ⟨c_0, c_1, c_2, c_3⟩ := plan4 HB.out HR8.out.only HN.out.1
  go_wp2_with fail
  refine (PlanRef.Slot_any T S L G i 3 _).mono ?_
  rintro e w9 ⟨rfl, b1⟩
  have HR9 := Lib.hid (HR8.out.later b1)
  clear b1 c_0 c_1 c_2 c_3 HR8
  go_wp2_with fail
  refine (ran_store HR9.out (fun _ => rfl) _ _ _ rfl).mono ?_
  rintro e w10 ⟨rfl, r6⟩
  have HR10 := Lib.hid r6
  clear r6 HR9
  obtain ⟨c_0, c_1, c_2, c_3⟩ := plan4 HB.out HR10.out.only HN.out.1
  go_wp2_with fail
  refine (PlanRef.Slot_any T S L G i 4 _).mono ?_
  rintro e w11 ⟨rfl, b1⟩
  have HR11 := Lib.hid (HR10.out.later b1)
  clear b1 c_0 c_1 c_2 c_3 HR10
  go_wp2_with fail
  refine (ran_store HR11.out (fun _ => rfl) _ _ _ rfl).mono ?_
  rintro e w12 ⟨rfl, r6⟩
  have HR12 := Lib.hid r6
  clear r6 HR11
  have hk := HR12.out.only.heap HKB.out HN.out.2
  have k0 := (cell_heap hk 0).1
  have k1 := (cell_heap hk 1).1
  have f0 := (cell_heap hk 0).2
  have f1 := (cell_heap hk 1).2
  simp at k0 k1
  rcases HR12.out with ⟨out, ⟨hm, hkk⟩, ht, ho⟩ | ⟨s', out, hm, hs, ht, ho⟩
  · have c2 := ht.stop
    have HD := Lib.hid (hm.done rfl)
    have hP1 : P' (w.heap.size + 1) := Classical.not_not.1 HN.out.2
    have hlen : 7 ≤ fs.length := by
      have h1 := hm.len
      simp only at hkk
      omega
    have HK := Lib.hid (show ∀ u v : Value, Tp P ((w12.setCell ⟨w.heap.size + 1, 0, none⟩ u).setCell ⟨w.heap.size + 1, 1, none⟩ v) x fs out false ∧ Only (fun k => ¬ P k) w ((w12.setCell ⟨w.heap.size + 1, 0, none⟩ u).setCell ⟨w.heap.size + 1, 1, none⟩ v) from fun u v => by
      have hsz : w.heap.size ≤ w.heap.size + 1 := by omega
      have t1 := tp_stored (j := 0) ht hP1 hk (by simp; omega) u
      have t2 := tp_stored (j := 1) t1 hP1 (set_heap (j := 0) hk u) (by simp; omega) v
      refine ⟨t2.less HSUB.out, ?_⟩
      exact ((HLESS.out _ _ _ ht ho).2.setCell (.inr hsz) u).setCell (.inr hsz) v)
    have hk2 := set_heap (j := 1) (set_heap (j := 0) hk (.int .i64 dl)) (.int .u64 sq)
    have s0 := (cell_heap hk2 0).1
    have s1 := (cell_heap hk2 1).1
    simp at s0 s1
    clear hm ht ho hk hP1 hlen hk2 hkk
    go_wp2
    exact bodyPost_ret (v := .tuple #[.int .u64 r, .agg #[.int .i64 dl, .int .u64 sq]]) (by simp [results, Tryd.results9, go_sem, s0, s1]) rfl ⟨⟨7, sa, r, sq⟩, out, rfl, HD.out, (HK.out _ _).1, (HK.out _ _).2⟩
  · have c2 := ht.stop
    have K := Lib.hid (HLESS.out _ _ _ ht ho)
    have HM := Lib.hid hm
    have HS := Lib.hid hs
    have HE := Lib.hid (show (w12.setCell ⟨w.heap.size + 1, 0, none⟩ (.int .i64 0)).setCell ⟨w.heap.size + 1, 1, none⟩ (.int .u64 0) = w12 by
      rw [set_same (j := 0) (v := .int .i64 0) hk rfl, set_same (j := 1) (v := .int .u64 0) hk rfl])
    have HNK := Lib.hid (show s'.k < 7 ∨ 7 < s'.k by
      rcases Nat.lt_trichotomy s'.k 7 with h | h | h
      · exact .inl h
      · rw [minA_none h] at hs; cases hs
      · exact .inr h)
    clear hm ht ho hs hk
    go_wp2
    rw [HE.out]
    refine bodyPost_ret (v := .tuple #[.int .u64 0, .agg #[.int .i64 0, .int .u64 0]]) (by simp [results, Tryd.results9, go_sem, k0, k1]) rfl ⟨s', out, ?_, HM.out, HS.out.symm ▸ K.out.1, K.out.2⟩
    have hne : ¬ s'.k = 7 := by have := HNK.out; omega
    unfold refI keyI
    rw [if_neg hne, if_neg hne]
/-- On a tape that holds nothing yet. -/
theorem Mint_run {P : Nat → Prop} {x : Nat} {w : World} {fs : List Int} (hT : Tp P w x fs [] false) (hf : ∀ f ∈ fs, 0 ≤ f ∧ f < 18446744073709551616) (T S L G i dl tl : Int) : Calls Tryd.prog 9 #[.pointer (some ⟨x, 0, none⟩), .agg #[.int .i64 T, .int .i64 S, .int .i64 L, .int .u64 G], .int .i64 i, .int .i64 dl, .int .i64 tl] w fun e w' =>
    ∃ s out, e = .returned (.tuple #[.int .u64 (refI s), .agg #[.int .i64 (keyI dl s).1, .int .u64 (keyI dl s).2]]) ∧ Fin (minA T L i (IntKind.u64.wrap dl) (IntKind.u64.wrap tl)) (minT i) fs ⟨0, 0, 0, 0⟩ out s ∧ Tp P w' x fs out (minA T L i (IntKind.u64.wrap dl) (IntKind.u64.wrap tl) s).isSome ∧ Only (fun k => ¬ P k) w w' :=
  (Mint_runs hT (Nat.zero_le _) hf T S L G i dl tl).mono fun e w' ⟨s, out, h1, h2, h3⟩ => ⟨s, out, h1, h2.start, h3⟩
/-- On a tape that has stopped. -/
theorem Mint_stop {P : Nat → Prop} {x : Nat} {w : World} {fs : List Int} {out : List D} (hT : Tp P w x fs out true) (T S L G i dl tl : Int) : Calls Tryd.prog 9 #[.pointer (some ⟨x, 0, none⟩), .agg #[.int .i64 T, .int .i64 S, .int .i64 L, .int .u64 G], .int .i64 i, .int .i64 dl, .int .i64 tl] w fun e w' =>
    e = .returned (.tuple #[.int .u64 0, .agg #[.int .i64 0, .int .u64 0]]) ∧ Below w.heap.size w w' := by
  obtain ⟨w0, hw0⟩ : ∃ w0, w0 = (w.alloc (.cells #[.int .i64 T, .int .i64 S, .int .i64 L, .int .u64 G] 24)).alloc (.cells #[.int .i64 0, .int .u64 0] 40) := ⟨_, rfl⟩
  have hz : (w.alloc (.cells #[.int .i64 T, .int .i64 S, .int .i64 L, .int .u64 G] 24)).heap.size = w.heap.size + 1 := by simp
  have HW0 := Lib.hid hw0
  have HB0 := Lib.hid (show Below w.heap.size w w0 from by
    subst hw0
    exact (box_below w _).trans ((box_below _ _).mono (by simp)))
  have HT := Lib.hid (hT.later HB0.out)
  have HB := Lib.hid (show w0.cell? ⟨w.heap.size, 0, none⟩ = some (.int .i64 T) ∧ w0.cell? ⟨w.heap.size, 1, none⟩ = some (.int .i64 S) ∧ w0.cell? ⟨w.heap.size, 2, none⟩ = some (.int .i64 L) ∧ w0.cell? ⟨w.heap.size, 3, none⟩ = some (.int .u64 G) from by
    subst hw0
    exact plan4 (box4 w (.int .i64 T) (.int .i64 S) (.int .i64 L) (.int .u64 G) 24) (only_alloc _ (fun _ => False) (.cells #[.int .i64 0, .int .u64 0] 40)) id)
  have HKB := Lib.hid (show w0.heap[w.heap.size + 1]? = some (.cells #[.int .i64 0, .int .u64 0] 40 (0, 0)) from by
    subst hw0
    have := new_heap (w.alloc (.cells #[.int .i64 T, .int .i64 S, .int .i64 L, .int .u64 G] 24)) (.cells #[.int .i64 0, .int .u64 0] 40)
    rwa [hz] at this)
  have hC := HB.out
  rw [hw0] at hC
  obtain ⟨c_0, c_1, c_2, c_3⟩ := hC
  clear hw0 hz hT
  go_enter Tryd.func9, Tryd.ntmps9
  go_wp2_with fail
  refine (PlanRef.Slot_any T S L G i 0 _).mono ?_
  rintro e w1 ⟨rfl, b1⟩
  rw [← HW0.out] at b1
  have HB1 := Lib.hid b1
  clear b1 c_0 c_1 c_2 c_3
  go_wp2_with fail
  refine (Load_stop (HT.out.later HB1.out) _ _).mono ?_
  rintro e w' ⟨rfl, rfl⟩
  go_wp2_with fail
  refine (Ref04.Gen_any 0 (by decide) (by decide) _).mono ?_
  rintro e w' ⟨rfl, rfl⟩
  go_wp2_with fail
  refine (Ref02.Of_any _ i (by decide) _).mono ?_
  rintro e w' ⟨rfl, rfl⟩
  go_wp2_with fail
  refine (Ref04.Of_any _ 1 (by decide) _).mono ?_
  rintro e w' ⟨rfl, rfl⟩
  go_wp2_with fail
  refine (Store_stop (HT.out.later HB1.out) _ _ _).mono ?_
  rintro e w' ⟨rfl, rfl⟩
  go_wp2_with fail
  refine (Do_stop (HT.out.later HB1.out) _ _ _ _ _).mono ?_
  rintro e w' ⟨rfl, rfl⟩
  obtain ⟨c_0, c_1, c_2, c_3⟩ := plan4 HB.out (only_below (fun _ => False) HB1.out) id
  go_wp2_with fail
  refine (PlanRef.Slot_any T S L G i 1 _).mono ?_
  rintro e w2 ⟨rfl, b1⟩
  replace HB1 := Lib.hid (HB1.out.trans (b1.mono HB1.out.size))
  clear b1 c_0 c_1 c_2 c_3
  obtain ⟨c_0, c_1, c_2, c_3⟩ := plan4 HB.out (only_below (fun _ => False) HB1.out) id
  go_wp2_with fail
  refine (Store_stop (HT.out.later HB1.out) _ _ _).mono ?_
  rintro e w' ⟨rfl, rfl⟩
  go_wp2_with fail
  refine (PlanRef.Slot_any T S L G i 2 _).mono ?_
  rintro e w3 ⟨rfl, b1⟩
  replace HB1 := Lib.hid (HB1.out.trans (b1.mono HB1.out.size))
  clear b1 c_0 c_1 c_2 c_3
  obtain ⟨c_0, c_1, c_2, c_3⟩ := plan4 HB.out (only_below (fun _ => False) HB1.out) id
  go_wp2_with fail
  refine (Store_stop (HT.out.later HB1.out) _ _ _).mono ?_
  rintro e w' ⟨rfl, rfl⟩
  go_wp2_with fail
  refine (PlanRef.Slot_any T S L G i 3 _).mono ?_
  rintro e w4 ⟨rfl, b1⟩
  replace HB1 := Lib.hid (HB1.out.trans (b1.mono HB1.out.size))
  clear b1 c_0 c_1 c_2 c_3
  obtain ⟨c_0, c_1, c_2, c_3⟩ := plan4 HB.out (only_below (fun _ => False) HB1.out) id
  go_wp2_with fail
  refine (Store_stop (HT.out.later HB1.out) _ _ _).mono ?_
  rintro e w' ⟨rfl, rfl⟩
  go_wp2_with fail
  refine (PlanRef.Slot_any T S L G i 4 _).mono ?_
  rintro e w5 ⟨rfl, b1⟩
  replace HB1 := Lib.hid (HB1.out.trans (b1.mono HB1.out.size))
  clear b1 c_0 c_1 c_2 c_3
  obtain ⟨c_0, c_1, c_2, c_3⟩ := plan4 HB.out (only_below (fun _ => False) HB1.out) id
  go_wp2_with fail
  refine (Store_stop (HT.out.later HB1.out) _ _ _).mono ?_
  rintro e w' ⟨rfl, rfl⟩
  have hk := (only_below (fun _ => False) HB1.out).heap HKB.out id
  have k0 := (cell_heap hk 0).1
  have k1 := (cell_heap hk 1).1
  have f0 := (cell_heap hk 0).2
  have f1 := (cell_heap hk 1).2
  have c2 := (HT.out.later HB1.out).stop
  have HE := Lib.hid (show (w5.setCell ⟨w.heap.size + 1, 0, none⟩ (.int .i64 0)).setCell ⟨w.heap.size + 1, 1, none⟩ (.int .u64 0) = w5 by
    rw [set_same (j := 0) (v := .int .i64 0) hk rfl, set_same (j := 1) (v := .int .u64 0) hk rfl])
  simp at k0 k1
  clear hk
  go_wp2
  rw [HE.out]
  exact bodyPost_ret (v := .tuple #[.int .u64 0, .agg #[.int .i64 0, .int .u64 0]]) (by simp [results, Tryd.results9, go_sem, k0, k1]) rfl ⟨rfl, HB0.out.trans (HB1.out.mono HB0.out.size)⟩
end Go.Proofs.YtemjbheegdpofaaDoor.MintRef
