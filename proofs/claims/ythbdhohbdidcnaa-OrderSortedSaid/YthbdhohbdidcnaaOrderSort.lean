/- Package order's Sort: what it tells is a new list of the sorted keys; what lay in memory ahead stays as it was. -/
import Derived.Test.YthbdhohbdidcnaaOrderWalks
import Derived.Test.YthbdhohbdidcnaaOrderShelf
import Derived.Test.YthbdhohbdidcnaaLaySort
namespace Go.Proofs.Ythbdhohbdidcnaa.Order
open Go.ChangeShapes Go.WideShapes Go.RowKit Go.Sort Go.Lib OM Lay

theorem ltOf_cmpK (x y : Key) : ltOf cmpK x y = ltK x y := by
  unfold ltOf
  exact cmpK_lt x y
theorem swoK : SWO (ltOf cmpK) where
  irrefl x := by rw [ltOf_cmpK]; exact ltK_irrefl x
  trans x y z h1 h2 := by rw [ltOf_cmpK] at *; exact ltK_trans x y z h1 h2
  ntrans x y z h1 h2 := by rw [ltOf_cmpK] at *; exact ltK_ntrans x y z h1 h2
theorem totK (x y : Key) (h1 : ltOf cmpK x y = false) (h2 : ltOf cmpK y x = false) : x = y := by
  rw [ltOf_cmpK] at *
  exact ltK_total x y h1 h2
theorem merge_eq (l : List Key) : (l.mergeSort fun x y => !(ltOf cmpK) y x) = sortK l := by
  unfold sortK
  congr 1
  funext x y
  rw [ltOf_cmpK]
  rfl
theorem infoKey : (Try.prog.info? 25).map (fun i => (i.zero, i.size, i.bytes)) = some (some (.agg #[.int .i64 0, .int .u64 0]), 2, 16) := by kernel_rfl
theorem sizeKey : (Try.prog.info? 25).map (·.size) = some 2 := by kernel_rfl

/-- A new list: its value, what it holds, and that nothing else has turned. -/
def Lists (w : World) (l : List Key) (e : Ending) (w' : World) : Prop := ∃ (A : Option Addr) (c : Nat), e = .returned (.slice A l.length c) ∧ Row w' w'.heap.size A (flat encK l) ∧ Below w.heap.size w w'

theorem sortFunc_any (b n : Nat) (l : List Key) (w : World) {t : TypeId} (hg : w.heap[b]? = some (.cells (flat encK l).toArray t (0, 0))) (hn : n = l.length) (hl : l.length < 4611686018427387904) :
    Calls Try.prog 19 #[.slice (some ⟨b, 0, none⟩) n n, .func (.func 7) #[] #[]] w fun e w' => e = .returned (.tuple #[]) ∧ Row w' w'.heap.size (some ⟨b, 0, none⟩) (flat encK (sortK l)) ∧ w.grownBy w' (some b) := by
  subst hn
  have hb : b < w.heap.size := (Array.getElem?_eq_some_iff.1 hg).1
  have hH : HoldsK encK 2 w b 0 l.toArray := holdsK_of_row encK_length (by decide) hg
  have eg : ∀ args w, (callFunc 7 args).run Try.prog w = .ok (.enter 7 args) w := enters_of Try.func7 (by kernel_rfl) rfl
  have hc : CmpLays Try.prog 7 #[] encK 2 cmpK b 0 l.toArray.size w := fun _ _ _ _ x y => Cmp_grown x y _
  have h := AnyQ.slices_SortFunc_total Try.sortKey 2 Try.isAgg25 Try.sizeOf25 encK encK_length encK_one cmpK swoK 7 #[] b 0 l.length l.toArray w eg hc hH hb (by simpa using hl) totK
  rw [merge_eq] at h
  change Calls Try.prog 19 _ _ _ at h
  refine h.mono fun e w' hw => ?_
  obtain ⟨he, n, os, rfl⟩ := hw
  exact ⟨he, row_sortWorldK encK_length (by decide) hH hb (sortK_length l), grownBy_sortWorldK⟩

set_option maxHeartbeats 400000 in
theorem Sort_any (A : Option Addr) (l : List Key) (c : Nat) (w : World) (hR : Row w w.heap.size A (flat encK l)) (hl : l.length ≤ 1000000) : Calls Try.prog 14 #[.slice A l.length c] w (Lists w (sortK l)) := by
  obtain ⟨n, hn⟩ : ∃ n, n = l.length := ⟨_, rfl⟩
  rw [← hn] at hl ⊢
  have HN := Lib.hid hn
  clear hn
  have HR := Lib.hid hR
  clear hR
  obtain ⟨i0, hi, hz0, hz1, hz2⟩ := info_parts infoKey
  have HL := Lib.hid (sortK_length l)
  go_enter Try.func14, Try.ntmps14
  have hcl : (flat encK l).length = n * 2 := by rw [flat_length encK_length, HN.out]
  have HCL := Lib.hid hcl
  clear hcl
  go_wp2_with (first
    | (at_make; refine wpList_make_full _ rfl (.tmp 5) (.tmp 5) 22 rfl w.heap.size 25 i0 _ 2 Try.underlying22 hi hz0 hz1 _ _ _ _ n rfl rfl rfl rfl (by rw [hz2]; omega) (by simp only [maxLen]; omega) (Nat.le_refl _) ?_; intro w1 hown hg1; have hb1 : Below w.heap.size w w1 := (Below.refl _ _).grown hg1 (Nat.le_refl _) (fun k hk => by cases hk); have HO := Lib.hid (own_whole hown); clear hown hg1)
    | ((fail_if_success (fail_if_success (with_reducible refine wpList_plain (o := ⟨some 9, _, _, _, _, _⟩) rfl ?_))); refine wpList_copy_whole (o := ⟨some 9, _, _, _, _, _⟩) rfl (.tmp 7) (.tmp 8) 22 22 rfl 25 2 Try.underlying22 sizeKey w.heap.size n n A c rfl rfl _ 25 HO.out (flat encK l) (by rw [List.size_toArray, Array.length_toList, size_madeCells]) HCL.out w.heap.size (HR.out.below hb1) (flat_oneCell encK_one l) ?_; intro w2 hg2 hgr2; have hb2 : Below w.heap.size w w2 := hb1.grown hgr2 hb1.size (fun k hk => by cases hk; exact Nat.le_refl _); clear hgr2))
  refine (sortFunc_any w.heap.size n l w2 hg2.out HN.out (by have := HN.out; omega)).mono ?_
  rintro e w3 ⟨rfl, hrow, hgr3⟩
  have hb3 : Below w.heap.size w w3 := hb2.grown hgr3 hb2.size (fun k hk => by cases hk; exact Nat.le_refl _)
  have HW := Lib.hid hrow
  clear hrow hgr3
  go_wp2
  go_ret
  exact ⟨some ⟨w.heap.size, 0, none⟩, n, by rw [HL.out, ← HN.out]; rfl, HW.out, hb3⟩
end Go.Proofs.Ythbdhohbdidcnaa.Order
