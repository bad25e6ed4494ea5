/- The document's answer for layer 11 (package sundialref11), Play, held to plain lists. -/
import Derived.Test.YthlamnghbdaaiaaDoorDeedRefDo
import Derived.Test.YthlamnghbdaaiaaDoorTaskRun
import Derived.Test.YthlamnghbdaaiaaDoorTaskTell
namespace Go.Proofs.YthlamnghbdaaiaaDoor.TaskRef
open Go.ChangeShapes Go.WideShapes Go.RowKit CM DM TR Lay Ints Cells Go.Proofs.YthlamnghbdaaiaaDoor.Task
set_option linter.unusedVariables false

/-- Behind k deeds: the words in row A, what was found in row F. -/
structure At (w : World) (n : Nat) (l : List Int) (ds : List D) (k : Nat) (A F : Option Addr) (fc : Nat) (wr : World) : Prop where
  row : Row wr wr.heap.size A (flat (encZ .u64) (runW l (ds.take k)))
  own : wr.ownsRow w.heap.size 40 1 (.slice F k fc) k (flat (encZ .u64) (runF l (ds.take k)))
  far : n ≠ 0 → ∀ a x, A = some a → F = some x → a.block ≠ x.block
  below : Below w.heap.size w wr
theorem ref_block {F : Option Addr} {a fc k : Nat} (h : (Value.slice F a fc).ownBlock = some k) : ∃ x, F = some x ∧ x.block = k := by
  cases F with
  | none => cases h
  | some x => exact ⟨x, rfl, by simpa [Value.ownBlock] using h⟩
theorem flat_zero {l : List Int} (h : flat (encZ .u64) l ≠ []) : l.length ≠ 0 := fun e => h (by rw [List.eq_nil_of_length_eq_zero e]; rfl)
theorem flat_some {l : List Int} (h : l.length ≠ 0) : flat (encZ .u64) l ≠ [] := fun e => h (by have := flat_ints_length .u64 l; rw [e] at this; simpa using this.symm)
theorem At.append {w wr w2 w3 : World} {n k fc g2 cap : Nat} {l : List Int} {ds : List D} {A A2 F : Option Addr} {x : D} {v : Int} {o : Obj} (h : At w n l ds k A F fc wr) (hn : n = l.length) (hx : ds[k]? = some x) (hv : foundD (runW l (ds.take k)) x = v) (hr : Row w2 w2.heap.size A2 (flat (encZ .u64) (nextD (runW l (ds.take k)) x)))
    (ha : ∀ a, A2 = some a → A = some a ∨ wr.heap.size ≤ a.block) (hb : Below wr.heap.size wr w2) (ho : w3.ownsRow w.heap.size 40 1 (.slice (some ⟨g2, 0, none⟩) (k + 1) cap) (k + 1) (flat (encZ .u64) (runF l (ds.take k)) ++ encZ .u64 v))
    (hor : (Value.slice F k fc).ownBlock = some g2 ∨ g2 = (w2.alloc o).heap.size) (hon : Only (fun i => (Value.slice F k fc).ownBlock = some i) (w2.alloc o) w3) : At w n l ds (k + 1) A2 (some ⟨g2, 0, none⟩) cap w3 := by
  obtain ⟨hR, hO, hF, hB⟩ := h
  have htk := take_snoc hx
  have hlen : (nextD (runW l (ds.take k)) x).length = n := by rw [nextD_length, runW_length, hn]
  have hne : n ≠ 0 → ∀ a y, A2 = some a → F = some y → a.block ≠ y.block := fun h0 a y e1 e2 => by
    rcases ha a e1 with e | e
    · exact hF h0 a y e e2
    · have h1 := (hO.lt y.block (by subst e2; rfl)).2
      omega
  have h2 : Only (fun i => (Value.slice F k fc).ownBlock = some i) w2 w3 := (only_alloc w2 _ o).trans hon
  have hs := hb.size
  refine ⟨?_, ?_, fun h0 a y e1 e2 => ?_, (hB.trans (hb.mono hB.size)).trans (h2.below (Nat.le_trans hB.size hs) (fun i e => (hO.lt i e).1))⟩
  · rw [htk, runW_snoc]
    refine h2.row hr (fun hn' a e1 e2 => ?_)
    obtain ⟨y, hy, e3⟩ := ref_block e2
    exact hne (fun e => flat_zero hn' (hlen.trans e)) a y e1 hy e3.symm
  · rw [htk, runF_snoc, flat_append, flat_one, hv]
    exact ho
  · cases e2
    obtain ⟨b, o', e3, hb3, _⟩ := hr (flat_some (by rw [hlen]; exact h0))
    rw [e1] at e3
    cases e3
    show b ≠ g2
    rcases hor with e | e
    · obtain ⟨y, hy, rfl⟩ := ref_block e
      exact hne h0 _ y e1 hy
    · rw [World.size_alloc] at e
      omega
def Refd (w : World) (n : Nat) (l : List Int) (ds : List D) (k : Nat) (e : Ending) (w' : World) : Prop :=
  ∃ F fc A c, e = .returned (.tuple #[.slice F k fc, .slice A n c]) ∧ Row w' w'.heap.size F (flat (encZ .u64) (runF l (ds.take k))) ∧ Row w' w'.heap.size A (flat (encZ .u64) (runW l (ds.take k))) ∧ Below w.heap.size w w'

set_option maxHeartbeats 1000000 in
theorem Play_any (A B : Option Addr) (l : List Int) (ds : List D) (n m c d : Nat) (most : Int) (w : World) (hR : Row w w.heap.size A (flat (encZ .u64) l)) (hn : n = l.length) (hn4 : n ≤ 4096) (hS : Row w w.heap.size B (flat encD ds)) (hm : m = ds.length) (hm1 : m ≤ 1000) :
    Calls Tryd.prog 9 #[.slice A n c, .slice B m d, .int .i64 most] w (Refd w n l ds (kOf most m)) := by
  have HS := Lib.hid hS
  have HN := Lib.hid hn
  have HM := Lib.hid hm
  have A0 := Lib.hid (show At w n l ds 0 A none 0 w from ⟨hR, World.ownsRow_nil _ _ _ _, fun _ a x _ e => (by cases e), Below.refl _ _⟩)
  obtain ⟨K, hK⟩ : ∃ K, K = kOf most m := ⟨_, rfl⟩
  rw [← hK]
  have hKm : K ≤ m ∧ (K : Int) ≤ max most 0 := by unfold kOf at hK; omega
  have HKK := Lib.hid (show ∀ k : Nat, ¬ (k < m ∧ (k : Int) < most) → K ≤ k from fun k hk => by unfold kOf at hK; omega)
  have HKL := Lib.hid (show ∀ k : Nat, k < m → (k : Int) < most → k < K from fun k h1 h2 => by unfold kOf at hK; omega)
  obtain ⟨i0, hi, hz0, hz1, hz2⟩ := info_parts info_words
  clear hR hS hn hm hK
  go_enter Tryd.func9, Tryd.ntmps9
  go_wp2
  go_loopw [0, 8, 9] (fun u v i wr => ∃ (k fc c' : Nat) (A' F : Option Addr), k ≤ K ∧ i = .int .i64 k ∧ u = .slice A' n c' ∧ v = .slice F k fc ∧ At w n l ds k A' F fc wr) (fun _ _ i _ => m - (intOf i).toNat)
  case atStart => exact ⟨0, 0, c, A, none, Nat.zero_le _, rfl, rfl, rfl, A0.out⟩
  case round =>
    obtain ⟨k, fc, c', A', F, hk, rfl, rfl, rfl, hat⟩ := hrel
    have HA := Lib.hid hat
    clear hat
    by_cases h1 : k < m
    · by_cases h2 : (k : Int) < most
      · have h2d : decide ((k : Int) < most) = true := by simpa using h2
        obtain ⟨x, hx⟩ : ∃ x, ds[k]? = some x := ⟨_, List.getElem?_eq_getElem (by rw [← HM.out]; exact h1)⟩
        have HX := Lib.hid hx
        obtain ⟨b, o, rfl, hbl, hc⟩ := Open.five_at (HS.out.later HA.out.below) (by rw [← HM.out]; exact h1)
        obtain ⟨d0, d1, d2, d3, d4⟩ := hc k x hx
        have HDO := Lib.hid (DeedRef.Do_any A' (runW l (ds.take k)) n c' x wr (by rw [runW_length]; exact HN.out) hn4 HA.out.row)
        generalize hv : foundD (runW l (ds.take k)) x = v at HDO
        have HV := Lib.hid hv
        have hkK : k < K := HKL.out k h1 h2
        clear hx hc hv
        go_wp2_with fail
        refine HDO.out.mono ?_
        rintro e w2 ⟨A2, c2, rfl, hr2, ho2, hb2⟩
        have HAP := Lib.hid fun w3 g2 cap => At.append (w3 := w3) (g2 := g2) (cap := cap) (o := .cells #[.int .u64 v] 40) HA.out HN.out HX.out HV.out hr2 ho2 hb2
        have HO2 := Lib.hid (own_later HA.out.own hb2)
        have HWS := Lib.hid (Nat.le_trans HA.out.below.size hb2.size)
        clear hr2 ho2 hb2
        go_wp2_with (at_builtin; refine wpList_append_only _ rfl (.tmp 32) (.tmp 34) 22 rfl w.heap.size 40 i0 _ 1 8 Tryd.underlying22 hi hz0 hz1 hz2 rfl (by decide) _ k _ rfl (HO2.out.alloc _) ⟨w2.heap.size, 0, none⟩ 1 1 (encZ .u64 v) rfl (by decide) rfl (cells_new _ _ _) (encZ_one _ _) (by simp only [maxLen]; omega) (by omega) (by have := HWS.out; simp; omega) ?_; intro g2 cap w3 ho3 hg3 hlt3 hor3 hon3; have HA3 := Lib.hid (HAP.out _ _ _ ho3 hor3 hon3); clear ho3 hor3 hon3)
        go_roundw
        case rel => exact ⟨k + 1, cap, c2, A2, some ⟨g2, 0, none⟩, hkK, by go_num, rfl, rfl, HA3.out⟩
        case measure => simp [intOf]; omega
      · have h2d : decide ((k : Int) < most) = false := by simpa using h2
        obtain rfl : k = K := Nat.le_antisymm hk (HKK.out k (fun e => h2 e.2))
        go_wp2
        go_ret2
        exact ⟨F, fc, A', c', rfl, Row.of_own HA.out.own, HA.out.row, HA.out.below⟩
    · obtain rfl : k = K := Nat.le_antisymm hk (HKK.out k (fun e => h1 e.1))
      go_wp2
      go_ret2
      exact ⟨F, fc, A', c', rfl, Row.of_own HA.out.own, HA.out.row, HA.out.below⟩
end Go.Proofs.YthlamnghbdaaiaaDoor.TaskRef
