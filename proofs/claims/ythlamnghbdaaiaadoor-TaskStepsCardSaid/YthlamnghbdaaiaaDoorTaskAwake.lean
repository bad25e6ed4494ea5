/- Law 11's example; what the laws' texts share. -/
import Derived.Test.YthlamnghbdaaiaaDoorTaskTell
namespace Go.Proofs.YthlamnghbdaaiaaDoor.Law11
open Go.ChangeShapes Go.WideShapes Go.RowKit CM DM Lay Ints Cells Go.Proofs.YthlamnghbdaaiaaDoor.Task
set_option linter.unusedVariables false

theorem wf_u64 {a : Int} (h : (Lit.int .u64 a).wf = true) : 0 ≤ a ∧ a < 18446744073709551616 := by
  simp [Lit.wf, IntKind.min, IntKind.max, IntKind.signed, IntKind.bits] at h; omega

/-! The chapter's example in plain lists: its deeds, its one word behind k of them, what they find. -/
def exD : List D := [(4, 0, 1, 0, 0), (4, 0, 1, 0, 0), (1, 0, 0, 0, 0)]
def exL : Nat → List Int | 0 => [5] | 1 => [6] | _ => [7]
def exF (k : Nat) : List Int := [5, 6, 7].take k
theorem exF_length {k : Nat} (h : k ≤ 3) : (exF k).length = k := by
  rcases (show k = 0 ∨ k = 1 ∨ k = 2 ∨ k = 3 by omega) with rfl | rfl | rfl | rfl <;> rfl
theorem ex_step {k : Nat} (h : k < 3) : ∃ x : D, exD[(exF k).length]? = some x ∧ addI (exL k) x.2.1 x.2.2.1 = exL (k + 1) ∧ exF k ++ [getI (exL k) x.2.1] = exF (k + 1) := by
  rcases (show k = 0 ∨ k = 1 ∨ k = 2 by omega) with rfl | rfl | rfl
  · exact ⟨(4, 0, 1, 0, 0), rfl, by decide, by decide⟩
  · exact ⟨(4, 0, 1, 0, 0), rfl, by decide, by decide⟩
  · exact ⟨(1, 0, 0, 0, 0), rfl, by decide, by decide⟩

/-- Behind k rounds. -/
structure At (w : World) (p h p2 q2 B k : Nat) (wr : World) : Prop where
  scr : ∃ g, Scr wr p2 q2 g exD (exF k) ∧ B ≤ g
  mem : Mem wr p h 1 (exL k)
  low : p < B ∧ h < B ∧ B ≤ p2 ∧ B ≤ q2
  base : w.heap.size ≤ p ∧ w.heap.size ≤ h ∧ w.heap.size ≤ B
  below : Below w.heap.size w wr
theorem At.next {w wr w1 : World} {p h p2 q2 B k : Nat} (hA : At w p h p2 q2 B k wr) (hb : Below wr.heap.size wr w1) : At w p h p2 q2 B k w1 := by
  obtain ⟨⟨g, hs, hg⟩, hm, hl, h0, hw⟩ := hA
  exact ⟨⟨g, hs.later hb, hg⟩, hm.later hb, hl, h0, hw.trans (hb.mono hw.size)⟩
/-- The word is added to, and the script is told what was found. -/
theorem At.told {w wr w1 w2 : World} {p h p2 q2 g B k : Nat} {x : D} (hA : At w p h p2 q2 B k wr) (hs : Scr w1 p2 q2 g exD (exF k)) (hg : B ≤ g) (h1 : wr.grownBy w1 (some h)) (hm : Mem w1 p h 1 (addI (exL k) x.2.1 x.2.2.1)) (he : addI (exL k) x.2.1 x.2.2.1 = exL (k + 1))
    (hf : exF k ++ [getI (exL k) x.2.1] = exF (k + 1)) {e : Ending} (ht : WasTold w1 p2 q2 g exD (exF k ++ [getI (exL k) x.2.1]) e w2) : At w p h p2 q2 B (k + 1) w2 := by
  obtain ⟨_, _, ⟨l1, l2, l3, l4⟩, ⟨b1, b2, b3⟩, hw⟩ := hA
  obtain ⟨g', _, hs', hg', ho⟩ := ht
  rw [hf] at hs'
  rw [he] at hm
  have hsz := hs.apart
  have hB1 : B ≤ w1.heap.size := by omega
  refine ⟨⟨g', hs', by omega⟩, ?_, ⟨l1, l2, l3, l4⟩, ⟨b1, b2, b3⟩, ?_⟩
  · exact ⟨hm.1, hm.len, hm.most, ho.cell hm.box (show ¬ (p = p2 ∨ p = g) by omega), ho.own hm.own (fun i hi => (by have e : h = i := (by simpa [Value.ownBlock] using hi); omega))⟩
  · exact (below_of_grown hw h1 hw.size b2).trans (ho.below (by omega) (fun k hk => by omega))
theorem ex_row (w : World) (o : Obj) (t : TypeId) : Row ((w.alloc o).alloc (.cells #[.int .i64 4, .int .i64 0, .int .u64 1, .int .u64 0, .int .u64 0, .int .i64 4, .int .i64 0, .int .u64 1, .int .u64 0, .int .u64 0, .int .i64 1, .int .i64 0, .int .u64 0, .int .u64 0, .int .u64 0] t)) ((w.alloc o).alloc (.cells #[.int .i64 4, .int .i64 0, .int .u64 1, .int .u64 0, .int .u64 0, .int .i64 4, .int .i64 0, .int .u64 1, .int .u64 0, .int .u64 0, .int .i64 1, .int .i64 0, .int .u64 0, .int .u64 0, .int .u64 0] t)).heap.size (some ⟨w.heap.size + 1, 0, none⟩) (flat encD exD) := by
  have h := Cells.row_new (w.alloc o) #[.int .i64 4, .int .i64 0, .int .u64 1, .int .u64 0, .int .u64 0, .int .i64 4, .int .i64 0, .int .u64 1, .int .u64 0, .int .u64 0, .int .i64 1, .int .i64 0, .int .u64 0, .int .u64 0, .int .u64 0] t
  rwa [World.size_alloc w o] at h
/-- The script is made. -/
theorem At.start {w w1 w2 : World} {p h p2 q2 : Nat} {o1 o2 : Obj} (hm : Mem w1 p h 1 [5]) (hp : w.heap.size ≤ p) (hh : w.heap.size ≤ h) (hw : Below w.heap.size w w1) (hs : Scr w2 p2 q2 p2 exD [])
    (h1 : ((w1.alloc o1).alloc o2).heap.size ≤ p2) (h2 : ((w1.alloc o1).alloc o2).heap.size ≤ q2) (hb : Below ((w1.alloc o1).alloc o2).heap.size ((w1.alloc o1).alloc o2) w2) : At w p h p2 q2 w1.heap.size 0 w2 := by
  have hsz := hw.size
  have hlt := hm.lt
  have hb2 : Below w1.heap.size w1 w2 := (((Below.refl _ _).alloc (Nat.le_refl _) _).alloc (by simp) _).trans (hb.mono (by simp; omega))
  simp only [World.size_alloc] at h1 h2
  exact ⟨⟨p2, hs, by omega⟩, hm.later hb2, ⟨hlt.1, hlt.2, by omega, by omega⟩, ⟨hp, hh, hsz⟩, hw.trans (hb2.mono hsz)⟩
theorem awake_any (w : World) : Calls Tryd.prog 5 #[] w fun e w' => e = .returned (.bool true) ∧ Below w.heap.size w w' := by
  go_enter Tryd.func5, Tryd.ntmps5
  go_wp2_with fail
  refine (Of_any (l := [5]) (Cells.row_new w #[.int .u64 5] 40) rfl (by decide)).mono ?_
  rintro e w' ⟨p, h, rfl, hm, hp, hh, hb⟩
  simp only [World.size_alloc] at hp hh hb
  have M1 := Lib.hid hm
  have P1 := Lib.hid hp
  have H1 := Lib.hid hh
  have B1 := Lib.hid (((Below.refl w.heap.size w).alloc (Nat.le_refl _) _).trans (hb.mono (Nat.le_succ _)))
  clear hm hp hh hb
  go_wp2_with fail
  refine (NewScript_any (ds := exD) (ex_row _ _ _) rfl (by decide)).mono ?_
  rintro e w2 ⟨p2, q2, rfl, hs, hp2, hq2, hb2⟩
  have A2 := Lib.hid (At.start M1.out (by have := P1.out; omega) (by have := H1.out; omega) B1.out hs hp2 hq2 hb2)
  clear hs hp2 hq2 hb2
  generalize w'.heap.size = B at A2
  go_wp2
  go_loopw [5] (fun i wr => ∃ k : Nat, k ≤ 3 ∧ i = .int .i64 k ∧ At w p h p2 q2 B k wr) (fun i _ => 3 - (intOf i).toNat)
  case atStart => exact ⟨0, by decide, rfl, A2.out⟩
  case round =>
    obtain ⟨k, hk, rfl, ha⟩ := hrel
    have HA := Lib.hid ha
    clear ha
    by_cases hlt : k < 3
    · obtain ⟨x, hx, he, hf⟩ := ex_step hlt
      have HE := Lib.hid he
      have HF := Lib.hid hf
      obtain ⟨g, hs, hg⟩ := HA.out.scr
      have HS := Lib.hid hs
      have HN := Lib.hid (Next_more hs hx)
      have HL := Lib.hid (show (exF k).length < exD.length by rw [exF_length hk]; exact hlt)
      clear hx he hf hs
      go_wp2_with fail
      refine (HN.out).mono ?_
      rintro e w' ⟨rfl, hb⟩
      have HA1 := Lib.hid ((HA.out.next hb).next ((Below.refl _ _).alloc (Nat.le_refl w'.heap.size) (.cells #[.int .i64 x.1, .int .i64 x.2.1, .int .u64 x.2.2.1, .int .u64 x.2.2.2.1, .int .u64 x.2.2.2.2] 42)))
      have HS1 := Lib.hid ((HS.out.later hb).later ((Below.refl _ _).alloc (Nat.le_refl w'.heap.size) (.cells #[.int .i64 x.1, .int .i64 x.2.1, .int .u64 x.2.2.1, .int .u64 x.2.2.2.1, .int .u64 x.2.2.2.2] 42)))
      clear hb
      go_wp2_with fail
      refine (Add_any HA1.out.mem x.2.1 x.2.2.1).mono ?_
      rintro e w3 ⟨rfl, hg3, hm3⟩
      have HS3 := Lib.hid (HS1.out.only (only_grown hg3 (R := fun i => i = h) (fun i e => by cases e; rfl)) (by have := HA1.out.low; omega) (by have := HA1.out.low; omega) (by have := HA1.out.low; omega))
      have HG3 := Lib.hid hg3
      have HM3 := Lib.hid hm3
      clear hg3 hm3
      go_wp2_with fail
      refine (Tell_more HS3.out HL.out _).mono ?_
      rintro e w4 ht
      have HA4 := Lib.hid (HA1.out.told HS3.out hg HG3.out HM3.out HE.out HF.out ht)
      obtain ⟨g', rfl, _⟩ := ht
      go_wp2
      go_roundw
      case rel => exact ⟨k + 1, by omega, by go_num, HA4.out⟩
      case measure => simp [intOf]; omega
    · obtain rfl : k = 3 := by omega
      obtain ⟨g, hs, hg⟩ := HA.out.scr
      have HS := Lib.hid hs
      have HN := Lib.hid (Next_done hs rfl)
      clear hs hg
      go_wp2_with fail
      refine (HN.out).mono ?_
      rintro e w' ⟨rfl, hb⟩
      have HA1 := Lib.hid ((HA.out.next hb).next ((Below.refl _ _).alloc (Nat.le_refl w'.heap.size) (.cells #[.int .i64 0, .int .i64 0, .int .u64 0, .int .u64 0, .int .u64 0] 42)))
      have HS1 := Lib.hid ((HS.out.later hb).later ((Below.refl _ _).alloc (Nat.le_refl w'.heap.size) (.cells #[.int .i64 0, .int .i64 0, .int .u64 0, .int .u64 0, .int .u64 0] 42)))
      clear hb
      go_wp2_with fail
      refine (Found_any HS1.out).mono ?_
      rintro e w3 ⟨A', c', rfl, hr, ha, hb⟩
      have HA3 := Lib.hid (HA1.out.next hb)
      have HR3 := Lib.hid (show Row w3 w3.heap.size A' (flat (encZ .u64) [5, 6, 7]) from hr)
      clear hr ha hb
      go_wp2_with fail
      refine (CellsRef.Same_yes (l := [5, 6, 7]) rfl rfl (HR3.out.later ((Below.refl _ _).alloc (Nat.le_refl _) _)) (Cells.row_new w3 #[.int .u64 5, .int .u64 6, .int .u64 7] 40) (by decide)).mono ?_
      rintro e w4 ⟨rfl, hb4⟩
      go_wp2
      go_ret
      exact ⟨rfl, ((HA3.out.next ((Below.refl _ _).alloc (Nat.le_refl _) _)).next hb4).below⟩
end Go.Proofs.YthlamnghbdaaiaaDoor.Law11
