/- A linker (package link, layer 20): what it becomes when it is told a word; a new one. -/
import Derived.Test.YtjefjkpomohpiaaGreatDoorLinkNext
namespace Go.Proofs.YtjefjkpomohpiaaGreatDoor.Link
set_option maxRecDepth 20000
open Go.ChangeShapes Go.WideShapes Go.RowKit CM DM PM KM LiM Lay Ints Plan Go.Proofs.YtjefjkpomohpiaaGreatDoor.Task
open Go.Proofs.YtjefjkpomohpiaaGreatDoor.Seek (Seeks Seek_any Next_any Tell_any only_set)
set_option linter.unusedVariables false
set_option linter.unusedSimpArgs false

theorem tell_0 {w : World} {p : Nat} {V0 V1 V2 : Value} {T N L G r dl sq tall lv f : Int} (h : Raw w p V0 V1 V2 T N L G r dl sq tall 0 lv) : Calls Tryz.prog 16 #[.pointer (some ⟨p, 0, none⟩), .int .u64 f] w fun e w' => e = .returned (.tuple #[]) ∧ w = w' := by
  obtain ⟨-, -, -, -, -, -, -, -, -, -, -, e11, -⟩ := h.cells
  clear h
  go_enter Tryz.func16, Tryz.ntmps16
  go_wp2
  exact bodyPost_end (results_none rfl _ _ _) rfl ⟨rfl, rfl⟩
theorem tell_2 {w : World} {p : Nat} {V0 V1 V2 : Value} {T N L G r dl sq tall lv f : Int} (h : Raw w p V0 V1 V2 T N L G r dl sq tall 2 lv) (hl : 0 ≤ lv ∧ lv < 9223372036854775807) : Calls Tryz.prog 16 #[.pointer (some ⟨p, 0, none⟩), .int .u64 f] w fun e w' => e = .returned (.tuple #[]) ∧ Raw w' p V0 V1 V2 T N L G r dl sq tall (if lv + 1 < min tall L then 2 else 3) (lv + 1) ∧ Only (fun k => k = p) w w' := by
  obtain ⟨-, -, -, -, -, -, -, -, -, -, -, e11, e12⟩ := h.cells
  have HG := Lib.hid (goOn_any h (lv + 1))
  have hw : IntKind.i64.wrap (lv + 1) = lv + 1 := IntWalk.i64_in _ ⟨by omega, by omega⟩
  generalize (if lv + 1 < min tall L then (2 : Int) else 3) = u at HG ⊢
  clear h
  go_enter Tryz.func16, Tryz.ntmps16
  go_wp2_with fail
  refine HG.out.mono ?_
  rintro e w1 ⟨rfl, h1, h2⟩
  have HE := Lib.hid (And.intro h1 h2)
  clear h1 h2
  go_wp2
  exact bodyPost_end (results_none rfl _ _ _) rfl ⟨rfl, HE.out⟩
theorem tell_3 {w : World} {p : Nat} {V0 V1 V2 : Value} {T N L G r dl sq tall lv f : Int} {A2 : Option Addr} {n2 c2 : Nat} {ss : List Int} (h : Raw w p V0 V1 (.slice A2 n2 c2) T N L G r dl sq tall 3 lv) (hR : Row w w.heap.size A2 (flat (encZ .u64) ss)) (hn : n2 = ss.length) (h2 : 0 < n2) (h0 : f = ss.getD 0 0) : Calls Tryz.prog 16 #[.pointer (some ⟨p, 0, none⟩), .int .u64 f] w fun e w' => e = .returned (.tuple #[]) ∧ Raw w' p V0 V1 (.slice A2 n2 c2) T N L G r dl sq tall 0 lv ∧ Only (fun k => k = p) w w' := by
  obtain ⟨b0, o0, rfl, hbl, hc0⟩ := int_at hR (show 0 < ss.length by omega)
  obtain ⟨x, hx⟩ : ∃ x, ss[0]? = some x := ⟨_, List.getElem?_eq_getElem (by omega)⟩
  have q0 := hc0 0 x hx
  rw [Nat.add_zero] at q0
  rw [show ss.getD 0 0 = x by rw [List.getD_eq_getElem?_getD, hx]; rfl] at h0
  subst h0
  obtain ⟨-, -, e2, -, -, -, -, -, -, -, -, e11, -⟩ := h.cells
  have f11 := h.thawed 11
  have HE := Lib.hid (And.intro (h.set_st 0) (only_set w p 11 (.int .i64 0)))
  have hgn : (0 : Int) < (n2 : Int) := by omega
  have hq : (f != f) = false := by simp
  clear h hR hx hc0 hn
  go_enter Tryz.func16, Tryz.ntmps16
  go_wp2
  exact bodyPost_end (results_none rfl _ _ _) rfl ⟨rfl, HE.out⟩
theorem tell_3n {w : World} {p : Nat} {V0 V1 V2 : Value} {T N L G r dl sq tall lv f : Int} {A2 : Option Addr} {n2 c2 : Nat} {ss : List Int} (h : Raw w p V0 V1 (.slice A2 n2 c2) T N L G r dl sq tall 3 lv) (hL : L ≤ 9223372036854775807) (hR : Row w w.heap.size A2 (flat (encZ .u64) ss)) (hn : n2 = ss.length) (h2 : 0 < n2) (h0 : ¬ f = ss.getD 0 0) : Calls Tryz.prog 16 #[.pointer (some ⟨p, 0, none⟩), .int .u64 f] w fun e w' => e = .returned (.tuple #[]) ∧ ∃ q S, Raw w' p (.pointer (some ⟨q, 0, none⟩)) (.slice none 0 0) (.slice none 0 0) T N L G r dl sq tall 1 lv ∧ Seeks w' q S T N L G dl sq 0 (anew L 0 0) ∧ (∀ k, S k → w.heap.size ≤ k ∧ k < w'.heap.size) ∧ Only (fun k => k = p) w w' := by
  obtain ⟨b0, o0, rfl, hbl, hc0⟩ := int_at hR (show 0 < ss.length by omega)
  obtain ⟨x, hx⟩ : ∃ x, ss[0]? = some x := ⟨_, List.getElem?_eq_getElem (by omega)⟩
  have q0 := hc0 0 x hx
  rw [Nat.add_zero] at q0
  rw [show ss.getD 0 0 = x by rw [List.getD_eq_getElem?_getD, hx]; rfl] at h0
  obtain ⟨-, -, e2, -, -, -, -, -, -, -, -, e11, -⟩ := h.cells
  have HB := Lib.hid (begin_any h hL)
  have hgn : (0 : Int) < (n2 : Int) := by omega
  have hq : (f != x) = true := by simpa using h0
  clear h hR hx hc0 hn h0
  go_enter Tryz.func16, Tryz.ntmps16
  go_wp2_with fail
  refine HB.out.mono ?_
  rintro e w1 ⟨rfl, h1⟩
  have HE := Lib.hid h1
  clear h1
  go_wp2
  exact bodyPost_ret (v := .tuple #[]) (results_none rfl _ _ _) rfl ⟨rfl, HE.out⟩
/-- What a linker that seeks becomes. -/
def Kept (w : World) (p : Nat) (Q : Nat → Prop) (T N L G r dl sq tall lv : Int) (q k : Nat) (s : KM.St) (e : Ending) (w' : World) : Prop :=
  e = .returned (.tuple #[]) ∧ ∃ Q' A1 c1 A2 c2, Raw w' p (.pointer (some ⟨q, 0, none⟩)) (.slice A1 (keep tall L lv s [] []).ps.length c1) (.slice A2 (keep tall L lv s [] []).ss.length c2) T N L G r dl sq tall (keep tall L lv s [] []).st (keep tall L lv s [] []).lv ∧ Seeks w' q Q' T N L G dl sq k s ∧ (∀ j, Q' j → Q j ∨ (w.heap.size ≤ j ∧ j < w'.heap.size)) ∧
    Row w' w'.heap.size A1 (flat (encZ .u64) (keep tall L lv s [] []).ps) ∧ Row w' w'.heap.size A2 (flat (encZ .u64) (keep tall L lv s [] []).ss) ∧ (∀ a, A1 = some a → flat (encZ .u64) (keep tall L lv s [] []).ps ≠ [] → w.heap.size ≤ a.block) ∧ (∀ a, A2 = some a → flat (encZ .u64) (keep tall L lv s [] []).ss ≠ [] → w.heap.size ≤ a.block) ∧ Only (fun j => j = p ∨ Q j) w w'
theorem tell_1 {w : World} {p : Nat} {V0 V1 V2 : Value} {T N L G r dl sq tall lv f : Int} {q k a1 a2 : Nat} {B1 B2 : Option Addr} {Q : Nat → Prop} {s : KM.St} (h : Raw w p (.pointer (some ⟨q, 0, none⟩)) (.slice B1 0 a1) (.slice B2 0 a2) T N L G r dl sq tall 1 lv) (hs : Seeks w q Q T N L G dl sq k s) (hQ : ∀ j, Q j → j ≠ p) (hlt : ∀ j, Q j → j < w.heap.size) (hk : k + 1 ≤ 1000000) (hf : Word f) : Calls Tryz.prog 16 #[.pointer (some ⟨p, 0, none⟩), .int .u64 f] w (Kept w p Q T N L G r dl sq tall lv q (k + 1) (seekT L dl sq s f)) := by
  obtain ⟨e0, -, -, -, -, -, -, -, -, -, -, e11, -⟩ := h.cells
  have HX := Lib.hid h
  have HQ := Lib.hid (And.intro hQ hlt)
  have HT := Lib.hid (Tell_any hs (by omega) hf)
  have hp := h.lt
  generalize seekT L dl sq s f = s1 at HT ⊢
  clear h hs hQ hlt hf
  by_cases h0 : s1.st = 0
  · have H0 := Lib.hid h0
    clear h0
    go_enter Tryz.func16, Tryz.ntmps16
    go_wp2_with fail
    refine HT.out.mono ?_
    rintro e w1 ⟨rfl, Q1, h1, o1, k1⟩
    have hX1 := HX.out.only o1 (fun e => HQ.out.1 p e rfl)
    have HZ := Lib.hid o1.size
    have HO1 := Lib.hid (o1.wide (R' := fun j => j = p ∨ Q j) fun j e => .inl (.inr e))
    have HQ1 := Lib.hid k1
    have hq1 : ∀ j, Q1 j → j ≠ p := fun j e => (k1 j e).elim (HQ.out.1 j) (fun e => by omega)
    have HS1 := Lib.hid h1
    have HKE := Lib.hid (keep_done hX1 h1 hk H0.out hq1)
    have HU := Lib.hid (show ∃ u, u = (if 0 < min tall L then (2 : Int) else 3) from ⟨_, rfl⟩)
    obtain ⟨u, hu⟩ := HU.out
    rw [← hu] at HKE
    have HU2 := Lib.hid hu
    clear h1 o1 k1 hX1 hq1 hu HU
    go_wp2_with fail
    refine HKE.out.mono ?_
    rintro e w2 ⟨rfl, A1, n1, c1, A2, n2, c2, g1, g2, g3, g4, g5, g6, g7, g8, g9⟩
    have HE := Lib.hid (show Kept w p Q T N L G r dl sq tall lv q (k + 1) s1 (.returned (.tuple #[])) w2 from by
      unfold Kept
      rw [LiM.keep_done H0.out]
      unfold goOn
      rw [← HU2.out]
      exact ⟨rfl, Q1, A1, c1, A2, c2, by rw [List.length_reverse, List.length_reverse, ← g3, ← g4]; exact g1, g2, fun j z => (HQ1.out j z).imp id fun z => ⟨z.1, Nat.lt_of_lt_of_le z.2 g9.size⟩, g5, g6, fun a z _ => Nat.le_trans HZ.out (g7 a z), fun a z _ => Nat.le_trans HZ.out (g8 a z), HO1.out.trans (g9.wide fun j z => .inl (.inl z))⟩)
    clear g1 g2 g3 g4 g5 g6 g7 g8 g9
    go_wp2
    exact bodyPost_end (results_none rfl _ _ _) rfl HE.out
  · have H0 := Lib.hid h0
    clear h0
    go_enter Tryz.func16, Tryz.ntmps16
    go_wp2_with fail
    refine HT.out.mono ?_
    rintro e w1 ⟨rfl, Q1, h1, o1, k1⟩
    have hX1 := HX.out.only o1 (fun e => HQ.out.1 p e rfl)
    have HZ := Lib.hid o1.size
    have HO1 := Lib.hid (o1.wide (R' := fun j => j = p ∨ Q j) fun j e => .inl (.inr e))
    have HQ1 := Lib.hid k1
    have hq1 : ∀ j, Q1 j → j ≠ p := fun j e => (k1 j e).elim (HQ.out.1 j) (fun e => by omega)
    have HS1 := Lib.hid h1
    have HKE := Lib.hid (keep_more hX1 h1 H0.out)
    clear h1 o1 k1 hq1
    go_wp2_with fail
    refine HKE.out.mono ?_
    rintro e w2 ⟨rfl, b2⟩
    have HE := Lib.hid (show Kept w p Q T N L G r dl sq tall lv q (k + 1) s1 (.returned (.tuple #[])) w2 from by
      unfold Kept
      rw [LiM.keep_more H0.out]
      exact ⟨rfl, Q1, B1, a1, B2, a2, hX1.later b2, seeks_only HS1.out (only_below (fun _ => False) b2) (fun _ _ => id), fun j z => (HQ1.out j z).imp id fun z => ⟨z.1, Nat.lt_of_lt_of_le z.2 b2.size⟩, fun h => absurd rfl h, fun h => absurd rfl h, fun a z h => absurd rfl h, fun a z h => absurd rfl h, HO1.out.then_below b2⟩)
    clear b2 hX1
    go_wp2
    exact bodyPost_end (results_none rfl _ _ _) rfl HE.out
theorem Link_tell {w : World} {p k : Nat} {S : Nat → Prop} {T N L G r dl sq tall f : Int} {s : LiM.St} (h : Links w p S T N L G r dl sq tall k s) (hk : k + 1 ≤ 1000000) (hf : Word f) : Calls Tryz.prog 16 #[.pointer (some ⟨p, 0, none⟩), .int .u64 f] w fun e w' =>
    e = .returned (.tuple #[]) ∧ ∃ S', Links w' p S' T N L G r dl sq tall (k + 1) (linkT L dl sq tall s f) ∧ Only S w w' ∧ ∀ j, S' j → S j ∨ (w.heap.size ≤ j ∧ j < w'.heap.size) := by
  obtain ⟨ho, ⟨hL1, hL2, hr⟩, hp, hlt, q, Q, A1, c1, A2, c2, k1, k2, k3, k4, k5, k6, k7⟩ := h
  have hok := linkT_ok (dl := dl) (sq := sq) ho hL1 hL2 hf
  have hu : ∀ {w' : World} {s' : KM.St}, Seeks w' q Q T N L G dl sq k s' → Seeks w' q Q T N L G dl sq (k + 1) s' := fun z => ⟨z.1.up (Nat.le_succ _), z.2⟩
  have hone : ∀ {w' : World}, Only (fun j => j = p) w w' → Only S w w' := fun z => z.wide fun j e => .inl (e ▸ hp)
  have hpw := k1.lt
  obtain ⟨st, lv, sk, ps, ss⟩ := s
  have h0 := ho.st
  simp only at h0 k1 k2 k4 k5 k6 k7
  rcases h0 with rfl | rfl | rfl | rfl
  · rw [linkT_0] at hok ⊢
    refine (tell_0 k1).mono ?_
    rintro e w' ⟨rfl, rfl⟩
    exact ⟨rfl, S, ⟨hok, ⟨hL1, hL2, hr⟩, hp, hlt, q, Q, A1, c1, A2, c2, k1, hu k2, k3, k4, k5, k6, k7⟩, Only.refl _ _, fun j e => .inl e⟩
  · obtain ⟨-, rfl, rfl⟩ := ho.look rfl
    rw [linkT_1] at hok ⊢
    refine (tell_1 (V0 := .bool false) (V1 := .bool false) (V2 := .bool false) k1 k2 (fun j e => (k3 j e).2) (fun j e => hlt j (k3 j e).1) hk hf).mono ?_
    rintro e w' ⟨rfl, Q', B1, d1, B2, d2, g1, g2, g3, g4, g5, g6, g7, g8⟩
    have hz := g8.size
    have hq2 : ∀ j, Q' j → (S j ∨ (w.heap.size ≤ j ∧ j < w'.heap.size)) ∧ j ≠ p := fun j e => (g3 j e).elim (fun e => ⟨.inl (k3 j e).1, (k3 j e).2⟩) (fun e => ⟨.inr e, by omega⟩)
    have hin : ∀ {A : Option Addr} {l : List Int} (a : Addr), Row w' w'.heap.size A (flat (encZ .u64) l) → A = some a → flat (encZ .u64) l ≠ [] → a.block < w'.heap.size := fun a hr e hn => by
      obtain ⟨g, o, e2, hb, -⟩ := hr hn
      rw [e] at e2
      cases e2
      exact hb
    have hsk : (keep tall L lv (seekT L dl sq sk f) [] []).sk = seekT L dl sq sk f := by
      unfold keep goOn
      split <;> rfl
    exact ⟨rfl, fun j => S j ∨ (w.heap.size ≤ j ∧ j < w'.heap.size), ⟨hok, ⟨hL1, hL2, hr⟩, .inl hp, fun j e => e.elim (fun e => Nat.lt_of_lt_of_le (hlt j e) hz) And.right, q, Q', B1, d1, B2, d2, g1, by rw [hsk]; exact g2, hq2, g4, g5,
      fun a e hn => ⟨.inr ⟨g6 a e hn, hin a g4 e hn⟩, by have := g6 a e hn; omega⟩, fun a e hn => ⟨.inr ⟨g7 a e hn, hin a g5 e hn⟩, by have := g7 a e hn; omega⟩⟩, g8.wide fun j e => .inl (e.elim (fun e => e ▸ hp) fun e => (k3 j e).1), fun j e => e⟩
  · rw [linkT_2] at hok ⊢
    obtain ⟨a, b⟩ := ho.lead rfl
    have c := ho.lv.1
    simp only at a b c
    refine (tell_2 k1 ⟨c, by omega⟩).mono ?_
    rintro e w' ⟨rfl, g1, g2⟩
    have hz := g2.size
    exact ⟨rfl, S, ⟨hok, ⟨hL1, hL2, hr⟩, hp, fun j e => Nat.lt_of_lt_of_le (hlt j e) hz, q, Q, A1, c1, A2, c2, g1, hu (seeks_only k2 g2 fun j e => (k3 j e).2), k3, g2.row k4 fun hn a e => (k6 a e hn).2, g2.row k5 fun hn a e => (k7 a e hn).2, k6, k7⟩, hone g2, fun j e => .inl e⟩
  · obtain ⟨a, b⟩ := ho.len (by simp)
    simp only at a b
    by_cases e : f = ss.getD 0 0
    · rw [linkT_3 e] at hok ⊢
      refine (tell_3 (V2 := .bool false) k1 k5 rfl (by omega) e).mono ?_
      rintro e w' ⟨rfl, g1, g2⟩
      have hz := g2.size
      exact ⟨rfl, S, ⟨hok, ⟨hL1, hL2, hr⟩, hp, fun j e => Nat.lt_of_lt_of_le (hlt j e) hz, q, Q, A1, c1, A2, c2, g1, hu (seeks_only k2 g2 fun j e => (k3 j e).2), k3, g2.row k4 fun hn a e => (k6 a e hn).2, g2.row k5 fun hn a e => (k7 a e hn).2, k6, k7⟩, hone g2, fun j e => .inl e⟩
    · rw [linkT_3n e] at hok ⊢
      refine (tell_3n (V2 := .bool false) k1 hL2 k5 rfl (by omega) e).mono ?_
      rintro e w' ⟨rfl, q', Q', g1, g2, g3, g4⟩
      have hz := g4.size
      exact ⟨rfl, fun j => S j ∨ (w.heap.size ≤ j ∧ j < w'.heap.size), ⟨hok, ⟨hL1, hL2, hr⟩, .inl hp, fun j e => e.elim (fun e => Nat.lt_of_lt_of_le (hlt j e) hz) And.right, q', Q', none, 0, none, 0, g1, ⟨g2.1.up (Nat.zero_le _), g2.2⟩, fun j e => ⟨.inr (g3 j e), by have := (g3 j e).1; omega⟩, Row.none_, Row.none_, fun a e => (by cases e), fun a e => (by cases e)⟩, hone g4, fun j e => e⟩
theorem Link_any (T N L G r dl sq tall : Int) (hL : 1 ≤ L ∧ L ≤ 9223372036854775807) (hr : Word r) (w : World) : Calls Tryz.prog 14 #[.agg #[.int .i64 T, .int .i64 N, .int .i64 L, .int .u64 G], .int .u64 r, .agg #[.int .i64 dl, .int .u64 sq], .int .i64 tall] w fun e w' => ∃ p S, e = .returned (.pointer (some ⟨p, 0, none⟩)) ∧ Links w' p S T N L G r dl sq tall 0 (LiM.begin L 0) ∧ (∀ k, S k → w.heap.size ≤ k ∧ k < w'.heap.size) ∧ Below w.heap.size w w' := by
  have HE := Lib.hid (show Raw (((w.alloc (.cells #[.int .i64 T, .int .i64 N, .int .i64 L, .int .u64 G] 24)).alloc (.cells #[.int .i64 dl, .int .u64 sq] 27)).alloc (.cells #[.pointer none, .slice none 0 0, .slice none 0 0, .int .i64 T, .int .i64 N, .int .i64 L, .int .u64 G, .int .u64 r, .int .i64 dl, .int .u64 sq, .int .i64 tall, .int .i64 0, .int .i64 0] 74)) (w.heap.size + 2) (.pointer none) (.slice none 0 0) (.slice none 0 0) T N L G r dl sq tall 0 0 from by
    have h := new_heap ((w.alloc (.cells #[.int .i64 T, .int .i64 N, .int .i64 L, .int .u64 G] 24)).alloc (.cells #[.int .i64 dl, .int .u64 sq] 27)) (.cells #[.pointer none, .slice none 0 0, .slice none 0 0, .int .i64 T, .int .i64 N, .int .i64 L, .int .u64 G, .int .u64 r, .int .i64 dl, .int .u64 sq, .int .i64 tall, .int .i64 0, .int .i64 0] 74)
    simp only [World.size_alloc] at h
    exact h)
  have HB := Lib.hid (show ∀ o1 o2 o3, Below w.heap.size w (((w.alloc o1).alloc o2).alloc o3) from fun o1 o2 o3 => (((Below.refl _ _).alloc (Nat.le_refl _) _).alloc (by simp) _).alloc (by simp; omega) _)
  obtain ⟨c_0, c_1, c_2, c_3⟩ := box4 w (.int .i64 T) (.int .i64 N) (.int .i64 L) (.int .u64 G) 24
  have HBE := Lib.hid (begin_any HE.out hL.2)
  have HH := Lib.hid (And.intro hL hr)
  have hpos : (0 : Int) < L := by omega
  clear hL hr
  go_enter Tryz.func14, Tryz.ntmps14
  go_wp2_with fail
  refine HBE.out.mono ?_
  rintro e w1 ⟨rfl, q, Q, h1, h2, h3, h4⟩
  have H1 := Lib.hid (show ∃ S, Links w1 (w.heap.size + 2) S T N L G r dl sq tall 0 (LiM.begin L 0) ∧ (∀ k, S k → w.heap.size ≤ k ∧ k < w1.heap.size) ∧ Below w.heap.size w w1 from by
    have hz := h4.size
    have hb := HB.out (.cells #[.int .i64 T, .int .i64 N, .int .i64 L, .int .u64 G] 24) (.cells #[.int .i64 dl, .int .u64 sq] 27) (.cells #[.pointer none, .slice none 0 0, .slice none 0 0, .int .i64 T, .int .i64 N, .int .i64 L, .int .u64 G, .int .u64 r, .int .i64 dl, .int .u64 sq, .int .i64 tall, .int .i64 0, .int .i64 0] 74)
    simp only [World.size_alloc] at h3 hz
    refine ⟨fun j => w.heap.size + 2 ≤ j ∧ j < w1.heap.size, ⟨begin_ok HH.out.1.1 HH.out.1.2 ⟨Int.le_refl _, by have := HH.out.1; omega⟩, ⟨HH.out.1.1, HH.out.1.2, HH.out.2⟩, ⟨Nat.le_refl _, by omega⟩, fun j e => e.2, q, Q, none, 0, none, 0, h1, h2, fun j e => ⟨⟨by have := (h3 j e).1; omega, (h3 j e).2⟩, by have := (h3 j e).1; omega⟩, Row.none_, Row.none_, fun a e => (by cases e), fun a e => (by cases e)⟩, fun k e => ⟨by have := e.1; omega, e.2⟩, hb.trans (h4.below hb.size fun k e => by omega)⟩)
  clear h1 h2 h3 h4 c_0 c_1 c_2 c_3
  go_wp2
  go_ret
  obtain ⟨S, hS⟩ := H1.out
  exact ⟨_, S, rfl, hS⟩
end Go.Proofs.YtjefjkpomohpiaaGreatDoor.Link
