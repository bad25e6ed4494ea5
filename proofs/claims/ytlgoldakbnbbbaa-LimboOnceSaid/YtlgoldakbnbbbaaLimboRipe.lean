/- Package limbo's Ripe (layer 15): what is ripe is told, in a new list; what stays, stays in order; all else in memory stays as it was. -/
import Derived.Test.YtlgoldakbnbbbaaLimboWalks
namespace Go.Proofs.Ytlgoldakbnbbbaa.Limbo
set_option maxRecDepth 20000
open Go.ChangeShapes Go.WideShapes Go.RowKit LM Lay
set_option linter.unusedVariables false
set_option linter.unusedSimpArgs false

theorem Ripe_nil (c : Int) (w : World) : Calls Try.prog 11 #[.pointer none, .int .u64 c] w fun e w' => e = .returned (.slice none 0 0) ∧ w = w' := by
  go_enter Try.func11, Try.ntmps11
  go_wp2
  go_ret
  exact ⟨rfl, rfl⟩
/-- What Ripe ends in: what is ripe, in a list in new memory; the limbo has the others. -/
def Ripens (w : World) (p : Nat) (S : Nat → Prop) (L : Ls) (c : Int) (e : Ending) (w' : World) : Prop :=
  ∃ (A' : Option Addr) (n c' : Nat) (S' : Nat → Prop), e = .returned (.slice A' n c') ∧ n = ((allL L).filter (ripeB c)).length ∧ Row w' w'.heap.size A' (flat encR ((allL L).filter (ripeB c))) ∧ (∀ a, A' = some a → w.heap.size ≤ a.block ∧ a.block < w'.heap.size) ∧
    Lim w' p S' (amidL L c 3) ∧ (∀ k, S' k → S k ∨ w.heap.size ≤ k) ∧ Only S w w'
/-- Ripe under way: the limbo as it is, what is told, what stays of the list that is looked at. -/
structure Sorts (w : World) (p : Nat) (S : Nat → Prop) (L' : Ls) (F : Option Addr) (a fc : Nat) (out : List R2) (G : Option Addr) (b gc : Nat) (stay : List R2) (wr : World) : Prop where
  lim : ∃ S', Lim wr p S' L' ∧ (∀ k, S' k → S k ∨ w.heap.size ≤ k) ∧ (∀ x, F = some x → ¬ S' x.block) ∧ (∀ x, G = some x → ¬ S' x.block)
  out : wr.ownsRow w.heap.size 29 2 (.slice F a fc) a (flat encR out)
  stay : wr.ownsRow w.heap.size 29 2 (.slice G b gc) b (flat encR stay)
  apart : ∀ x y, F = some x → G = some y → x.block ≠ y.block
  only : Only S w wr
  row : Only (fun k => k = p) w wr
section
variable {w wr w1 : World} {p : Nat} {S : Nat → Prop} {L' : Ls} {F G : Option Addr} {a fc b gc : Nat} {out stay : List R2}
theorem Sorts.next (h : Sorts w p S L' F a fc out G b gc stay wr) (hb : Below wr.heap.size wr w1) : Sorts w p S L' F a fc out G b gc stay w1 := by
  obtain ⟨⟨S', h1, h2, h3, h4⟩, h5, h6, h7, h8, h9⟩ := h
  exact ⟨⟨S', h1.later hb, h2, h3, h4⟩, own_later h5 hb, own_later h6 hb, h7, h8.then_below hb, h9.then_below hb⟩
/-- One more is told. -/
theorem Sorts.tell (h : Sorts w p S L' F a fc out G b gc stay wr) {g2 cap : Nat} {x : R2} (ho : w1.ownsRow w.heap.size 29 2 (.slice (some ⟨g2, 0, none⟩) (a + 1) cap) (a + 1) (flat encR out ++ encR x))
    (hor : (Value.slice F a fc).ownBlock = some g2 ∨ g2 = wr.heap.size) (hon : Only (fun k => (Value.slice F a fc).ownBlock = some k) wr w1) : Sorts w p S L' (some ⟨g2, 0, none⟩) (a + 1) cap (out ++ [x]) G b gc stay w1 := by
  obtain ⟨⟨S', h1, h2, h3, h4⟩, h5, h6, h7, h8, h9⟩ := h
  have hs := h8.size
  have hF : ∀ k, (Value.slice F a fc).ownBlock = some k → ¬ S' k ∧ w.heap.size ≤ k ∧ (∀ y, G = some y → k ≠ y.block) := fun k hk => by
    have h10 := (h5.lt k hk).1
    obtain ⟨y, hy, rfl⟩ := own_block hk
    exact ⟨h3 y hy, h10, fun z hz => h7 y z hy hz⟩
  have hnew : ¬ S' g2 ∧ (∀ y, G = some y → g2 ≠ y.block) := by
    rcases hor with e | e
    · exact ⟨(hF _ e).1, (hF _ e).2.2⟩
    · refine ⟨fun e2 => by have := h1.lt _ e2; omega, fun y hy e2 => ?_⟩
      subst hy
      have := (h6.lt y.block rfl).2
      omega
  exact ⟨⟨S', h1.only hon (fun k hk => (hF k hk).1), h2, fun y hy => by cases hy; exact hnew.1, h4⟩, by rw [flat_append, flat_one]; exact ho, hon.own h6 (fun k hk e => by
    obtain ⟨y, hy, rfl⟩ := own_block hk
    exact (hF _ e).2.2 y hy rfl), fun y z hy hz => by cases hy; exact hnew.2 z hz, h8.more hon (fun i hi => .inr (hF i hi).2.1), h9.more hon (fun i hi => .inr (hF i hi).2.1)⟩
/-- One more stays. -/
theorem Sorts.keep (h : Sorts w p S L' F a fc out G b gc stay wr) {g2 cap : Nat} {x : R2} (ho : w1.ownsRow w.heap.size 29 2 (.slice (some ⟨g2, 0, none⟩) (b + 1) cap) (b + 1) (flat encR stay ++ encR x))
    (hor : (Value.slice G b gc).ownBlock = some g2 ∨ g2 = wr.heap.size) (hon : Only (fun k => (Value.slice G b gc).ownBlock = some k) wr w1) : Sorts w p S L' F a fc out (some ⟨g2, 0, none⟩) (b + 1) cap (stay ++ [x]) w1 := by
  obtain ⟨⟨S', h1, h2, h3, h4⟩, h5, h6, h7, h8, h9⟩ := h
  have hs := h8.size
  have hG : ∀ k, (Value.slice G b gc).ownBlock = some k → ¬ S' k ∧ w.heap.size ≤ k ∧ (∀ y, F = some y → y.block ≠ k) := fun k hk => by
    have h10 := (h6.lt k hk).1
    obtain ⟨y, hy, rfl⟩ := own_block hk
    exact ⟨h4 y hy, h10, fun z hz => h7 z y hz hy⟩
  have hnew : ¬ S' g2 ∧ (∀ y, F = some y → y.block ≠ g2) := by
    rcases hor with e | e
    · exact ⟨(hG _ e).1, (hG _ e).2.2⟩
    · refine ⟨fun e2 => by have := h1.lt _ e2; omega, fun y hy e2 => ?_⟩
      subst hy
      have := (h5.lt y.block rfl).2
      omega
  exact ⟨⟨S', h1.only hon (fun k hk => (hG k hk).1), h2, h3, fun y hy => by cases hy; exact hnew.1⟩, hon.own h5 (fun k hk e => by
    obtain ⟨y, hy, rfl⟩ := own_block hk
    exact (hG _ e).2.2 y hy rfl), by rw [flat_append, flat_one]; exact ho, fun y z hy hz => by cases hz; exact hnew.2 y hy, h8.more hon (fun i hi => .inr (hG i hi).2.1), h9.more hon (fun i hi => .inr (hG i hi).2.1)⟩
/-- What stays is the limbo's k-th row now; the next list begins with none. -/
theorem Sorts.store {k : Nat} (h : Sorts w p S L' F a fc out G b gc stay wr) (hk : k < 3) (hb : b = stay.length) (hp : w.heap.size ≤ p → False) : Sorts w p S (putL L' k stay) F a fc out none 0 0 [] (wr.setCell ⟨p, k, none⟩ (.slice G b gc)) := by
  obtain ⟨⟨S', ⟨A, c, h1⟩, h2, h3, h4⟩, h5, h6, h7, h8, h9⟩ := h
  subst hb
  have hs := h8.size
  have hput := h1.put (R := fun _ => False) hk (Only.refl _ wr) (fun k e => e.elim) (own_base h6 (Nat.zero_le _)) (fun x hx => ⟨by subst hx; exact (h6.lt x.block rfl).2, .inl (h4 x hx)⟩)
  have hSp : S p := (h2 p h1.mem).elim id (fun e => (hp e).elim)
  refine ⟨⟨_, hput, fun i hi => ?_, fun x hx hi => ?_, fun x hx => by cases hx⟩, (only_setCell (R := fun k => k = p) wr rfl _).own h5 (fun k hk e => ?_), World.ownsRow_nil _ _ _ _, (fun x y _ hy => by cases hy), h8.setCell (.inl hSp) _, h9.setCell (.inl rfl) _⟩
  · rcases hi with hi | ⟨x, hx, rfl⟩
    · exact h2 i hi
    · subst hx
      exact .inr (h6.lt x.block rfl).1
  · rcases hi with hi | ⟨y, hy, hyx⟩
    · exact h3 x hx hi
    · exact h7 x y hx hy hyx.symm
  · obtain ⟨y, hy, rfl⟩ := own_block hk
    exact h3 y hy (e ▸ h1.mem)
theorem Sorts.cell {k : Nat} (h : Sorts w p S L' F a fc out G b gc stay wr) (hk : k < 3) : (∃ v, wr.cell? ⟨p, k, none⟩ = some v) ∧ wr.frozen? ⟨p, k, none⟩ = false := by
  obtain ⟨⟨S', ⟨A, c, h1⟩, h2, h3, h4⟩, h5, h6, h7, h8, h9⟩ := h
  exact ⟨⟨_, (h1.cell hk).1⟩, (h1.cell hk).2⟩
end
set_option maxHeartbeats 2000000 in
theorem Ripe_any {p : Nat} {S : Nat → Prop} {L : Ls} {w : World} (hL : Lim w p S L) (hm : lenL L ≤ 1000000) {c : Int} (h0 : 0 ≤ c) (h1 : c < 18446744073709551616) : Calls Try.prog 11 #[.pointer (some ⟨p, 0, none⟩), .int .u64 c] w (Ripens w p S L c) := by
  have HS0 := Lib.hid (show Sorts w p S L none 0 0 [] none 0 0 [] w from ⟨⟨S, hL, fun k e => .inl e, (fun x e => by cases e), (fun x e => by cases e)⟩, World.ownsRow_nil _ _ _ _, World.ownsRow_nil _ _ _ _, (fun x y e => by cases e), Only.refl _ _, Only.refl _ _⟩)
  have HP := Lib.hid (show w.heap.size ≤ p → False from fun e => by have := hL.lt _ hL.mem; omega)
  obtain ⟨A, cc, hP⟩ := hL
  obtain ⟨N, hN⟩ : ∃ N : Nat → Nat, N = fun i => (L i).length := ⟨_, rfl⟩
  have c0 := (hP.cell (i := 0) (by omega)).1
  have c1 := (hP.cell (i := 1) (by omega)).1
  have c2 := (hP.cell (i := 2) (by omega)).1
  have e0 : (L 0).length = N 0 := by rw [hN]
  have e1 : (L 1).length = N 1 := by rw [hN]
  have e2 : (L 2).length = N 2 := by rw [hN]
  rw [e0] at c0
  rw [e1] at c1
  rw [e2] at c2
  have HI := Lib.hid fun k (hk : k < 3) => idx3 A N cc hk
  have HR := Lib.hid (show ∀ k, k < 3 → Row w w.heap.size (A k) (flat encR (L k)) ∧ ∀ x, A k = some x → ¬ x.block = p from fun k hk => ⟨Row.of_own (hP.own k hk), fun x hx => (hP.at_ k x hk hx).2⟩)
  have HN := Lib.hid (show ∀ k, N k = (L k).length from fun k => by rw [hN])
  have HL := Lib.hid (show ∀ k, k < 3 → (upL L k).length + N k ≤ 1000000 from fun k hk => by
    have := upL_len L (k := k + 1) (by omega)
    simp [upL] at this
    rw [hN]
    show _ + (L k).length ≤ _
    omega)
  have HC0 := Lib.hid h0
  have HC1 := Lib.hid h1
  obtain ⟨i0, hi0, hz0, hz1, hz2⟩ := info_parts info_R
  clear hP hN e0 e1 e2 hm h0 h1
  go_enter Try.func11, Try.ntmps11
  go_wp2
  go_loopw [5, 17] (fun v i wr => ∃ (k a fc : Nat) (F : Option Addr), k ≤ 3 ∧ i = .int .i64 k ∧ v = .slice F a fc ∧ a ≤ (upL L k).length ∧ Sorts w p S (amidL L c k) F a fc (outL L c k) none 0 0 [] wr) (fun _ i _ => 3 - (intOf i).toNat)
  case atStart => exact ⟨0, 0, 0, none, Nat.zero_le _, rfl, rfl, Nat.zero_le _, by rw [amidL_0]; exact HS0.out⟩
  case round =>
    obtain ⟨k, a, fc, F, hk, rfl, rfl, ha, hs⟩ := hrel
    have HS := Lib.hid hs
    clear hs
    by_cases hlt : k < 3
    · have hix := HI.out k hlt
      have hnk := HL.out k hlt
      have hk0 : (0 : Int) ≤ (k : Int) := by omega
      have hk3 : (k : Int) < 3 := by omega
      obtain ⟨m, hmk⟩ : ∃ m, N k = m := ⟨_, rfl⟩
      have HMK := Lib.hid hmk
      rw [hmk] at hix hnk
      clear hmk
      go_wp2
      go_loopw [5, 8, 23] (fun v s j wi => ∃ (i a2 f2 b g : Nat) (F2 G : Option Addr), i ≤ m ∧ j = .int .i64 i ∧ v = .slice F2 a2 f2 ∧ s = .slice G b g ∧ a2 ≤ a + i ∧ b ≤ i ∧ b = (((L k).take i).filter (fun x => !ripeB c x)).length ∧ Sorts w p S (amidL L c k) F2 a2 f2 (outL L c k ++ ((L k).take i).filter (ripeB c)) G b g (((L k).take i).filter (fun x => !ripeB c x)) wi) (fun _ _ j _ => m - (intOf j).toNat)
      case atStart => exact ⟨0, a, fc, 0, 0, F, none, Nat.zero_le _, rfl, rfl, rfl, Nat.le_refl _, Nat.le_refl _, rfl, by simpa using HS.out⟩
      case round =>
        obtain ⟨i, a2, f2, b, g, F2, G, hi, rfl, rfl, rfl, ha2, hb2, hbl, hs2⟩ := hrel
        have HS2 := Lib.hid hs2
        have HBL := Lib.hid hbl
        clear hs2 hbl
        by_cases hil : i < m
        · obtain ⟨x, hx⟩ : ∃ x, (L k)[i]? = some x := ⟨_, List.getElem?_eq_getElem (by rw [← HN.out, HMK.out]; exact hil)⟩
          obtain ⟨b1, o1, hA1, hlt1, hc1⟩ := Open.two_at (HS2.out.row.row (HR.out k hlt).1 (fun _ => (HR.out k hlt).2)) (i := i) (by rw [← HN.out, HMK.out]; exact hil)
          obtain ⟨d0, d1⟩ := hc1 i x hx
          obtain ⟨r, e⟩ := x
          simp only at d0 d1
          rw [hA1] at hix ⊢
          have HX := Lib.hid hx
          have HA1 := Lib.hid hA1
          clear hc1 hx hix hA1
          have HB0 := Lib.hid ((Below.refl wr.heap.size wr).alloc (Nat.le_refl _) (.cells #[.int .u64 r, .int .u64 e] 29))
          rcases Bool.eq_false_or_eq_true (ripeB c (r, e)) with hr | hr
          · -- ripe
            have HRI := Lib.hid hr
            have HNR := Lib.hid (show (fun x => !ripeB c x) (r, e) = false by simp [hr])
            clear hr
            go_wp2_with fail
            refine (ripe_is HC0.out HC1.out HRI.out _).mono ?_
            rintro e1 w2 ⟨rfl, hb⟩
            have hbx := (hb.block wr.heap.size (by simp)).trans (new_heap wr _)
            have q0 := (cell_heap hbx 0).1
            have q1 := (cell_heap hbx 1).1
            simp at q0 q1
            have HS4 := Lib.hid ((HS2.out.next (HB0.out.trans (hb.mono HB0.out.size))).next ((Below.refl w2.heap.size w2).alloc (Nat.le_refl _) (.cells #[.int .u64 r, .int .u64 e] 29)))
            clear hb hbx
            go_wp2_with (at_builtin; refine wpList_append_only _ rfl (.tmp 30) (.tmp 32) 26 rfl w.heap.size 29 i0 _ 2 16 Try.underlying26 hi0 hz0 hz1 hz2 rfl (by decide) _ a2 _ rfl HS4.out.out ⟨w2.heap.size, 0, none⟩ 1 1 (encR (r, e)) rfl (by decide) rfl (cells_new _ _ _) (encR_one _) (by simp only [maxLen]; omega) (by omega) (by have := HS4.out.only.size; omega) ?_; intro g2 cap w4 ho4 hg4 hlt4 hor4 hon4; have HS5 := Lib.hid (HS4.out.tell ho4 hor4 hon4); clear ho4 hor4 hon4)
            go_roundw
            case rel => exact ⟨i + 1, a2 + 1, cap, b, g, some ⟨g2, 0, none⟩, G, by omega, by go_num, rfl, rfl, by omega, by omega, by rw [filter_no (p := fun x => !ripeB c x) HX.out HNR.out]; exact HBL.out, by rw [filter_no (p := fun x => !ripeB c x) HX.out HNR.out, filter_yes HX.out HRI.out, ← List.append_assoc]; exact HS5.out⟩
            case measure => simp [intOf]; omega
          · -- not yet
            have HRI := Lib.hid hr
            have HNR := Lib.hid (show (fun x => !ripeB c x) (r, e) = true by simp [hr])
            clear hr
            go_wp2_with fail
            refine (ripe_is HC0.out HC1.out HRI.out _).mono ?_
            rintro e1 w2 ⟨rfl, hb⟩
            have hbx := (hb.block wr.heap.size (by simp)).trans (new_heap wr _)
            have q0 := (cell_heap hbx 0).1
            have q1 := (cell_heap hbx 1).1
            simp at q0 q1
            have HS4 := Lib.hid ((HS2.out.next (HB0.out.trans (hb.mono HB0.out.size))).next ((Below.refl w2.heap.size w2).alloc (Nat.le_refl _) (.cells #[.int .u64 r, .int .u64 e] 29)))
            clear hb hbx
            go_wp2_with (at_builtin; refine wpList_append_only _ rfl (.tmp 34) (.tmp 36) 26 rfl w.heap.size 29 i0 _ 2 16 Try.underlying26 hi0 hz0 hz1 hz2 rfl (by decide) _ b _ rfl HS4.out.stay ⟨w2.heap.size, 0, none⟩ 1 1 (encR (r, e)) rfl (by decide) rfl (cells_new _ _ _) (encR_one _) (by simp only [maxLen]; omega) (by omega) (by have := HS4.out.only.size; omega) ?_; intro g2 cap w4 ho4 hg4 hlt4 hor4 hon4; have HS5 := Lib.hid (HS4.out.keep ho4 hor4 hon4); clear ho4 hor4 hon4)
            go_roundw
            case rel => exact ⟨i + 1, a2, f2, b + 1, cap, F2, some ⟨g2, 0, none⟩, by omega, by go_num, rfl, rfl, by omega, by omega, by rw [filter_yes (p := fun x => !ripeB c x) HX.out HNR.out, List.length_append, ← HBL.out]; rfl, by rw [filter_yes (p := fun x => !ripeB c x) HX.out HNR.out, filter_no HX.out HRI.out]; exact HS5.out⟩
            case measure => simp [intOf]; omega
        · obtain rfl : i = m := by omega
          have HE := Lib.hid (show Sorts w p S (amidL L c (k + 1)) F2 a2 f2 (outL L c (k + 1)) none 0 0 [] (wr.setCell ⟨p, k, none⟩ (.slice G b g)) from by
            have h := HS2.out.store hlt HBL.out HP.out
            rw [List.take_of_length_le (by rw [← HN.out, HMK.out]; exact Nat.le_refl _)] at h
            rw [amidL_succ, ← outL_succ] at h
            exact h)
          obtain ⟨⟨v0, g0⟩, g1⟩ := HS2.out.cell hlt
          have HUP := Lib.hid (show a2 ≤ (upL L (k + 1)).length by simp only [upL, List.length_append]; rw [← HN.out k, HMK.out]; omega)
          go_wp2
          go_roundw
          case rel => exact ⟨k + 1, a2, f2, F2, by omega, by go_num, rfl, HUP.out, HE.out⟩
          case measure => simp [intOf]; omega
    · obtain rfl : k = 3 := by omega
      have HE := Lib.hid (show Ripens w p S L c (.returned (.slice F a fc)) wr from by
        have h := HS.out
        rw [outL_3] at h
        obtain ⟨⟨S', h1, h2, h3, h4⟩, h5, h6, h7, h8, h9⟩ := h
        exact ⟨F, a, fc, S', rfl, by have := h5.1; rw [flat_length encR_length] at this; omega, Row.of_own h5, new_of_own h5, h1, h2, h8⟩)
      go_wp2
      go_ret
      exact HE.out
end Go.Proofs.Ytlgoldakbnbbbaa.Limbo
