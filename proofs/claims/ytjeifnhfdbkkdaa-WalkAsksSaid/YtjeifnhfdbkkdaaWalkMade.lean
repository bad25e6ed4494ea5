/- Package walk (layer 26), part three: a walker as a task: what it asks for, what it becomes when it is told, which timers it took, by which deadline it was stopped; a new one; all else in memory stays as it was. -/
import Derived.Test.YtjeifnhfdbkkdaaWalkTell
namespace Go.Proofs.Ytjeifnhfdbkkdaa.Wlk
set_option maxRecDepth 20000
open Go.ChangeShapes Go.WideShapes Go.RowKit CM DM PM KM WaM Lay Plan Go.Proofs.Ytjeifnhfdbkkdaa.Task Go.Proofs.Ytjeifnhfdbkkdaa.DueRows
open ClM (genI)
set_option linter.unusedVariables false
set_option linter.unusedSimpArgs false

/-- A step's number in the program. -/
def atO (st : Int) : Int := if st ≤ 2 then st else st - 1
/-- A walker in block p, told k words at most; S: all its blocks. -/
def Walks (w : World) (p : Nat) (S : Nat → Prop) (T N L G ct : Int) (k : Nat) (s : WaM.St) : Prop := WaM.Ok k s ∧ ∃ A c, Parts w p S T N L G ct (atO s.st) s.nw s.cu s.dd s.sp s.out A c
section
variable {w w' : World} {p c : Nat} {S : Nat → Prop} {T N L G ct a nw cu dd sp : Int} {out : List Du} {A : Option Addr}
theorem Parts.only {R : Nat → Prop} (h : Parts w p S T N L G ct a nw cu dd sp out A c) (ho : Only R w w') (hR : ∀ k, S k → ¬ R k) : Parts w' p S T N L G ct a nw cu dd sp out A c :=
  ⟨h.1.only ho (hR _ h.2.2.1), ho.own h.2.1 (fun k hk => by obtain ⟨y, hy, rfl⟩ := own_block hk; exact hR _ (h.2.2.2.1 y hy).1), h.2.2.1, h.2.2.2.1, fun k e => Nat.lt_of_lt_of_le (h.2.2.2.2 k e) ho.size⟩
theorem Parts.later (h : Parts w p S T N L G ct a nw cu dd sp out A c) (hb : Below w.heap.size w w') : Parts w' p S T N L G ct a nw cu dd sp out A c := h.only (only_below (fun _ => False) hb) (fun _ _ => id)
/-- The walker's own block has turned. -/
theorem Parts.turn {a' nw' cu' dd' sp' : Int} (h : Parts w p S T N L G ct a nw cu dd sp out A c) (h1 : Raw w' p T N L G ct a' nw' cu' dd' (.slice A out.length c) sp') (ho : Only (fun k => k = p) w w') : Parts w' p S T N L G ct a' nw' cu' dd' sp' out A c :=
  ⟨h1, ho.own h.2.1 (fun k hk e => by obtain ⟨y, hy, rfl⟩ := own_block hk; exact (h.2.2.2.1 y hy).2 e), h.2.2.1, h.2.2.2.1, fun k e => Nat.lt_of_lt_of_le (h.2.2.2.2 k e) ho.size⟩
theorem Walks.only {k : Nat} {s : WaM.St} {R : Nat → Prop} (h : Walks w p S T N L G ct k s) (ho : Only R w w') (hR : ∀ k, S k → ¬ R k) : Walks w' p S T N L G ct k s := by
  obtain ⟨h1, A, c, h2⟩ := h
  exact ⟨h1, A, c, h2.only ho hR⟩
theorem Walks.later {k : Nat} {s : WaM.St} (h : Walks w p S T N L G ct k s) (hb : Below w.heap.size w w') : Walks w' p S T N L G ct k s := h.only (only_below (fun _ => False) hb) (fun _ _ => id)
theorem Walks.up {k k' : Nat} {s : WaM.St} (h : Walks w p S T N L G ct k s) (hk : k ≤ k') : Walks w p S T N L G ct k' s := ⟨h.1.up hk, h.2⟩
theorem Walks.old {k : Nat} {s : WaM.St} (h : Walks w p S T N L G ct k s) : S p ∧ ∀ j, S j → j < w.heap.size := by
  obtain ⟨h1, A, c, h2⟩ := h
  exact ⟨h2.2.2.1, h2.2.2.2.2⟩
end
theorem Walk_next {w : World} {p k : Nat} {S : Nat → Prop} {T N L G ct : Int} {s : WaM.St} (h : Walks w p S T N L G ct k s) : Calls Try.prog 6 #[.pointer (some ⟨p, 0, none⟩)] w (Told w (walkA T L s)) := by
  obtain ⟨ho, A, c, h1, -⟩ := h
  obtain ⟨st, nw, cu, dd, sp, out⟩ := s
  have hc := ho.cu.1
  have hs := ho.st
  simp only at h1 hc hs
  have h2 := fun a (h : Raw w p T N L G ct a nw cu dd (.slice A out.length c) sp) => h.later (box_below w (.cells #[.int .i64 0, .int .i64 0, .int .u64 0, .int .u64 0, .int .u64 0] 31))
  rcases hs with rfl | rfl | rfl | rfl | rfl | rfl | rfl | rfl
  · rw [walkA_0]; exact next_0 (a := 0) h1
  · rw [walkA_1]; exact next_step (a := 1) h1 (by decide) (fun _ _ => by kernel_rfl) at_1 (step_1 p _)
  · rw [walkA_2]; exact next_step (a := 2) h1 (by decide) (fun _ _ => by kernel_rfl) at_2 (step_2 (h2 _ h1))
  · rw [walkA_4]; exact next_step (a := 3) h1 (by decide) (fun _ _ => by kernel_rfl) at_3 (step_3 (h2 _ h1) hc)
  · rw [walkA_5]; exact next_step (a := 4) h1 (by decide) (fun _ _ => by kernel_rfl) at_4 (step_4 (h2 _ h1) hc)
  · rw [walkA_6]; exact next_step (a := 5) h1 (by decide) (fun _ _ => by kernel_rfl) at_5 (step_5 (h2 _ h1) hc)
  · rw [walkA_7]; exact next_step (a := 6) h1 (by decide) (fun _ _ => by kernel_rfl) at_6 (step_6 (h2 _ h1) hc)
  · rw [walkA_8]; exact next_step (a := 7) h1 (by decide) (fun _ _ => by kernel_rfl) at_7 (step_7 (h2 _ h1) hc)
/-- What a walker becomes. -/
def Became (w : World) (S : Nat → Prop) (p : Nat) (T N L G ct : Int) (k : Nat) (s : WaM.St) (w' : World) : Prop := ∃ S', Walks w' p S' T N L G ct k s ∧ Only S w w' ∧ ∀ j, S' j → S j ∨ (w.heap.size ≤ j ∧ j < w'.heap.size)
theorem became_own {w : World} {p k : Nat} {S : Nat → Prop} {T N L G ct : Int} {s : WaM.St} {w' : World} {A : Option Addr} {c : Nat} {a nw cu dd sp : Int} (hok : WaM.Ok k s) (h : Parts w p S T N L G ct a nw cu dd sp s.out A c) (h1 : Raw w' p T N L G ct (atO s.st) s.nw s.cu s.dd (.slice A s.out.length c) s.sp) (ho : Only (fun k => k = p) w w') : Became w S p T N L G ct k s w' :=
  ⟨S, ⟨hok, A, c, h.turn h1 ho⟩, ho.wide fun k e => .inl (e ▸ h.2.2.1), fun j e => .inl e⟩
theorem Walk_tell {w : World} {p k : Nat} {S : Nat → Prop} {T N L G ct : Int} {s : WaM.St} {x : Int} (h : Walks w p S T N L G ct k s) (hk : k ≤ 1000000) (hx : 0 ≤ x ∧ x < 18446744073709551616) : Calls Try.prog 7 #[.pointer (some ⟨p, 0, none⟩), .int .u64 x] w fun e w' => e = .returned (.tuple #[]) ∧ Became w S p T N L G ct (k + 1) (walkT ct s x) w' := by
  obtain ⟨ho, A, c, hp⟩ := h
  have hok := walkT_ok (count := ct) ho hx
  obtain ⟨st, nw, cu, dd, sp, out⟩ := s
  have hu := ho.up (Nat.le_succ k)
  have hc := ho.cu.1
  have hs := ho.st
  have hl := ho.len
  have h7 := ho.some
  simp only at hp hc hs hl h7
  have hW : ∀ {a a' nw' cu' dd' sp' : Int} {W w' : World}, Below w.heap.size w W → Raw w' p T N L G ct a' nw' cu' dd' (.slice A out.length c) sp' ∧ Only (fun k => k = p) W w' → Raw w' p T N L G ct a' nw' cu' dd' (.slice A out.length c) sp' ∧ Only (fun k => k = p) w w' := fun hb h => ⟨h.1, (only_below _ hb).trans h.2⟩
  have h1 := hp.1
  rcases hs with rfl | rfl | rfl | rfl | rfl | rfl | rfl | rfl
  · rw [walkT_0]
    refine (tell_0 (a := 0) h1).mono ?_
    rintro e w' ⟨rfl, rfl⟩
    exact ⟨rfl, S, ⟨hu, A, c, hp⟩, Only.refl _ _, fun j e => .inl e⟩
  · rw [walkT_1] at hok ⊢
    exact tell_step (a := 1) h1 (by decide) (fun _ _ => by kernel_rfl) (fun _ _ => by kernel_rfl) at_1 (step_1 p _) fun W hb => (keepNow_any (h1.later hb)).mono fun e w' ⟨e1, e2⟩ => ⟨e1, became_own hok hp (hW (a := 0) hb e2).1 (hW (a := 0) hb e2).2⟩
  · rw [walkT_2] at hok ⊢
    by_cases q1 : ct ≤ (out.length : Int)
    · rw [arrive_done (.inl q1)] at hok ⊢
      exact tell_step (a := 2) h1 (by decide) (fun _ _ => by kernel_rfl) (fun _ _ => by kernel_rfl) at_2 (step_2 h1) fun W hb => (reach_count (V := .nilFunc) (h1.later hb) q1).mono fun e w' ⟨e1, e2⟩ => ⟨e1, became_own hok hp (hW (a := 0) hb e2).1 (hW (a := 0) hb e2).2⟩
    · by_cases q2 : idx x = 0
      · rw [arrive_done (.inr q2)] at hok ⊢
        exact tell_step (a := 2) h1 (by decide) (fun _ _ => by kernel_rfl) (fun _ _ => by kernel_rfl) at_2 (step_2 h1) fun W hb => (reach_none (V := .nilFunc) (h1.later hb) q1 hx q2).mono fun e w' ⟨e1, e2⟩ => ⟨e1, became_own hok hp (hW (a := 0) hb e2).1 (hW (a := 0) hb e2).2⟩
      · rw [arrive_more (by simp only; omega)] at hok ⊢
        exact tell_step (a := 2) h1 (by decide) (fun _ _ => by kernel_rfl) (fun _ _ => by kernel_rfl) at_2 (step_2 h1) fun W hb => (reach_more (V := .nilFunc) (h1.later hb) q1 hx q2).mono fun e w' ⟨e1, e2⟩ => ⟨e1, became_own hok hp (hW (a := 0) hb e2).1 (hW (a := 0) hb e2).2⟩
  · by_cases q : nw < wrap64 x
    · rw [walkT_4s q] at hok ⊢
      exact tell_step (a := 3) h1 (by decide) (fun _ _ => by kernel_rfl) (fun _ _ => by kernel_rfl) at_3 (step_3 h1 hc) fun W hb => (keepDead_stop (h1.later hb) q).mono fun e w' ⟨e1, e2⟩ => ⟨e1, became_own hok hp (hW (a := 0) hb e2).1 (hW (a := 0) hb e2).2⟩
    · rw [walkT_4 q] at hok ⊢
      exact tell_step (a := 3) h1 (by decide) (fun _ _ => by kernel_rfl) (fun _ _ => by kernel_rfl) at_3 (step_3 h1 hc) fun W hb => (keepDead_on (h1.later hb) q).mono fun e w' ⟨e1, e2⟩ => ⟨e1, became_own hok hp (hW (a := 0) hb e2).1 (hW (a := 0) hb e2).2⟩
  · by_cases q : x = SM.stI (genI cu) 2
    · rw [walkT_5 q] at hok ⊢
      exact tell_step (a := 4) h1 (by decide) (fun _ _ => by kernel_rfl) (fun _ _ => by kernel_rfl) at_4 (step_4 h1 hc) fun W hb => (goAfter_yes (h1.later hb) hc q).mono fun e w' ⟨e1, e2⟩ => ⟨e1, became_own hok hp (hW (a := 0) hb e2).1 (hW (a := 0) hb e2).2⟩
    · rw [walkT_5n q] at hok ⊢
      exact tell_step (a := 4) h1 (by decide) (fun _ _ => by kernel_rfl) (fun _ _ => by kernel_rfl) at_4 (step_4 h1 hc) fun W hb => (goAfter_no (h1.later hb) hc q).mono fun e w' ⟨e1, e2⟩ => ⟨e1, became_own hok hp (hW (a := 0) hb e2).1 (hW (a := 0) hb e2).2⟩
  · by_cases q : x = SM.stI (genI cu) 2
    · rw [walkT_6 q] at hok ⊢
      refine tell_step (a := 5) h1 (by decide) (fun _ _ => by kernel_rfl) (fun _ _ => by kernel_rfl) at_5 (step_5 h1 hc) fun W hb => (keepTimer_yes (hp.later hb) (by omega) hc q).mono fun e w' ⟨e1, S', A', c', e2, e3, e4⟩ => ⟨e1, S', ⟨hok, A', c', e2⟩, (only_below _ hb).trans e3, fun j z => (e4 j z).imp id fun z => ⟨Nat.le_trans hb.size z.1, z.2⟩⟩
    · rw [walkT_6n q] at hok ⊢
      exact tell_step (a := 5) h1 (by decide) (fun _ _ => by kernel_rfl) (fun _ _ => by kernel_rfl) at_5 (step_5 h1 hc) fun W hb => (keepTimer_no (h1.later hb) hc q).mono fun e w' ⟨e1, e2⟩ => ⟨e1, became_own hok hp (hW (a := 0) hb e2).1 (hW (a := 0) hb e2).2⟩
  · rw [walkT_7] at hok ⊢
    obtain ⟨l, ⟨hh, d0, z⟩, rfl⟩ : ∃ l y, out = l ++ [y] := by
      rcases List.eq_nil_or_concat out with e | ⟨l, y, e⟩
      · exact absurd e (h7 rfl)
      · exact ⟨l, y, by simpa using e⟩
    rw [fillS_snoc] at hok ⊢
    have hn : (l ++ [(hh, d0, z)]).length = l.length + 1 := by simp
    have hn2 : (l ++ [(hh, d0, x)]).length = l.length + 1 := by simp
    rw [hn] at hl
    have hrow := hp.2.1
    rw [hn] at h1 hrow
    obtain ⟨g, cap, hv, -⟩ := hrow.form (by omega)
    cases hv
    have hgp := (hp.2.2.2.1 _ rfl).2
    refine tell_step (a := 6) h1 (by decide) (fun _ _ => by kernel_rfl) (fun _ _ => by kernel_rfl) at_6 (step_6 h1 hc) fun W hb => (keepSeq_any (V := .nilFunc) (h1.later hb) (own_later hrow hb) rfl (by omega) hgp).mono fun e w' ⟨e1, e2, e3, e4⟩ => ⟨e1, S, ⟨hok, some ⟨g, 0, none⟩, c, ?_⟩, ((only_below _ hb).trans e4).wide fun k e => .inl (e.elim (fun e => e ▸ hp.2.2.1) (fun e => e ▸ (hp.2.2.2.1 _ rfl).1)), fun j e => .inl e⟩
    refine ⟨?_, ?_, hp.2.2.1, hp.2.2.2.1, fun k z => Nat.lt_of_lt_of_le (hp.2.2.2.2 k z) ((only_below (fun k => k = p ∨ k = g) hb).trans e4).size⟩
    · simp only [hn2]; exact e2
    · simp only [hn2]; exact e3
  · rw [walkT_8] at hok ⊢
    by_cases q1 : ct ≤ (out.length : Int)
    · rw [arrive_done (.inl q1)] at hok ⊢
      exact tell_step (a := 7) h1 (by decide) (fun _ _ => by kernel_rfl) (fun _ _ => by kernel_rfl) at_7 (step_7 h1 hc) fun W hb => (reach_count (V := .nilFunc) (h1.later hb) q1).mono fun e w' ⟨e1, e2⟩ => ⟨e1, became_own hok hp (hW (a := 0) hb e2).1 (hW (a := 0) hb e2).2⟩
    · by_cases q2 : idx x = 0
      · rw [arrive_done (.inr q2)] at hok ⊢
        exact tell_step (a := 7) h1 (by decide) (fun _ _ => by kernel_rfl) (fun _ _ => by kernel_rfl) at_7 (step_7 h1 hc) fun W hb => (reach_none (V := .nilFunc) (h1.later hb) q1 hx q2).mono fun e w' ⟨e1, e2⟩ => ⟨e1, became_own hok hp (hW (a := 0) hb e2).1 (hW (a := 0) hb e2).2⟩
      · rw [arrive_more (by simp only; omega)] at hok ⊢
        exact tell_step (a := 7) h1 (by decide) (fun _ _ => by kernel_rfl) (fun _ _ => by kernel_rfl) at_7 (step_7 h1 hc) fun W hb => (reach_more (V := .nilFunc) (h1.later hb) q1 hx q2).mono fun e w' ⟨e1, e2⟩ => ⟨e1, became_own hok hp (hW (a := 0) hb e2).1 (hW (a := 0) hb e2).2⟩
theorem Batch_any {w : World} {p k : Nat} {S : Nat → Prop} {T N L G ct : Int} {s : WaM.St} (h : Walks w p S T N L G ct k s) (hk : k ≤ 1000000) : Calls Try.prog 11 #[.pointer (some ⟨p, 0, none⟩)] w fun e w' => ∃ A c, e = .returned (.slice A s.out.length c) ∧ w'.ownsRow w.heap.size 62 3 (.slice A s.out.length c) s.out.length (flat encU s.out) ∧ Below w.heap.size w w' := by
  obtain ⟨ho, A, c, hp⟩ := h
  have hl := ho.len
  have HC := Lib.hid (Clone_any (n := s.out.length) (c := c) (Row.of_own hp.2.1) rfl (by omega))
  have c_9 := hp.1.cells.2.2.2.2.2.2.2.2.2.1
  generalize s.out.length = n at HC c_9 ⊢
  clear ho hp hl
  go_enter Try.func11, Try.ntmps11
  go_wp2_with fail
  refine HC.out.mono ?_
  rintro e w1 ⟨A', c', rfl, h1, h2⟩
  have HE := Lib.hid (And.intro h1 h2)
  clear h1 h2
  go_wp2
  go_ret
  exact ⟨A', c', rfl, HE.out⟩
theorem Stop_any {w : World} {p k : Nat} {S : Nat → Prop} {T N L G ct : Int} {s : WaM.St} (h : Walks w p S T N L G ct k s) : Calls Try.prog 13 #[.pointer (some ⟨p, 0, none⟩)] w fun e w' => e = .returned (.int .i64 s.sp) ∧ w = w' := by
  obtain ⟨ho, A, c, hp⟩ := h
  have c_10 := hp.1.cells.2.2.2.2.2.2.2.2.2.2
  generalize s.sp = sp at c_10 ⊢
  clear ho hp
  go_enter Try.func13, Try.ntmps13
  go_wp2
  go_ret
  exact ⟨rfl, rfl⟩
theorem Walk_any (T N L G ct : Int) (w : World) : Calls Try.prog 5 #[.agg #[.int .i64 T, .int .i64 N, .int .i64 L, .int .u64 G], .int .i64 ct] w fun e w' => ∃ p S, e = .returned (.pointer (some ⟨p, 0, none⟩)) ∧ Walks w' p S T N L G ct 0 WaM.start ∧ (∀ j, S j → w.heap.size ≤ j ∧ j < w'.heap.size) ∧ Below w.heap.size w w' := by
  obtain ⟨c_0, c_1, c_2, c_3⟩ := box4 w (.int .i64 T) (.int .i64 N) (.int .i64 L) (.int .u64 G) 24
  have HB := Lib.hid (box_below w (.cells #[.int .i64 T, .int .i64 N, .int .i64 L, .int .u64 G] 24))
  have HE := Lib.hid (new_heap (w.alloc (.cells #[.int .i64 T, .int .i64 N, .int .i64 L, .int .u64 G] 24)) (.cells #[.int .i64 T, .int .i64 N, .int .i64 L, .int .u64 G, .int .i64 ct, .int .i64 1, .int .i64 0, .int .u64 0, .int .i64 0, .slice none 0 0, .int .i64 never] 49))
  go_enter Try.func5, Try.ntmps5
  go_wp2
  go_ret
  refine ⟨w.heap.size + 1, fun k => k = w.heap.size + 1, rfl, ⟨start_ok, none, 0, ?_, World.ownsRow_nil _ _ _ _, rfl, fun b e => (by cases e), fun k e => (by have e : k = w.heap.size + 1 := e; subst e; simp)⟩, fun j e => ?_, HB.out.trans ((box_below _ _).mono HB.out.size)⟩
  · have h := HE.out
    rw [World.size_alloc] at h
    exact h
  · subst e
    simp
end Go.Proofs.Ytjeifnhfdbkkdaa.Wlk
