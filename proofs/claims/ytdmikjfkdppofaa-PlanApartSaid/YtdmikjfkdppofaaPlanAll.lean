/- Law 08's list of all words' places, as the program tells them: a new list; what lay in memory ahead stays as it was. -/
import Derived.Test.YtdmikjfkdppofaaPlanWalks
import Derived.Test.YtdmikjfkdppofaaPlanList
import Derived.Test.YtdmikjfkdppofaaInts
import Derived.Deep.RegionHeld3
import Derived.Deep.AppendLies
namespace Go.Proofs.Ytdmikjfkdppofaa.PlanAll
open Go.ChangeShapes Go.WideShapes Go.RowKit PM Lay Plan Ints

/-- The numbers of a list, as Go's. -/
def castL (l : List Nat) : List Int := l.map fun n : Nat => (n : Int)
theorem cast_length (l : List Nat) : (castL l).length = l.length := by simp [castL]
theorem cast_append (a b : List Nat) : castL (a ++ b) = castL a ++ castL b := by simp [castL]

/-- A new list of integers: its value, what it holds, and that nothing else has turned. -/
def Lists (w : World) (l : List Int) (e : Ending) (w' : World) : Prop := ∃ (A : Option Addr) (c : Nat), e = .returned (.slice A l.length c) ∧ Row w' w'.heap.size A (flat (encZ .i64) l) ∧ Below w.heap.size w w'

theorem next_flat {T L i k : Nat} (hT : T ≤ 100) (hL : L ≤ 100) (hi : i ≤ 100) (hk : k ≤ 900) : flat (encZ .i64) (castL [nextN T L i k]) = [.int .i64 (nextI T L i k)] := by
  rw [next_cast hT hL hi hk, flat_ints]
  simp [castL]
theorem ways_snoc (T L i k : Nat) : waysN T L i (k + 1) = waysN T L i k ++ [nextN T L i k] := ways_succ T L i k
theorem sum_first (T L : Nat) : sumN T L (0 + 1) = sumN T L 0 ++ waysN T L 0 L := by rw [sum_succ, slN, own_zero, List.append_nil]
theorem sum_more (T L i : Nat) : sumN T L (i + 1) = (sumN T L i ++ waysN T L i L) ++ ownN T L i := by rw [sum_succ, slN, List.append_assoc]
theorem own_flat {T L i : Nat} (hT : T ≤ 100) (hL : L ≤ 100) (hi : i ≤ 100) (h : ¬ i = 0) : flat (encZ .i64) (castL (ownN T L i)) = [.int .i64 (atI T L i 0), .int .i64 (atI T L i 1), .int .i64 (atI T L i 2), .int .i64 (atI T L i 3), .int .i64 (atI T L i 4), .int .i64 (atI T L i 5)] := by
  have e : ∀ k : Nat, k ≤ 5 → atI (T : Int) (L : Int) (i : Int) (k : Int) = (atN T L i k : Int) := fun k hk => at_cast hT hL hi (by omega) (by omega)
  have e0 := e 0 (by decide)
  have e1 := e 1 (by decide)
  have e2 := e 2 (by decide)
  have e3 := e 3 (by decide)
  have e4 := e 4 (by decide)
  have e5 := e 5 (by decide)
  change atI T L i 0 = _ at e0
  change atI T L i 1 = _ at e1
  change atI T L i 2 = _ at e2
  change atI T L i 3 = _ at e3
  change atI T L i 4 = _ at e4
  change atI T L i 5 = _ at e5
  rw [e0, e1, e2, e3, e4, e5, flat_ints, own_some T L i h]
  simp [castL]
theorem infoInt : (Try.prog.info? 3).map (fun i => (i.zero, i.size, i.bytes)) = some (some (.int .i64 0), 1, 8) := by kernel_rfl
theorem stay {w W : World} {T S L : Nat} {G : Int} (hb : Below (w.heap.size + 1) (w.alloc (.cells #[.int .i64 (T : Int), .int .i64 (S : Int), .int .i64 (L : Int), .int .u64 G] 24)) W) : W.cell? ⟨w.heap.size, 0, none⟩ = some (.int .i64 (T : Int)) ∧ W.cell? ⟨w.heap.size, 1, none⟩ = some (.int .i64 (S : Int)) ∧ W.cell? ⟨w.heap.size, 2, none⟩ = some (.int .i64 (L : Int)) ∧ W.cell? ⟨w.heap.size, 3, none⟩ = some (.int .u64 G) ∧ Below (w.heap.size + 1) (w.alloc (.cells #[.int .i64 (T : Int), .int .i64 (S : Int), .int .i64 (L : Int), .int .u64 G] 24)) W :=
  have ⟨a, b, c, d⟩ := box4_later hb
  ⟨a, b, c, d, hb⟩
theorem past_later {w W W' : World} {o : Obj} (h : Below (w.heap.size + 1) (w.alloc o) W) (hb : Below W.heap.size W W') : Below (w.heap.size + 1) (w.alloc o) W' := h.trans (hb.mono (size_past h))
theorem past_alloc {w W : World} {o o' : Obj} (h : Below (w.heap.size + 1) (w.alloc o) W) : Below (w.heap.size + 1) (w.alloc o) (W.alloc o') := h.alloc (size_past h) _
theorem past_grown {w W W' : World} {o : Obj} {r : Option Nat} (h : Below (w.heap.size + 1) (w.alloc o) W) (hg : W.grownBy W' r) (hr : ∀ k, r = some k → w.heap.size + 1 ≤ k) : Below (w.heap.size + 1) (w.alloc o) W' := h.grown hg (size_past h) hr

theorem own_made (w : World) (cs : List Value) {base n : Nat} {e : TypeId} (hb : base ≤ w.heap.size) (hn : cs.length = n) (hm : n ≤ maxLen) : (w.alloc (.cells cs.toArray e)).ownsRow base e 1 (.slice (some ⟨w.heap.size, 0, none⟩) n n) n cs :=
  ⟨by omega, .inr ⟨w.heap.size, n, cs.toArray, rfl, hb, heap_alloc_new w _, Nat.le_refl _, hm, by simpa using hn, by rw [List.take_of_length_le (by simp; omega)]⟩⟩
theorem flat_cast_one (l : List Nat) : ∀ v ∈ flat (encZ .i64) (castL l), v.oneCell' = true := flat_oneCell (encZ_one .i64) _
theorem flat_cast_append (a b : List Nat) : flat (encZ .i64) (castL a) ++ flat (encZ .i64) (castL b) = flat (encZ .i64) (castL (a ++ b)) := by rw [cast_append, flat_append]
theorem th_flat {T t : Nat} (hT : T ≤ 8) (ht : t < T) : flat (encZ .i64) (castL (thN T t)) = [.int .i64 (ofI T 0 t), .int .i64 (ofI T 1 t), .int .i64 (ofI T 2 t)] := by
  have h0 := of_cast (T := T) (n := 0) (t := t) (by omega) (by omega)
  have h1 := of_cast (T := T) (n := 1) (t := t) (by omega) (by omega)
  have h2 := of_cast (T := T) (n := 2) (t := t) (by omega) (by omega)
  rw [show ((0 : Nat) : Int) = 0 from rfl] at h0
  rw [show ((1 : Nat) : Int) = 1 from rfl] at h1
  rw [show ((2 : Nat) : Int) = 2 from rfl] at h2
  rw [h0, h1, h2, flat_ints]
  simp [castL, thN]

set_option maxHeartbeats 4000000 in
set_option maxRecDepth 100000 in
theorem all_any {T S L : Nat} {G : Int} (hT : T ≤ 8) (hS : S ≤ 64) (hL : L ≤ 8) (w : World) : Calls Try.prog 25 #[.agg #[.int .i64 (T : Int), .int .i64 (S : Int), .int .i64 (L : Int), .int .u64 G]] w (Lists w (castL (allN T S L))) := by
  obtain ⟨i0, hi, hz0, hz1, hz2⟩ := info_parts infoInt
  obtain ⟨c_0, c_1, c_2, c_3⟩ := box4 w (.int .i64 (T : Int)) (.int .i64 (S : Int)) (.int .i64 (L : Int)) (.int .u64 G) 24
  go_enter Try.func25, Try.ntmps25
  go_wp2
  have O1 := Lib.hid (own_made (w.alloc (.cells #[.int .i64 (T : Int), .int .i64 (S : Int), .int .i64 (L : Int), .int .u64 G] 24)) [.int .i64 0, .int .i64 1, .int .i64 2, .int .i64 3] (e := 3) (base := w.heap.size + 1) (by simp) rfl (by decide))
  have P1 := Lib.hid (show Below (w.heap.size + 1) (w.alloc (.cells #[.int .i64 (T : Int), .int .i64 (S : Int), .int .i64 (L : Int), .int .u64 G] 24)) ((w.alloc (.cells #[.int .i64 (T : Int), .int .i64 (S : Int), .int .i64 (L : Int), .int .u64 G] 24)).alloc (.cells #[.int .i64 0, .int .i64 1, .int .i64 2, .int .i64 3] 3)) from (Below.refl _ _).alloc (by simp) _)
  clear c_0 c_1 c_2 c_3
  go_loopw [3, 4] (fun lv tv wr => ∃ (t g cap : Nat), t ≤ T ∧ tv = .int .i64 t ∧ lv = .slice (some ⟨g, 0, none⟩) (4 + 3 * t) cap ∧ wr.ownsRow (w.heap.size + 1) 3 1 (.slice (some ⟨g, 0, none⟩) (4 + 3 * t) cap) (4 + 3 * t) (flat (encZ .i64) (castL (headN T t))) ∧ Below (w.heap.size + 1) (w.alloc (.cells #[.int .i64 (T : Int), .int .i64 (S : Int), .int .i64 (L : Int), .int .u64 G] 24)) wr)
    (fun _ tv _ => T - (intOf tv).toNat)
  case atStart => exact ⟨0, w.heap.size + 1, 4, Nat.zero_le _, rfl, rfl, by have := O1.out; simpa [head_zero, castL, flat_ints] using this, P1.out⟩
  case round =>
    obtain ⟨t, g, cap, ht, rfl, rfl, ho, hp⟩ := hrel
    have HO := Lib.hid (own_later ho (Below.refl _ _).drew)
    have HP := Lib.hid hp
    by_cases hlt : t < T
    · have HF := Lib.hid (th_flat (T := T) hT hlt)
      have HH := Lib.hid (head_succ T t)
      have HZ := Lib.hid (size_past hp)
      obtain ⟨c_0, c_1, c_2, c_3⟩ := box4_later hp
      clear ho hp O1 P1
      go_wp2
      go_region_held3 (fun W => W.cell? ⟨w.heap.size, 0, none⟩ = some (.int .i64 (T : Int)) ∧ W.cell? ⟨w.heap.size, 1, none⟩ = some (.int .i64 (S : Int)) ∧ W.cell? ⟨w.heap.size, 2, none⟩ = some (.int .i64 (L : Int)) ∧ W.cell? ⟨w.heap.size, 3, none⟩ = some (.int .u64 G) ∧ Below (w.heap.size + 1) (w.alloc (.cells #[.int .i64 (T : Int), .int .i64 (S : Int), .int .i64 (L : Int), .int .u64 G] 24)) W)
        ((first | (with_reducible exact stay HP.out.drew) | (with_reducible exact stay HP3.out) | (with_reducible exact stay (past_alloc HP3.out))))
        (first
          | (go_at_call 9; refine (Plan.Pin_any T S L G t _).mono ?_; rintro e w3 ⟨rfl, hb⟩; have HP3 := Lib.hid (past_later HP.out.drew hb); have HO3 := Lib.hid (own_later HO.out hb); clear hb)
          | (go_at_call 11; refine (Plan.Sleep_any T S L G t _).mono ?_; rintro e w4 ⟨rfl, hb⟩; have HP3 := Lib.hid (past_later HP3.out hb); have HO3 := Lib.hid (own_later HO3.out hb); clear hb)
          | (go_at_call 13; refine (Plan.Sem_any T S L G t _).mono ?_; rintro e w5 ⟨rfl, hb⟩; have HP3 := Lib.hid (past_later HP3.out hb); have HO3 := Lib.hid (own_later HO3.out hb); clear hb)
          | (refine step_append_lies _ rfl (.tmp 14) (.tmp 24) 34 rfl (w.heap.size + 1) 3 i0 _ 1 8 Try.underlying34 hi hz0 hz1 hz2 rfl (by decide) _ (4 + 3 * t) _ rfl (HO3.out.alloc _) ⟨w5.heap.size, 0, none⟩ 3 3 (flat (encZ .i64) (castL (thN T t))) rfl (by rw [HF.out]; rfl) (by rw [HF.out]; exact cells_new _ _ _) (flat_cast_one _) (by decide) (by simp only [maxLen]; omega) (by omega) (by have := size_past HP3.out; simp; omega) _ rfl ?_
             intro g2 cap2 w6 ho2 hg2 hgo hlt2
             have HP3 := Lib.hid (past_grown (past_alloc HP3.out) hg2 (fun k hk => by cases hk; exact ((HO3.out.lt _ rfl).1)))
             have HO6 := Lib.hid ho2
             clear ho2 hg2))
      go_wp2
      go_roundw
      case rel => exact ⟨t + 1, g2, cap2, by omega, by go_num, rfl, by have h6 := HO6.out; rw [flat_cast_append, ← HH.out] at h6; exact h6, HP3.out⟩
      case measure => simp [intOf]; omega
    · obtain rfl : T = t := by omega
      have HO2 := Lib.hid ho
      obtain ⟨c_0, c_1, c_2, c_3⟩ := box4_later hp
      clear HO ho hp O1 P1
      go_wp2
      clear c_0 c_1 c_2 c_3
      go_loopw [3, 5] (fun lv iv wr => ∃ (i g cap n : Nat), i ≤ S + 1 ∧ n ≤ 28 + 14 * i ∧ iv = .int .i64 i ∧ lv = .slice (some ⟨g, 0, none⟩) n cap ∧ wr.ownsRow (w.heap.size + 1) 3 1 (.slice (some ⟨g, 0, none⟩) n cap) n (flat (encZ .i64) (castL (sumN T L i))) ∧ Below (w.heap.size + 1) (w.alloc (.cells #[.int .i64 (T : Int), .int .i64 (S : Int), .int .i64 (L : Int), .int .u64 G] 24)) wr)
        (fun _ iv _ => S + 1 - (intOf iv).toNat)
      case atStart => exact ⟨0, g, cap, 4 + 3 * T, Nat.zero_le _, by omega, rfl, rfl, by rw [sum_zero]; exact HO2.out, HP.out⟩
      case round =>
        obtain ⟨i, g, cap, n, hi', hn, rfl, rfl, ho, hp⟩ := hrel
        have HO := Lib.hid ho
        have HP := Lib.hid hp
        obtain ⟨c_0, c_1, c_2, c_3⟩ := box4_later hp
        clear HO2 ho hp
        by_cases hlt : i ≤ S
        · go_wp2
          clear c_0 c_1 c_2 c_3
          go_loopw [3, 6] (fun lv kv wr => ∃ (k g cap n : Nat), k ≤ L ∧ n ≤ 28 + 14 * i + k ∧ kv = .int .i64 k ∧ lv = .slice (some ⟨g, 0, none⟩) n cap ∧ wr.ownsRow (w.heap.size + 1) 3 1 (.slice (some ⟨g, 0, none⟩) n cap) n (flat (encZ .i64) (castL (sumN T L i ++ waysN T L i k))) ∧ Below (w.heap.size + 1) (w.alloc (.cells #[.int .i64 (T : Int), .int .i64 (S : Int), .int .i64 (L : Int), .int .u64 G] 24)) wr)
            (fun _ kv _ => L - (intOf kv).toNat)
          case atStart => exact ⟨0, g, cap, n, Nat.zero_le _, by omega, rfl, rfl, by rw [ways_zero, List.append_nil]; exact HO.out, HP.out⟩
          case round =>
            clear HO HP hn
            obtain ⟨k, g, cap, n, hk', hn, rfl, rfl, ho, hp⟩ := hrel
            have HO := Lib.hid ho
            have HP := Lib.hid hp
            obtain ⟨c_0, c_1, c_2, c_3⟩ := box4_later hp
            clear ho hp
            by_cases hlk : k < L
            · have HF := Lib.hid (next_flat (T := T) (L := L) (i := i) (k := k) (by omega) (by omega) (by omega) (by omega))
              have HH := Lib.hid (ways_snoc T L i k)
              go_wp2_with fail
              refine (Plan.Next_any T S L G i k _).mono ?_
              rintro e w' ⟨rfl, hb⟩
              have HP3 := Lib.hid (past_later HP.out hb)
              have HO3 := Lib.hid (own_later HO.out hb)
              clear hb c_0 c_1 c_2 c_3
              go_wp2_with (at_builtin; refine wpList_append_to _ (w.alloc (.cells #[.int .i64 (T : Int), .int .i64 (S : Int), .int .i64 (L : Int), .int .u64 G] 24)) rfl (.tmp 38) (.tmp 43) 34 rfl (w.heap.size + 1) 3 i0 _ 1 8 Try.underlying34 hi hz0 hz1 hz2 rfl (by decide) _ n _ rfl (HO3.out.alloc _) ⟨w'.heap.size, 0, none⟩ 1 1 (flat (encZ .i64) (castL [nextN T L i k])) rfl (by decide) (by rw [HF.out]; rfl) (by rw [HF.out]; exact cells_new _ _ _) (flat_cast_one _) (by simp only [maxLen]; omega) (by omega) (by have := size_past HP3.out; simp; omega) (past_alloc HP3.out) ?_; intro g2 cap2 w6 ho2 hg2 hlt2 hb2)
              have HO6 := Lib.hid ho2
              have HP6 := Lib.hid hb2
              clear ho2 hb2
              go_roundw
              case rel => exact ⟨k + 1, g2, cap2, n + 1, by omega, by omega, by go_num, rfl, by have h6 := HO6.out; rw [flat_cast_append, List.append_assoc, ← HH.out] at h6; exact h6, HP6.out⟩
              case measure => simp [intOf]; omega
            · obtain rfl : L = k := by omega
              by_cases hz : i = 0
              · subst hz
                have HH := Lib.hid (sum_first T L)
                go_wp2
                go_roundw
                case rel => exact ⟨0 + 1, g, cap, n, by omega, by omega, rfl, rfl, by rw [HH.out]; exact HO.out, HP.out⟩
                case measure => simp [intOf] <;> omega
              · have HF := Lib.hid (own_flat (T := T) (L := L) (i := i) (by omega) (by omega) (by omega) hz)
                have HH := Lib.hid (sum_more T L i)
                have HZ := Lib.hid hz
                have hi1 : 0 < i := by omega
                have HO0 := Lib.hid (own_later HO.out (Below.refl _ _).drew)
                clear hz
                go_wp2
                go_region_held3 (fun W => W.cell? ⟨w.heap.size, 0, none⟩ = some (.int .i64 (T : Int)) ∧ W.cell? ⟨w.heap.size, 1, none⟩ = some (.int .i64 (S : Int)) ∧ W.cell? ⟨w.heap.size, 2, none⟩ = some (.int .i64 (L : Int)) ∧ W.cell? ⟨w.heap.size, 3, none⟩ = some (.int .u64 G) ∧ Below (w.heap.size + 1) (w.alloc (.cells #[.int .i64 (T : Int), .int .i64 (S : Int), .int .i64 (L : Int), .int .u64 G] 24)) W)
                  ((first | (with_reducible exact stay HP.out.drew) | (with_reducible exact stay HP3.out) | (with_reducible exact stay (past_alloc HP3.out))))
                  (first
                    | (go_at_call 17; refine (Plan.State_any T S L G i _).mono ?_; rintro e w3 ⟨rfl, hb⟩; have HP3 := Lib.hid (past_later HP.out.drew hb); have HO3 := Lib.hid (own_later HO0.out hb); clear hb)
                    | (go_at_call 18; refine (Plan.Dead_any T S L G i _).mono ?_; rintro e w3 ⟨rfl, hb⟩; have HP3 := Lib.hid (past_later HP3.out hb); have HO3 := Lib.hid (own_later HO3.out hb); clear hb)
                    | (go_at_call 19; refine (Plan.Seq_any T S L G i _).mono ?_; rintro e w3 ⟨rfl, hb⟩; have HP3 := Lib.hid (past_later HP3.out hb); have HO3 := Lib.hid (own_later HO3.out hb); clear hb)
                    | (go_at_call 20; refine (Plan.Tall_any T S L G i _).mono ?_; rintro e w3 ⟨rfl, hb⟩; have HP3 := Lib.hid (past_later HP3.out hb); have HO3 := Lib.hid (own_later HO3.out hb); clear hb)
                    | (go_at_call 21; refine (Plan.Hold_any T S L G i _).mono ?_; rintro e w3 ⟨rfl, hb⟩; have HP3 := Lib.hid (past_later HP3.out hb); have HO3 := Lib.hid (own_later HO3.out hb); clear hb)
                    | (go_at_call 22; refine (Plan.Succ_any T S L G i _).mono ?_; rintro e w3 ⟨rfl, hb⟩; have HP3 := Lib.hid (past_later HP3.out hb); have HO3 := Lib.hid (own_later HO3.out hb); clear hb)
                    | (refine step_append_lies _ rfl (.tmp 47) (.tmp 66) 34 rfl (w.heap.size + 1) 3 i0 _ 1 8 Try.underlying34 hi hz0 hz1 hz2 rfl (by decide) _ n _ rfl (HO3.out.alloc _) ⟨w3.heap.size, 0, none⟩ 6 6 (flat (encZ .i64) (castL (ownN T L i))) rfl (by rw [HF.out]; rfl) (by rw [HF.out]; exact cells_new _ _ _) (flat_cast_one _) (by decide) (by simp only [maxLen]; omega) (by omega) (by have := size_past HP3.out; simp; omega) _ rfl ?_
                       intro g2 cap2 w6 ho2 hg2 hgo hlt2
                       have HP3 := Lib.hid (past_grown (past_alloc HP3.out) hg2 (fun k hk => by cases hk; exact ((HO3.out.lt _ rfl).1)))
                       have HO6 := Lib.hid ho2
                       clear ho2 hg2))
                go_wp2
                go_roundw
                case rel => exact ⟨i + 1, g2, cap2, n + 6, by omega, by omega, by go_num, rfl, by have h6 := HO6.out; rw [flat_cast_append, ← HH.out] at h6; exact h6, HP3.out⟩
                case measure => simp [intOf]; omega
        · obtain rfl : i = S + 1 := by omega
          go_wp2
          go_ret
          have hr := Row.of_own HO.out
          have hl := HO.out.1
          rw [flat_ints_length] at hl
          exact ⟨some ⟨g, 0, none⟩, cap, by rw [show (castL (allN T S L)).length = n by unfold allN; omega]; rfl, hr, below_past HP.out⟩
end Go.Proofs.Ytdmikjfkdppofaa.PlanAll
