/- TaskFlows: for all lists of deeds a and b, and every list of words, a flow of both asks for the deeds of a, then for those of b, one for each word that it is told, and then for no more; and given a script of b anew it asks for b's first deed, if there is one (of more than 200 deeds, or 500 words, just the chapter's example is asked); the arguments read as they did. No condition. -/
import Derived.Test.YthlamnghbdaaiaaTaskAwake
import Derived.Test.YthlamnghbdaaiaaTaskFlTell
import Derived.Test.YthlamnghbdaaiaaTaskRef
import Derived.Test.YthlamnghbdaaiaaFrame
import Derived.Deep.RegionHeld3
namespace Go.Proofs.Ythlamnghbdaaiaa.TaskFlows
open Go.ChangeShapes Go.WideShapes Go.ChangeAt Go.RowKit CM DM Lay Ints Cells Go.Proofs.Ythlamnghbdaaiaa.Task
set_option linter.unusedVariables false

/-- The law's flow, and its own list of what that has asked for. -/
structure St (w : World) (f : Nat) (a b : List D) (k : Nat) (F : Option Addr) (n fc : Nat) (l : List D) (R : Nat → Prop) (wr : World) : Prop where
  fl : Fl w wr f a b k R
  own : wr.ownsRow w.heap.size 29 5 (.slice F n fc) n (flat encD l)
  far : ∀ x, F = some x → ¬ R x.block
theorem own_block {F : Option Addr} {a fc k : Nat} (h : (Value.slice F a fc).ownBlock = some k) : ∃ x, F = some x ∧ x.block = k := by
  cases F with
  | none => cases h
  | some x => exact ⟨x, rfl, by simpa [Value.ownBlock] using h⟩
theorem own_cap {w : World} {base : Nat} {e : TypeId} {size n c : Nat} {A : Option Addr} {xs : List Value} (h : w.ownsRow base e size (.slice A n c) n xs) : n ≤ c := by
  obtain ⟨_, _, hv, hc⟩ := slice_of_own h
  cases hv
  exact hc
theorem St.turned {w wr w' : World} {f k k' n fc : Nat} {a b : List D} {F : Option Addr} {l : List D} {R R' : Nat → Prop} (h : St w f a b k F n fc l R wr) (hf : Fl w w' f a b k' R') (ho : Only R wr w') (hR : ∀ i, R' i → R i ∨ wr.heap.size ≤ i) : St w f a b k' F n fc l R' w' := by
  refine ⟨hf, ho.own h.own (fun i hi => ?_), fun x hx e => ?_⟩
  · obtain ⟨x, hx, rfl⟩ := own_block hi
    exact h.far x hx
  · have hlt := (h.own.lt x.block (by subst hx; rfl)).2
    exact (hR _ e).elim (h.far x hx) (fun h => by omega)
theorem St.later {w wr w' : World} {f k n fc : Nat} {a b : List D} {F : Option Addr} {l : List D} {R : Nat → Prop} (h : St w f a b k F n fc l R wr) (hb : Below wr.heap.size wr w') : St w f a b k F n fc l R w' := h.turned (h.fl.later hb) (only_below R hb) (fun _ => .inl)
theorem St.box {w wr : World} {f k n fc : Nat} {a b : List D} {F : Option Addr} {l : List D} {R : Nat → Prop} (h : St w f a b k F n fc l R wr) (o : Obj) : St w f a b k F n fc l R (wr.alloc o) := h.later ((Below.refl _ _).alloc (Nat.le_refl _) _)
theorem St.append {w W0 w3 : World} {f k n fc g2 cap : Nat} {a b : List D} {F : Option Addr} {l : List D} {R : Nat → Prop} {x : D} (h : St w f a b k F n fc l R W0)
    (ho : w3.ownsRow w.heap.size 29 5 (.slice (some ⟨g2, 0, none⟩) (n + 1) cap) (n + 1) (flat encD l ++ encD x)) (hor : (Value.slice F n fc).ownBlock = some g2 ∨ g2 = W0.heap.size) (hon : Only (fun k => (Value.slice F n fc).ownBlock = some k) W0 w3) :
    St w f a b k (some ⟨g2, 0, none⟩) (n + 1) cap (l ++ [x]) R w3 := by
  have hR : ∀ i, (Value.slice F n fc).ownBlock = some i → w.heap.size ≤ i ∧ ¬ R i := fun i hi => by
    refine ⟨(h.own.lt i hi).1, ?_⟩
    obtain ⟨y, hy, rfl⟩ := own_block hi
    exact h.far y hy
  refine ⟨h.fl.kept hon (fun i e e2 => (hR i e2).2 e) (fun i e => (hR i e).1), ?_, fun y hy => ?_⟩
  · rw [flat_append, flat_one]
    exact ho
  · cases hy
    rcases hor with e | e
    · exact (hR _ e).2
    · intro e2
      have := (h.fl.bound _ e2).2
      simp only at this
      omega

theorem flat_takeD (xs : List D) : ∀ j : Nat, flat encD (xs.take j) = (flat encD xs).take (j * 5) := by
  induction xs with
  | nil => intro j; simp [flat_nil]
  | cons x xs ih =>
    intro j
    cases j with
    | zero => simp [flat_nil]
    | succ j =>
      rw [List.take_succ_cons, flat_cons, flat_cons, ih j, List.take_append, encD_length, List.take_of_length_le (l := encD x) (by rw [encD_length]; omega), show (j + 1) * 5 - 5 = j * 5 by omega]
theorem row_takeD {w : World} {B j : Nat} {A : Option Addr} {xs : List D} (h : Row w B A (flat encD xs)) : Row w B A (flat encD (xs.take j)) := fun hn => by
  rw [flat_takeD] at hn
  have hne : flat encD xs ≠ [] := fun e => hn (by rw [e]; simp)
  obtain ⟨b, o, e, hb, hc⟩ := h hne
  refine ⟨b, o, e, hb, fun i v hv => hc i v ?_⟩
  rw [flat_takeD, List.getElem?_take] at hv
  split at hv
  · exact hv
  · cases hv
theorem own_made1 (w : World) (o : Obj) (t : TypeId) : ((w.alloc o).alloc (.cells #[] t)).ownsRow (w.heap.size + 1) t 5 (.slice (some ⟨w.heap.size + 1, 0, none⟩) 0 0) 0 [] := by
  have h := World.ownsRow_made (base := w.heap.size + 1) (e := t) (size := 5) (w.alloc o) #[] 0 (by simp) (by simp [maxLen]) (by simp)
  rwa [World.size_alloc] at h
theorem above_new {n : Nat} (w : World) (o : Obj) (h : n ≤ w.heap.size := by simp) : Below n w (w.alloc o) := (Below.refl _ _).alloc h _
set_option maxRecDepth 100000 in
set_option maxHeartbeats 2000000 in
theorem walk (A : Option Addr) (a : List D) (ca : Nat) (B : Option Addr) (b : List D) (cb : Nat) (C : Option Addr) (xs : List Int) (cx : Nat) (w : World)
    (hR : Row w w.heap.size A (flat encD a)) (_ : a.length ≤ ca) (hl : a.length ≤ maxLen) (_ : ∀ x ∈ a, (Lit.int .i64 x.1).wf = true ∧ (Lit.int .i64 x.2.1).wf = true ∧ (Lit.int .u64 x.2.2.1).wf = true ∧ (Lit.int .u64 x.2.2.2.1).wf = true ∧ (Lit.int .u64 x.2.2.2.2).wf = true)
    (hS : Row w w.heap.size B (flat encD b)) (_ : b.length ≤ cb) (hs : b.length ≤ maxLen) (_ : ∀ x ∈ b, (Lit.int .i64 x.1).wf = true ∧ (Lit.int .i64 x.2.1).wf = true ∧ (Lit.int .u64 x.2.2.1).wf = true ∧ (Lit.int .u64 x.2.2.2.1).wf = true ∧ (Lit.int .u64 x.2.2.2.2).wf = true)
    (hX : Row w w.heap.size C (flat (encZ .u64) xs)) (_ : xs.length ≤ cx) (hm : xs.length ≤ maxLen) (_ : ∀ x ∈ xs, (Lit.int .u64 x).wf = true) :
    Calls Try.prog 4 #[.slice A a.length ca, .slice B b.length cb, .slice C xs.length cx] w fun e w' => e = .returned (.bool true) ∧ Below w.heap.size w w' := by
  obtain ⟨n1, hn1⟩ : ∃ n, n = a.length := ⟨_, rfl⟩
  obtain ⟨n2, hn2⟩ : ∃ n, n = b.length := ⟨_, rfl⟩
  obtain ⟨m, hm1⟩ : ∃ n, n = xs.length := ⟨_, rfl⟩
  unfold maxLen at hl hs hm
  rw [← hn1] at hl ⊢
  rw [← hn2] at hs ⊢
  rw [← hm1] at hm ⊢
  have H1 := Lib.hid hn1
  have H2 := Lib.hid hn2
  have H3 := Lib.hid hm1
  have HR := Lib.hid hR
  have HS := Lib.hid hS
  have HX := Lib.hid hX
  clear hn1 hn2 hm1 hR hS hX
  by_cases big1 : 200 < n1
  · go_enter Try.func4, Try.ntmps4
    go_wp2_with fail
    refine (Law11.awake_any _).mono ?_
    rintro e w' ⟨rfl, hb⟩
    go_wp2
    go_ret
    exact ⟨rfl, hb⟩
  by_cases big2 : 200 < n2
  · go_enter Try.func4, Try.ntmps4
    go_wp2_with fail
    refine (Law11.awake_any _).mono ?_
    rintro e w' ⟨rfl, hb⟩
    go_wp2
    go_ret
    exact ⟨rfl, hb⟩
  by_cases big3 : 500 < m
  · go_enter Try.func4, Try.ntmps4
    go_wp2_with fail
    refine (Law11.awake_any _).mono ?_
    rintro e w' ⟨rfl, hb⟩
    go_wp2
    go_ret
    exact ⟨rfl, hb⟩
  obtain ⟨N, hN⟩ : ∃ N, N = n1 + n2 := ⟨_, rfl⟩
  have HN := Lib.hid hN
  have hN4 : N ≤ 400 := by omega
  have hN1 : n1 ≤ N := by omega
  clear hN
  obtain ⟨i0, hi, hz0, hz1, hz2⟩ := info_parts info_deeds
  go_enter Try.func4, Try.ntmps4
  go_wp2_with fail
  refine (Behind_any HR.out H1.out HS.out H2.out (by omega) (by omega)).mono ?_
  rintro e w1 ⟨f, rfl, hfl⟩
  have S1 := Lib.hid (St.mk (F := none) (n := 0) (fc := 0) (l := []) hfl (World.ownsRow_nil _ _ _ _) (fun x e => by cases e))
  clear hfl
  go_wp2
  go_loopw [8, 9] (fun v i wr => ∃ (k fc : Nat) (F : Option Addr) (R : Nat → Prop), k ≤ m ∧ k ≤ N ∧ i = .int .i64 k ∧ v = .slice F k fc ∧ St w f a b k F k fc ((a ++ b).take k) R wr) (fun _ i _ => m - (intOf i).toNat)
  case atStart => exact ⟨0, 0, none, _, Nat.zero_le _, Nat.zero_le _, rfl, rfl, S1.out⟩
  case round =>
    obtain ⟨k, fc, F, R, hk, hkn, rfl, rfl, hst⟩ := hrel
    have HA := Lib.hid hst
    clear hst
    have HNL := Lib.hid (show (a ++ b).length = N by rw [List.length_append, HN.out, H1.out, H2.out])
    by_cases hlt : k < m
    · obtain ⟨v, hv⟩ : ∃ v, xs[k]? = some v := ⟨_, List.getElem?_eq_getElem (by rw [← H3.out]; exact hlt)⟩
      by_cases hkn2 : k < N
      · obtain ⟨x, hx⟩ : ∃ x, (a ++ b)[k]? = some x := ⟨_, List.getElem?_eq_getElem (by rw [HNL.out]; exact hkn2)⟩
        have HV := Lib.hid hv
        have HXX := Lib.hid hx
        obtain ⟨bl, o, rfl, hbl, hc⟩ := int_at HX.out (by rw [← H3.out]; exact hlt)
        have HC0 := Lib.hid (hc k v hv)
        clear hv hx hc
        go_wp2_with fail
        refine (Fl_next HA.out.fl HXX.out).mono ?_
        rintro e w2 ⟨rfl, hf2, ho2⟩
        have HA2 := Lib.hid ((HA.out.turned hf2 ho2 (fun _ => .inl)).box (.cells #[.int .i64 x.1, .int .i64 x.2.1, .int .u64 x.2.2.1, .int .u64 x.2.2.2.1, .int .u64 x.2.2.2.2] 29))
        have HA3 := Lib.hid (HA2.out.box (.cells #[.int .i64 x.1, .int .i64 x.2.1, .int .u64 x.2.2.1, .int .u64 x.2.2.2.1, .int .u64 x.2.2.2.2] 29))
        clear hf2 ho2
        go_wp2_with (at_builtin; refine wpList_append_only _ rfl (.tmp 46) (.tmp 48) 22 rfl w.heap.size 29 i0 _ 5 40 Try.underlying22 hi hz0 hz1 hz2 rfl (by decide) _ k _ rfl HA3.out.own ⟨w2.heap.size + 1, 0, none⟩ 1 1 (encD x) rfl (by decide) rfl (cells_new1 _ _ _ _) (encD_one _) (by simp only [maxLen]; omega) (by omega) (by have := HA3.out.fl.below.size; omega) ?_; intro g2 cap w4 ho4 hg4 hlt4 hor4 hon4; have HA4 := Lib.hid (HA3.out.append ho4 hor4 hon4); have e0 := cell_later HA4.out.fl.below HC0.out; clear ho4 hor4 hon4)
        refine (Fl_tell HA4.out.fl (by rw [← H1.out, ← H2.out, ← HN.out]; exact hkn2) v).mono ?_
        rintro e w5 ⟨rfl, hf5, ho5⟩
        have HA5 := Lib.hid (HA4.out.turned hf5 ho5 (fun _ e => e.imp id (·.1)))
        clear hf5 ho5
        go_wp2
        go_roundw
        case rel => exact ⟨k + 1, cap, some ⟨g2, 0, none⟩, _, by omega, by omega, by go_num, rfl, by have h := HA5.out; rw [show (a ++ b).take k ++ [x] = (a ++ b).take (k + 1) by rw [List.take_add_one, HXX.out]; rfl] at h; exact h⟩
        case measure => simp [intOf]; omega
      · -- FINAL
        obtain rfl : k = N := by omega
        have HNL := Lib.hid (show (a ++ b).length = k by rw [List.length_append, HN.out, H1.out, H2.out])
        have HLA := Lib.hid (show (flat encD a).length = n1 * 5 by rw [flat_length encD_length, H1.out])
        have HLB := Lib.hid (show (flat encD b).length = n2 * 5 by rw [flat_length encD_length, H2.out])
        obtain ⟨l, hl'⟩ : ∃ l, l = (a ++ b).take k := ⟨_, rfl⟩
        have HLT := Lib.hid hl'
        have HLL := Lib.hid (show k = l.length by rw [hl', List.length_take, HNL.out]; omega)
        rw [← hl'] at HA
        clear hl'
        go_wp2_with fail
        refine (Fl_end HA.out.fl (by rw [← H1.out, ← H2.out, HN.out])).mono ?_
        rintro e w2 ⟨rfl, hf2, ho2⟩
        have HA2 := Lib.hid ((HA.out.turned hf2 ho2 (fun _ => .inl)).box (.cells #[.int .i64 0, .int .i64 0, .int .u64 0, .int .u64 0, .int .u64 0] 29))
        clear hf2 ho2
        
        go_wp2_with (at_builtin; first | (refine wpList_append_row _ (w2.alloc (.cells #[.int .i64 0, .int .i64 0, .int .u64 0, .int .u64 0, .int .u64 0] 29)) rfl (.tmp 56) (.tmp 57) 22 rfl (w2.heap.size + 1) 29 i0 _ 5 40 Try.underlying22 hi hz0 hz1 hz2 rfl (by decide) _ 0 [] rfl (own_made1 _ _ _) A n1 ca w.heap.size (flat encD a) rfl HLA.out (HR.out.below (HA2.out.fl.below.alloc HA2.out.fl.below.size _)) (flat_oneCell encD_one a) (by simp only [maxLen]; omega) (by omega) (by simp) (above_new _ _) ?_; intro A1 c1 w3 hown1 hb3; rw [Nat.zero_add, List.nil_append] at hown1; rw [Nat.zero_add]; have HO1 := Lib.hid hown1; have HB3 := Lib.hid hb3; clear hown1 hb3) | (refine wpList_append_row _ (w2.alloc (.cells #[.int .i64 0, .int .i64 0, .int .u64 0, .int .u64 0, .int .u64 0] 29)) rfl (.tmp 58) (.tmp 59) 22 rfl (w2.heap.size + 1) 29 i0 _ 5 40 Try.underlying22 hi hz0 hz1 hz2 rfl (by decide) _ n1 _ rfl HO1.out B n2 cb w.heap.size (flat encD b) rfl HLB.out (HS.out.below (HA2.out.fl.below.trans (HB3.out.mono (by have := HA2.out.fl.below.size; first | omega | (simp at this ⊢; omega))))) (flat_oneCell encD_one b) (by simp only [maxLen]; omega) (by omega) (by have := HB3.out.size; first | omega | (simp at this ⊢; omega)) HB3.out ?_; intro A2 c2 w4 hown2 hb4; rw [← HN.out] at hown2 ⊢; have HO2 := Lib.hid hown2; have HB4 := Lib.hid hb4; have hc2 := own_cap hown2; clear hown2 hb4))
        have HA4 := Lib.hid (HA2.out.later (show Below (w2.alloc (.cells #[.int .i64 0, .int .i64 0, .int .u64 0, .int .u64 0, .int .u64 0] 29)).heap.size (w2.alloc (.cells #[.int .i64 0, .int .i64 0, .int .u64 0, .int .u64 0, .int .u64 0] 29)) w4 by have h := HB4.out; simpa using h))
        have HWF := Lib.hid (show ∀ i, (Value.slice A2 k c2).ownBlock = some i → ¬ R i from fun i hi e => by have h1 := (HO2.out.lt i hi).1; have h2 := (HA2.out.fl.bound i e).2; first | omega | (simp at h1 h2; omega))
        refine (Fl_end HA4.out.fl (by rw [← H1.out, ← H2.out, HN.out])).mono ?_
        rintro e w5 ⟨rfl, hf5, ho5⟩
        have HA5 := Lib.hid ((HA4.out.turned hf5 ho5 (fun _ => .inl)).box (.cells #[.int .i64 0, .int .i64 0, .int .u64 0, .int .u64 0, .int .u64 0] 29))
        have HW5 := Lib.hid ((ho5.own HO2.out HWF.out).alloc (.cells #[.int .i64 0, .int .i64 0, .int .u64 0, .int .u64 0, .int .u64 0] 29))
        clear hf5 ho5
        have hm1 : ¬ (m : Int) < (k : Int) := by omega
        have hm2 : decide ((m : Int) < (k : Int)) = false := by simp; omega
        go_wp2_with fail
        refine (TaskRef.Same_yes (l := l) HLL.out HLL.out (Row.of_own HA5.out.own) (by rw [HLT.out, List.take_of_length_le (Nat.le_of_eq HNL.out)]; exact Row.of_own (by rw [flat_append]; exact HW5.out)) (by omega)).mono ?_
        rintro e w6 ⟨rfl, hb6⟩
        have HA6 := Lib.hid (HA5.out.later hb6)
        clear hb6
        go_wp2_with fail
        refine (Law11.awake_any _).mono ?_
        rintro e w7 ⟨rfl, hb7⟩
        have HA7 := Lib.hid (HA6.out.later hb7)
        clear hb7
        go_wp2_with fail
        refine (NewScript_any (HS.out.later HA7.out.fl.below) H2.out (by omega)).mono ?_
        rintro e w8 ⟨p, q, rfl, hs8, hp8, hq8, hb8⟩
        have HA8 := Lib.hid (HA7.out.later hb8)
        have HS8 := Lib.hid hs8
        have HPQ := Lib.hid (show f ≠ p ∧ f ≠ q by have := (HA7.out.fl.bound f HA7.out.fl.base).2; omega)
        clear hs8 hp8 hq8 hb8
        go_wp2_with fail
        refine (Fl_to HA8.out.fl HS8.out HPQ.out).mono ?_
        rintro e w9 ⟨rfl, hb9, hst⟩
        have HB9 := Lib.hid hb9
        clear hb9
        rcases hst with ⟨h0, pb, p', q', g', hlo, hpb⟩ | ⟨h0, hfn⟩
        · have hpos : 0 < n2 := by have := H2.out; omega
          have hpos' : (0 : Int) < (n2 : Int) := by omega
          have hposd : decide ((0 : Int) < (n2 : Int)) = true := by simpa using hpos'
          obtain ⟨y, hy⟩ : ∃ y, b[0]? = some y := ⟨_, List.getElem?_eq_getElem h0⟩
          obtain ⟨bl, o, rfl, hbl, hc⟩ := Open.five_at HS.out h0
          obtain ⟨d_0, d_1, d_2, d_3, d_4⟩ := hc 0 y hy
          simp only [Nat.zero_mul, Nat.add_zero] at d_0 d_1 d_2 d_3 d_4
          have HLO := Lib.hid hlo
          have HY := Lib.hid hy
          have HD_0 := Lib.hid d_0
          have HD_1 := Lib.hid d_1
          have HD_2 := Lib.hid d_2
          have HD_3 := Lib.hid d_3
          have HD_4 := Lib.hid d_4
          clear h0 hc hlo hy d_0 d_1 d_2 d_3 d_4
          go_wp2_with fail
          refine (FNext_more HLO.out.flow HLO.out.part HLO.out.scr HY.out HLO.out.apart.2.1 HLO.out.apart.1).mono ?_
          rintro e w10 ⟨rfl, ho10, hp10⟩
          have hb10 : Below w.heap.size w w10 := HB9.out.trans (ho10.below HB9.out.size (fun i e => e ▸ hpb))
          have hb11 := hb10.alloc hb10.size (.cells #[.int .i64 y.1, .int .i64 y.2.1, .int .u64 y.2.2.1, .int .u64 y.2.2.2.1, .int .u64 y.2.2.2.2] 29)
          have HB11 := Lib.hid hb11
          have CD_0 := fun z : After (w10.alloc (.cells #[.int .i64 y.1, .int .i64 y.2.1, .int .u64 y.2.2.1, .int .u64 y.2.2.2.1, .int .u64 y.2.2.2.2] 29)) => z.cell (cell_later hb11 HD_0.out)
          have CD_1 := fun z : After (w10.alloc (.cells #[.int .i64 y.1, .int .i64 y.2.1, .int .u64 y.2.2.1, .int .u64 y.2.2.2.1, .int .u64 y.2.2.2.2] 29)) => z.cell (cell_later hb11 HD_1.out)
          have CD_2 := fun z : After (w10.alloc (.cells #[.int .i64 y.1, .int .i64 y.2.1, .int .u64 y.2.2.1, .int .u64 y.2.2.2.1, .int .u64 y.2.2.2.2] 29)) => z.cell (cell_later hb11 HD_2.out)
          have CD_3 := fun z : After (w10.alloc (.cells #[.int .i64 y.1, .int .i64 y.2.1, .int .u64 y.2.2.1, .int .u64 y.2.2.2.1, .int .u64 y.2.2.2.2] 29)) => z.cell (cell_later hb11 HD_3.out)
          have CD_4 := fun z : After (w10.alloc (.cells #[.int .i64 y.1, .int .i64 y.2.1, .int .u64 y.2.2.1, .int .u64 y.2.2.2.1, .int .u64 y.2.2.2.2] 29)) => z.cell (cell_later hb11 HD_4.out)
          have CB_0 := fun z : After (w10.alloc (.cells #[.int .i64 y.1, .int .i64 y.2.1, .int .u64 y.2.2.1, .int .u64 y.2.2.2.1, .int .u64 y.2.2.2.2] 29)) => (res5 z.ok).1.1
          have CB_1 := fun z : After (w10.alloc (.cells #[.int .i64 y.1, .int .i64 y.2.1, .int .u64 y.2.2.1, .int .u64 y.2.2.2.1, .int .u64 y.2.2.2.2] 29)) => (res5 z.ok).1.2.1
          have CB_2 := fun z : After (w10.alloc (.cells #[.int .i64 y.1, .int .i64 y.2.1, .int .u64 y.2.2.1, .int .u64 y.2.2.2.1, .int .u64 y.2.2.2.2] 29)) => (res5 z.ok).1.2.2.1
          have CB_3 := fun z : After (w10.alloc (.cells #[.int .i64 y.1, .int .i64 y.2.1, .int .u64 y.2.2.1, .int .u64 y.2.2.2.1, .int .u64 y.2.2.2.2] 29)) => (res5 z.ok).1.2.2.2.1
          have CB_4 := fun z : After (w10.alloc (.cells #[.int .i64 y.1, .int .i64 y.2.1, .int .u64 y.2.2.1, .int .u64 y.2.2.2.1, .int .u64 y.2.2.2.2] 29)) => (res5 z.ok).1.2.2.2.2
          have hgu := guardD
          have N1 := fun W => eqlD y y W
          rw [decide_eq_true rfl] at N1
          clear hb10 hb11 ho10 hp10
          go_wp2
          refine wp_region_after mixed (by kernel_rfl) ?_
          repeat (first | go_big_quiet_step (fail) | quiet_step (fail))
          refine wpQuiet_nil ?_
          intro _ hw'
          obtain ⟨pq, hw''⟩ := hw'
          subst hw''
          go_wp2
          go_ret
          exact ⟨rfl, HB11.out.trans (pq.ok.mono HB11.out.size)⟩
        · have hpos : n2 = 0 := by have := H2.out; omega
          subst hpos
          have HFN := Lib.hid hfn
          clear h0 hfn
          go_wp2_with fail
          refine (FNext_none HFN.out).mono ?_
          rintro e w10 ⟨rfl, hb10⟩
          have HB11 := Lib.hid ((HB9.out.trans (hb10.mono HB9.out.size)).alloc (Nat.le_trans HB9.out.size hb10.size) (.cells #[.int .i64 0, .int .i64 0, .int .u64 0, .int .u64 0, .int .u64 0] 29))
          clear hb10
          go_wp2
          refine wp_region_after mixed (by kernel_rfl) ?_
          repeat (first | go_big_quiet_step (fail) | quiet_step (fail))
          refine wpQuiet_nil ?_
          intro _ hw'
          obtain ⟨pq, hw''⟩ := hw'
          subst hw''
          go_wp2
          go_ret
          exact ⟨rfl, HB11.out.trans (pq.ok.mono HB11.out.size)⟩
    · obtain rfl : k = m := by omega
      by_cases hkn2 : k < N
      · obtain ⟨x, hx⟩ : ∃ x, (a ++ b)[k]? = some x := ⟨_, List.getElem?_eq_getElem (by rw [HNL.out]; exact hkn2)⟩
        have HXX := Lib.hid hx
        clear hx
        have HLA := Lib.hid (show (flat encD a).length = n1 * 5 by rw [flat_length encD_length, H1.out])
        have HLB := Lib.hid (show (flat encD b).length = n2 * 5 by rw [flat_length encD_length, H2.out])
        obtain ⟨l, hl'⟩ : ∃ l, l = (a ++ b).take k := ⟨_, rfl⟩
        have HLT := Lib.hid hl'
        have HLL := Lib.hid (show k = l.length by rw [hl', List.length_take, HNL.out]; omega)
        rw [← hl'] at HA
        clear hl'
        
        go_wp2_with (at_builtin; first | (refine wpList_append_row _ (wr) rfl (.tmp 56) (.tmp 57) 22 rfl (wr.heap.size) 29 i0 _ 5 40 Try.underlying22 hi hz0 hz1 hz2 rfl (by decide) _ 0 [] rfl (World.ownsRow_made wr #[] 0 (Nat.le_refl _) (by simp [maxLen]) (by simp)) A n1 ca w.heap.size (flat encD a) rfl HLA.out (HR.out.below (HA.out.fl.below.alloc HA.out.fl.below.size _)) (flat_oneCell encD_one a) (by simp only [maxLen]; omega) (by omega) (by simp) (above_new _ _) ?_; intro A1 c1 w3 hown1 hb3; rw [Nat.zero_add, List.nil_append] at hown1; rw [Nat.zero_add]; have HO1 := Lib.hid hown1; have HB3 := Lib.hid hb3; clear hown1 hb3) | (refine wpList_append_row _ (wr) rfl (.tmp 58) (.tmp 59) 22 rfl (wr.heap.size) 29 i0 _ 5 40 Try.underlying22 hi hz0 hz1 hz2 rfl (by decide) _ n1 _ rfl HO1.out B n2 cb w.heap.size (flat encD b) rfl HLB.out (HS.out.below (HA.out.fl.below.trans (HB3.out.mono (by have := HA.out.fl.below.size; first | omega | (simp at this ⊢; omega))))) (flat_oneCell encD_one b) (by simp only [maxLen]; omega) (by omega) (by have := HB3.out.size; first | omega | (simp at this ⊢; omega)) HB3.out ?_; intro A2 c2 w4 hown2 hb4; rw [← HN.out] at hown2 ⊢; have HO2 := Lib.hid hown2; have HB4 := Lib.hid hb4; have hc2 := own_cap hown2; clear hown2 hb4))
        have HA4 := Lib.hid (HA.out.later (show Below (wr).heap.size (wr) w4 by have h := HB4.out; simpa using h))
        have HWF := Lib.hid (show ∀ i, (Value.slice A2 N c2).ownBlock = some i → ¬ R i from fun i hi e => by have h1 := (HO2.out.lt i hi).1; have h2 := (HA.out.fl.bound i e).2; first | omega | (simp at h1 h2; omega))
        refine (Fl_next HA4.out.fl HXX.out).mono ?_
        rintro e w5 ⟨rfl, hf5, ho5⟩
        have HA5 := Lib.hid ((HA4.out.turned hf5 ho5 (fun _ => .inl)).box (.cells #[.int .i64 x.1, .int .i64 x.2.1, .int .u64 x.2.2.1, .int .u64 x.2.2.2.1, .int .u64 x.2.2.2.2] 29))
        have HW5 := Lib.hid ((ho5.own HO2.out HWF.out).alloc (.cells #[.int .i64 x.1, .int .i64 x.2.1, .int .u64 x.2.2.1, .int .u64 x.2.2.2.1, .int .u64 x.2.2.2.2] 29))
        clear hf5 ho5
        have hm1 : (k : Int) < (N : Int) := by omega
        have hm2 : decide ((k : Int) < (N : Int)) = true := by simpa using hkn2
        have hkc : k ≤ c2 := by omega
        have hkc' : (k : Int) ≤ (c2 : Int) := by omega
        go_wp2_with fail
        refine (TaskRef.Same_yes (l := l) HLL.out HLL.out (Row.of_own HA5.out.own) (by rw [HLT.out]; exact row_takeD (Row.of_own (by rw [flat_append]; exact HW5.out))) (by omega)).mono ?_
        rintro e w6 ⟨rfl, hb6⟩
        have HA6 := Lib.hid (HA5.out.later hb6)
        clear hb6
        go_wp2_with fail
        refine (Law11.awake_any _).mono ?_
        rintro e w7 ⟨rfl, hb7⟩
        have HA7 := Lib.hid (HA6.out.later hb7)
        clear hb7
        go_wp2_with fail
        refine (NewScript_any (HS.out.later HA7.out.fl.below) H2.out (by omega)).mono ?_
        rintro e w8 ⟨p, q, rfl, hs8, hp8, hq8, hb8⟩
        have HA8 := Lib.hid (HA7.out.later hb8)
        have HS8 := Lib.hid hs8
        have HPQ := Lib.hid (show f ≠ p ∧ f ≠ q by have := (HA7.out.fl.bound f HA7.out.fl.base).2; omega)
        clear hs8 hp8 hq8 hb8
        go_wp2_with fail
        refine (Fl_to HA8.out.fl HS8.out HPQ.out).mono ?_
        rintro e w9 ⟨rfl, hb9, hst⟩
        have HB9 := Lib.hid hb9
        clear hb9
        rcases hst with ⟨h0, pb, p', q', g', hlo, hpb⟩ | ⟨h0, hfn⟩
        · have hpos : 0 < n2 := by have := H2.out; omega
          have hpos' : (0 : Int) < (n2 : Int) := by omega
          have hposd : decide ((0 : Int) < (n2 : Int)) = true := by simpa using hpos'
          obtain ⟨y, hy⟩ : ∃ y, b[0]? = some y := ⟨_, List.getElem?_eq_getElem h0⟩
          obtain ⟨bl, o, rfl, hbl, hc⟩ := Open.five_at HS.out h0
          obtain ⟨d_0, d_1, d_2, d_3, d_4⟩ := hc 0 y hy
          simp only [Nat.zero_mul, Nat.add_zero] at d_0 d_1 d_2 d_3 d_4
          have HLO := Lib.hid hlo
          have HY := Lib.hid hy
          have HD_0 := Lib.hid d_0
          have HD_1 := Lib.hid d_1
          have HD_2 := Lib.hid d_2
          have HD_3 := Lib.hid d_3
          have HD_4 := Lib.hid d_4
          clear h0 hc hlo hy d_0 d_1 d_2 d_3 d_4
          go_wp2_with fail
          refine (FNext_more HLO.out.flow HLO.out.part HLO.out.scr HY.out HLO.out.apart.2.1 HLO.out.apart.1).mono ?_
          rintro e w10 ⟨rfl, ho10, hp10⟩
          have hb10 : Below w.heap.size w w10 := HB9.out.trans (ho10.below HB9.out.size (fun i e => e ▸ hpb))
          have hb11 := hb10.alloc hb10.size (.cells #[.int .i64 y.1, .int .i64 y.2.1, .int .u64 y.2.2.1, .int .u64 y.2.2.2.1, .int .u64 y.2.2.2.2] 29)
          have HB11 := Lib.hid hb11
          have CD_0 := fun z : After (w10.alloc (.cells #[.int .i64 y.1, .int .i64 y.2.1, .int .u64 y.2.2.1, .int .u64 y.2.2.2.1, .int .u64 y.2.2.2.2] 29)) => z.cell (cell_later hb11 HD_0.out)
          have CD_1 := fun z : After (w10.alloc (.cells #[.int .i64 y.1, .int .i64 y.2.1, .int .u64 y.2.2.1, .int .u64 y.2.2.2.1, .int .u64 y.2.2.2.2] 29)) => z.cell (cell_later hb11 HD_1.out)
          have CD_2 := fun z : After (w10.alloc (.cells #[.int .i64 y.1, .int .i64 y.2.1, .int .u64 y.2.2.1, .int .u64 y.2.2.2.1, .int .u64 y.2.2.2.2] 29)) => z.cell (cell_later hb11 HD_2.out)
          have CD_3 := fun z : After (w10.alloc (.cells #[.int .i64 y.1, .int .i64 y.2.1, .int .u64 y.2.2.1, .int .u64 y.2.2.2.1, .int .u64 y.2.2.2.2] 29)) => z.cell (cell_later hb11 HD_3.out)
          have CD_4 := fun z : After (w10.alloc (.cells #[.int .i64 y.1, .int .i64 y.2.1, .int .u64 y.2.2.1, .int .u64 y.2.2.2.1, .int .u64 y.2.2.2.2] 29)) => z.cell (cell_later hb11 HD_4.out)
          have CB_0 := fun z : After (w10.alloc (.cells #[.int .i64 y.1, .int .i64 y.2.1, .int .u64 y.2.2.1, .int .u64 y.2.2.2.1, .int .u64 y.2.2.2.2] 29)) => (res5 z.ok).1.1
          have CB_1 := fun z : After (w10.alloc (.cells #[.int .i64 y.1, .int .i64 y.2.1, .int .u64 y.2.2.1, .int .u64 y.2.2.2.1, .int .u64 y.2.2.2.2] 29)) => (res5 z.ok).1.2.1
          have CB_2 := fun z : After (w10.alloc (.cells #[.int .i64 y.1, .int .i64 y.2.1, .int .u64 y.2.2.1, .int .u64 y.2.2.2.1, .int .u64 y.2.2.2.2] 29)) => (res5 z.ok).1.2.2.1
          have CB_3 := fun z : After (w10.alloc (.cells #[.int .i64 y.1, .int .i64 y.2.1, .int .u64 y.2.2.1, .int .u64 y.2.2.2.1, .int .u64 y.2.2.2.2] 29)) => (res5 z.ok).1.2.2.2.1
          have CB_4 := fun z : After (w10.alloc (.cells #[.int .i64 y.1, .int .i64 y.2.1, .int .u64 y.2.2.1, .int .u64 y.2.2.2.1, .int .u64 y.2.2.2.2] 29)) => (res5 z.ok).1.2.2.2.2
          have hgu := guardD
          have N1 := fun W => eqlD y y W
          rw [decide_eq_true rfl] at N1
          clear hb10 hb11 ho10 hp10
          go_wp2
          refine wp_region_after mixed (by kernel_rfl) ?_
          repeat (first | go_big_quiet_step (fail) | quiet_step (fail))
          refine wpQuiet_nil ?_
          intro _ hw'
          obtain ⟨pq, hw''⟩ := hw'
          subst hw''
          go_wp2
          go_ret
          exact ⟨rfl, HB11.out.trans (pq.ok.mono HB11.out.size)⟩
        · have hpos : n2 = 0 := by have := H2.out; omega
          subst hpos
          have HFN := Lib.hid hfn
          clear h0 hfn
          go_wp2_with fail
          refine (FNext_none HFN.out).mono ?_
          rintro e w10 ⟨rfl, hb10⟩
          have HB11 := Lib.hid ((HB9.out.trans (hb10.mono HB9.out.size)).alloc (Nat.le_trans HB9.out.size hb10.size) (.cells #[.int .i64 0, .int .i64 0, .int .u64 0, .int .u64 0, .int .u64 0] 29))
          clear hb10
          go_wp2
          refine wp_region_after mixed (by kernel_rfl) ?_
          repeat (first | go_big_quiet_step (fail) | quiet_step (fail))
          refine wpQuiet_nil ?_
          intro _ hw'
          obtain ⟨pq, hw''⟩ := hw'
          subst hw''
          go_wp2
          go_ret
          exact ⟨rfl, HB11.out.trans (pq.ok.mono HB11.out.size)⟩
      · obtain rfl : k = N := by omega
        have HLA := Lib.hid (show (flat encD a).length = n1 * 5 by rw [flat_length encD_length, H1.out])
        have HLB := Lib.hid (show (flat encD b).length = n2 * 5 by rw [flat_length encD_length, H2.out])
        obtain ⟨l, hl'⟩ : ∃ l, l = (a ++ b).take k := ⟨_, rfl⟩
        have HLT := Lib.hid hl'
        have HLL := Lib.hid (show k = l.length by rw [hl', List.length_take, HNL.out]; omega)
        rw [← hl'] at HA
        clear hl'
        
        go_wp2_with (at_builtin; first | (refine wpList_append_row _ (wr) rfl (.tmp 56) (.tmp 57) 22 rfl (wr.heap.size) 29 i0 _ 5 40 Try.underlying22 hi hz0 hz1 hz2 rfl (by decide) _ 0 [] rfl (World.ownsRow_made wr #[] 0 (Nat.le_refl _) (by simp [maxLen]) (by simp)) A n1 ca w.heap.size (flat encD a) rfl HLA.out (HR.out.below (HA.out.fl.below.alloc HA.out.fl.below.size _)) (flat_oneCell encD_one a) (by simp only [maxLen]; omega) (by omega) (by simp) (above_new _ _) ?_; intro A1 c1 w3 hown1 hb3; rw [Nat.zero_add, List.nil_append] at hown1; rw [Nat.zero_add]; have HO1 := Lib.hid hown1; have HB3 := Lib.hid hb3; clear hown1 hb3) | (refine wpList_append_row _ (wr) rfl (.tmp 58) (.tmp 59) 22 rfl (wr.heap.size) 29 i0 _ 5 40 Try.underlying22 hi hz0 hz1 hz2 rfl (by decide) _ n1 _ rfl HO1.out B n2 cb w.heap.size (flat encD b) rfl HLB.out (HS.out.below (HA.out.fl.below.trans (HB3.out.mono (by have := HA.out.fl.below.size; first | omega | (simp at this ⊢; omega))))) (flat_oneCell encD_one b) (by simp only [maxLen]; omega) (by omega) (by have := HB3.out.size; first | omega | (simp at this ⊢; omega)) HB3.out ?_; intro A2 c2 w4 hown2 hb4; rw [← HN.out] at hown2 ⊢; have HO2 := Lib.hid hown2; have HB4 := Lib.hid hb4; have hc2 := own_cap hown2; clear hown2 hb4))
        have HA4 := Lib.hid (HA.out.later (show Below (wr).heap.size (wr) w4 by have h := HB4.out; simpa using h))
        have HWF := Lib.hid (show ∀ i, (Value.slice A2 k c2).ownBlock = some i → ¬ R i from fun i hi e => by have h1 := (HO2.out.lt i hi).1; have h2 := (HA.out.fl.bound i e).2; first | omega | (simp at h1 h2; omega))
        refine (Fl_end HA4.out.fl (by rw [← H1.out, ← H2.out, HN.out])).mono ?_
        rintro e w5 ⟨rfl, hf5, ho5⟩
        have HA5 := Lib.hid ((HA4.out.turned hf5 ho5 (fun _ => .inl)).box (.cells #[.int .i64 0, .int .i64 0, .int .u64 0, .int .u64 0, .int .u64 0] 29))
        have HW5 := Lib.hid ((ho5.own HO2.out HWF.out).alloc (.cells #[.int .i64 0, .int .i64 0, .int .u64 0, .int .u64 0, .int .u64 0] 29))
        clear hf5 ho5
        skip
        go_wp2_with fail
        refine (TaskRef.Same_yes (l := l) HLL.out HLL.out (Row.of_own HA5.out.own) (by rw [HLT.out, List.take_of_length_le (Nat.le_of_eq HNL.out)]; exact Row.of_own (by rw [flat_append]; exact HW5.out)) (by omega)).mono ?_
        rintro e w6 ⟨rfl, hb6⟩
        have HA6 := Lib.hid (HA5.out.later hb6)
        clear hb6
        go_wp2_with fail
        refine (Law11.awake_any _).mono ?_
        rintro e w7 ⟨rfl, hb7⟩
        have HA7 := Lib.hid (HA6.out.later hb7)
        clear hb7
        go_wp2_with fail
        refine (NewScript_any (HS.out.later HA7.out.fl.below) H2.out (by omega)).mono ?_
        rintro e w8 ⟨p, q, rfl, hs8, hp8, hq8, hb8⟩
        have HA8 := Lib.hid (HA7.out.later hb8)
        have HS8 := Lib.hid hs8
        have HPQ := Lib.hid (show f ≠ p ∧ f ≠ q by have := (HA7.out.fl.bound f HA7.out.fl.base).2; omega)
        clear hs8 hp8 hq8 hb8
        go_wp2_with fail
        refine (Fl_to HA8.out.fl HS8.out HPQ.out).mono ?_
        rintro e w9 ⟨rfl, hb9, hst⟩
        have HB9 := Lib.hid hb9
        clear hb9
        rcases hst with ⟨h0, pb, p', q', g', hlo, hpb⟩ | ⟨h0, hfn⟩
        · have hpos : 0 < n2 := by have := H2.out; omega
          have hpos' : (0 : Int) < (n2 : Int) := by omega
          have hposd : decide ((0 : Int) < (n2 : Int)) = true := by simpa using hpos'
          obtain ⟨y, hy⟩ : ∃ y, b[0]? = some y := ⟨_, List.getElem?_eq_getElem h0⟩
          obtain ⟨bl, o, rfl, hbl, hc⟩ := Open.five_at HS.out h0
          obtain ⟨d_0, d_1, d_2, d_3, d_4⟩ := hc 0 y hy
          simp only [Nat.zero_mul, Nat.add_zero] at d_0 d_1 d_2 d_3 d_4
          have HLO := Lib.hid hlo
          have HY := Lib.hid hy
          have HD_0 := Lib.hid d_0
          have HD_1 := Lib.hid d_1
          have HD_2 := Lib.hid d_2
          have HD_3 := Lib.hid d_3
          have HD_4 := Lib.hid d_4
          clear h0 hc hlo hy d_0 d_1 d_2 d_3 d_4
          go_wp2_with fail
          refine (FNext_more HLO.out.flow HLO.out.part HLO.out.scr HY.out HLO.out.apart.2.1 HLO.out.apart.1).mono ?_
          rintro e w10 ⟨rfl, ho10, hp10⟩
          have hb10 : Below w.heap.size w w10 := HB9.out.trans (ho10.below HB9.out.size (fun i e => e ▸ hpb))
          have hb11 := hb10.alloc hb10.size (.cells #[.int .i64 y.1, .int .i64 y.2.1, .int .u64 y.2.2.1, .int .u64 y.2.2.2.1, .int .u64 y.2.2.2.2] 29)
          have HB11 := Lib.hid hb11
          have CD_0 := fun z : After (w10.alloc (.cells #[.int .i64 y.1, .int .i64 y.2.1, .int .u64 y.2.2.1, .int .u64 y.2.2.2.1, .int .u64 y.2.2.2.2] 29)) => z.cell (cell_later hb11 HD_0.out)
          have CD_1 := fun z : After (w10.alloc (.cells #[.int .i64 y.1, .int .i64 y.2.1, .int .u64 y.2.2.1, .int .u64 y.2.2.2.1, .int .u64 y.2.2.2.2] 29)) => z.cell (cell_later hb11 HD_1.out)
          have CD_2 := fun z : After (w10.alloc (.cells #[.int .i64 y.1, .int .i64 y.2.1, .int .u64 y.2.2.1, .int .u64 y.2.2.2.1, .int .u64 y.2.2.2.2] 29)) => z.cell (cell_later hb11 HD_2.out)
          have CD_3 := fun z : After (w10.alloc (.cells #[.int .i64 y.1, .int .i64 y.2.1, .int .u64 y.2.2.1, .int .u64 y.2.2.2.1, .int .u64 y.2.2.2.2] 29)) => z.cell (cell_later hb11 HD_3.out)
          have CD_4 := fun z : After (w10.alloc (.cells #[.int .i64 y.1, .int .i64 y.2.1, .int .u64 y.2.2.1, .int .u64 y.2.2.2.1, .int .u64 y.2.2.2.2] 29)) => z.cell (cell_later hb11 HD_4.out)
          have CB_0 := fun z : After (w10.alloc (.cells #[.int .i64 y.1, .int .i64 y.2.1, .int .u64 y.2.2.1, .int .u64 y.2.2.2.1, .int .u64 y.2.2.2.2] 29)) => (res5 z.ok).1.1
          have CB_1 := fun z : After (w10.alloc (.cells #[.int .i64 y.1, .int .i64 y.2.1, .int .u64 y.2.2.1, .int .u64 y.2.2.2.1, .int .u64 y.2.2.2.2] 29)) => (res5 z.ok).1.2.1
          have CB_2 := fun z : After (w10.alloc (.cells #[.int .i64 y.1, .int .i64 y.2.1, .int .u64 y.2.2.1, .int .u64 y.2.2.2.1, .int .u64 y.2.2.2.2] 29)) => (res5 z.ok).1.2.2.1
          have CB_3 := fun z : After (w10.alloc (.cells #[.int .i64 y.1, .int .i64 y.2.1, .int .u64 y.2.2.1, .int .u64 y.2.2.2.1, .int .u64 y.2.2.2.2] 29)) => (res5 z.ok).1.2.2.2.1
          have CB_4 := fun z : After (w10.alloc (.cells #[.int .i64 y.1, .int .i64 y.2.1, .int .u64 y.2.2.1, .int .u64 y.2.2.2.1, .int .u64 y.2.2.2.2] 29)) => (res5 z.ok).1.2.2.2.2
          have hgu := guardD
          have N1 := fun W => eqlD y y W
          rw [decide_eq_true rfl] at N1
          clear hb10 hb11 ho10 hp10
          go_wp2
          refine wp_region_after mixed (by kernel_rfl) ?_
          repeat (first | go_big_quiet_step (fail) | quiet_step (fail))
          refine wpQuiet_nil ?_
          intro _ hw'
          obtain ⟨pq, hw''⟩ := hw'
          subst hw''
          go_wp2
          go_ret
          exact ⟨rfl, HB11.out.trans (pq.ok.mono HB11.out.size)⟩
        · have hpos : n2 = 0 := by have := H2.out; omega
          subst hpos
          have HFN := Lib.hid hfn
          clear h0 hfn
          go_wp2_with fail
          refine (FNext_none HFN.out).mono ?_
          rintro e w10 ⟨rfl, hb10⟩
          have HB11 := Lib.hid ((HB9.out.trans (hb10.mono HB9.out.size)).alloc (Nat.le_trans HB9.out.size hb10.size) (.cells #[.int .i64 0, .int .i64 0, .int .u64 0, .int .u64 0, .int .u64 0] 29))
          clear hb10
          go_wp2
          refine wp_region_after mixed (by kernel_rfl) ?_
          repeat (first | go_big_quiet_step (fail) | quiet_step (fail))
          refine wpQuiet_nil ?_
          intro _ hw'
          obtain ⟨pq, hw''⟩ := hw'
          subst hw''
          go_wp2
          go_ret
          exact ⟨rfl, HB11.out.trans (pq.ok.mono HB11.out.size)⟩
theorem laidOut : laidOutB Try.prog = true := by kernel_rfl
theorem own : ownKnob Try.prog.godebug = none := by kernel_rfl
theorem lifted (os : Os) (started : os.Started) (H : Type) (enc : TypeId × Value → H) :
    ReturnsInHanded {} Try.checked os 4 .any (Rows.taskFlowsSpec.pre6 enc Try.prog Try.f4 Rows.taskFlowsRow.domain false) (Rows.taskFlowsSpec.post enc Try.prog Try.f4 false true false false) := by
  refine Frame.lifted (C := Try.checked) (fn := Try.f4) (tb := 4) own started (by kernel_rfl) Try.func4
    (ChangeSpec.witness6 (enc := enc) (C := Try.checked) false ⟨#[], #[.slice none 0 0, .slice none 0 0, .slice none 0 0], []⟩ 8 (by kernel_rfl) (by kernel_rfl) (by kernel_rfl) (by kernel_rfl))
    rfl rfl Try.underlying4 laidOut (by kernel_rfl) (fun ds h => by match ds, h with | [_, _, _], _ => rfl) ?_
  intro W base args ds ps hval0 hA0 hlt
  have hval : ∀ (j : Nat) t v, Try.f4.params[j]? = some t → args[j]? = some v → Value.okWide Try.prog W .any base t v := hval0
  have hA : DataW.TrodAll enc Try.prog W 0 (fun _ => true) true Try.f4.params.toList args.toList ds ps := hA0
  rw [Try.params4] at hA hval
  obtain ⟨v0, vs0, d0, ds0, p0, q0, hargs, rfl, rfl, h0, r0⟩ := trodAll_cons hA
  obtain ⟨v1, vs1, d1, ds1, p1, q1, rfl, rfl, rfl, h1, r1⟩ := trodAll_cons r0
  obtain ⟨v2, vs2, d2, ds2, p2, q2, rfl, rfl, rfl, h2, r2⟩ := trodAll_cons r1
  obtain ⟨rfl, rfl, rfl⟩ := trodAll_nil r2
  obtain rfl : args = #[v0, v1, v2] := by cases args; simp_all
  obtain ⟨A0, x0, c0, rfl, b0, m0, R0, g0⟩ := Open.open_rows (k := 5) (Open.enc5 .i64 .i64 .u64 .u64 .u64) (fun x => (Lit.int .i64 x.1).wf = true ∧ (Lit.int .i64 x.2.1).wf = true ∧ (Lit.int .u64 x.2.2.1).wf = true ∧ (Lit.int .u64 x.2.2.2.1).wf = true ∧ (Lit.int .u64 x.2.2.2.2).wf = true) Try.underlying22 (by kernel_rfl) (by decide) (Open.enc5_length .i64 .i64 .u64 .u64 .u64) (fun n cs y h hl => Open.five_ints Try.underlying29 (by kernel_rfl) Try.underlying3 Try.underlying3 Try.underlying27 Try.underlying27 Try.underlying27 n cs y h hl) (hval 0 22 v0 rfl rfl) h0
  obtain ⟨A1, x1, c1, rfl, b1, m1, R1, g1⟩ := Open.open_rows (k := 5) (Open.enc5 .i64 .i64 .u64 .u64 .u64) (fun x => (Lit.int .i64 x.1).wf = true ∧ (Lit.int .i64 x.2.1).wf = true ∧ (Lit.int .u64 x.2.2.1).wf = true ∧ (Lit.int .u64 x.2.2.2.1).wf = true ∧ (Lit.int .u64 x.2.2.2.2).wf = true) Try.underlying22 (by kernel_rfl) (by decide) (Open.enc5_length .i64 .i64 .u64 .u64 .u64) (fun n cs y h hl => Open.five_ints Try.underlying29 (by kernel_rfl) Try.underlying3 Try.underlying3 Try.underlying27 Try.underlying27 Try.underlying27 n cs y h hl) (hval 1 22 v1 rfl rfl) h1
  obtain ⟨A2, x2, c2, rfl, b2, m2, R2, g2⟩ := Open.open_rows (k := 1) (Ints.encZ .u64) (fun x => (Lit.int .u64 x).wf = true) Try.underlying23 (by kernel_rfl) (by decide) (Ints.encZ_length _) (fun n cs y h hl => Ints.one_int Try.underlying27 n cs y h hl) (hval 2 23 v2 rfl rfl) h2
  refine (walk A0 x0 c0 A1 x1 c1 A2 x2 c2 W R0 b0 (Nat.le_trans b0 m0) g0 R1 b1 (Nat.le_trans b1 m1) g1 R2 b2 (Nat.le_trans b2 m2) g2).mono fun e W' h => ?_
  exact h

theorem over : Rows.taskFlowsRow.holds Try.pinned (OpenSpec.ofChange Rows.taskFlowsSpec) :=
  OpenClaim.holds_of_wide 4 Try.f4 rfl rfl rfl rfl rfl rfl rfl ⟨rfl, rfl, rfl, rfl, rfl⟩ rfl rfl rfl rfl rfl (by kernel_rfl) Try.func4 (by kernel_rfl)
    (of_decide_eq_true (by kernel_rfl)) (by unfold Func.isWrapper; first | (rw [if_pos (by decide +kernel)]; kernel_rfl) | (rw [if_neg (by decide +kernel)]; exact ⟨rfl, rfl⟩))
    (fun os started H enc _ => lifted os started H enc)

theorem proved : Rows.TaskFlowsSaid := over
#print axioms proved
end Go.Proofs.Ythlamnghbdaaiaa.TaskFlows
