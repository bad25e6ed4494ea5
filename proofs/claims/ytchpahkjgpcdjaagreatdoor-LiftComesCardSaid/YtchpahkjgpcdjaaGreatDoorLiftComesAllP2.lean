import Derived.Test.YtchpahkjgpcdjaaGreatDoorLiftComesAllP1
import Derived.OrdersHeld
import Derived.Deep.RegionHeld
import Derived.OrdersIn
import Derived.RangeFuncCalls
import Derived.TacticsIn
import Derived.Lib.Hide
/- A seeker done alone where all chains rise, and whoever is in one without a mark is so in the one below, in plain lists: what it finds, and what it leaves. No program is named. -/
namespace Go.Proofs.YtchpahkjgpcdjaaGreatDoor.KM
open DM PM CM BM OM Runs
open Go.RowKit (wrap64)
set_option linter.unusedVariables false
set_option linter.unusedSimpArgs false

theorem steps_then {σ : Type} {ask : σ → Option D} {tell : σ → Int → σ} : ∀ (a b : Nat) (l l1 : List Int) (s s1 : σ) (r : List Int × σ), steps ask tell a l s = some (l1, s1) → steps ask tell b l1 s1 = some r → steps ask tell (a + b) l s = some r
  | 0, b, l, l1, s, s1, r, h1, h2 => by
    simp only [steps, Option.some.injEq, Prod.mk.injEq] at h1
    obtain ⟨rfl, rfl⟩ := h1
    rw [Nat.zero_add]; exact h2
  | a + 1, b, l, l1, s, s1, r, h1, h2 => by
    obtain ⟨d, hd, h3⟩ := steps_amid h1
    rw [show a + 1 + b = (a + b) + 1 by omega, steps_more hd]
    exact steps_then a b _ _ _ _ r h3 h2
theorem alone_steps {σ : Type} {ask : σ → Option D} {tell : σ → Int → σ} : ∀ (k n : Nat) (l l' : List Int) (s s' : σ), steps ask tell k l s = some (l', s') → ask s' = none → k ≤ n → alone ask tell n l s = (l', s')
  | 0, n, l, l', s, s', h1, h2, _ => by
    simp only [steps, Option.some.injEq, Prod.mk.injEq] at h1
    obtain ⟨rfl, rfl⟩ := h1
    exact alone_done h2
  | k + 1, n, l, l', s, s', h1, h2, hk => by
    obtain ⟨n, rfl⟩ : ∃ n', n = n' + 1 := ⟨n - 1, by omega⟩
    obtain ⟨d, hd, h3⟩ := steps_amid h1
    rw [alone_more hd]
    exact alone_steps k n _ _ _ _ h3 h2 (by omega)

/-- At one level ways on have been turned, but not their marks. -/
structure Cut (T N L : Nat) (h : Nat) (m m' : List Int) : Prop where
  len : m'.length = m.length
  fit : BM.Fits m → BM.Fits m'
  off : ∀ (r : Int) (g : Nat), idx r ≤ (N : Int) → g < L → g ≠ h → wayI T L m' r g = wayI T L m r g
  key : ∀ r : Int, 1 ≤ idx r → idx r ≤ (N : Int) → keyI T L m' r = keyI T L m r
  par : ∀ r : Int, idx r ≤ (N : Int) → wayI T L m' r h % 2 = wayI T L m r h % 2
  odd : ∀ r : Int, idx r ≤ (N : Int) → wayI T L m r h % 2 = 1 → wayI T L m' r h = wayI T L m r h
  oth : ∀ i : Int, (∀ (r : Int) (g : Nat), idx r ≤ (N : Int) → g < L → i ≠ nextI T L (idx r) g) → getI m' i = getI m i
section
variable {T N L h : Nat} {m m' m2 : List Int}
theorem Cut.refl (m : List Int) : Cut T N L h m m := ⟨rfl, id, fun _ _ _ _ _ => rfl, fun _ _ _ => rfl, fun _ _ => rfl, fun _ _ _ => rfl, fun _ _ => rfl⟩
theorem Cut.trans (a : Cut T N L h m m') (b : Cut T N L h m' m2) : Cut T N L h m m2 :=
  ⟨b.len.trans a.len, fun f => b.fit (a.fit f), fun r g h1 h2 h3 => (b.off r g h1 h2 h3).trans (a.off r g h1 h2 h3), fun r h1 h2 => (b.key r h1 h2).trans (a.key r h1 h2), fun r h1 => (b.par r h1).trans (a.par r h1), fun r h1 h2 => (b.odd r h1 (by rw [a.par r h1]; exact h2)).trans (a.odd r h1 h2), fun i hi => (b.oth i hi).trans (a.oth i hi)⟩
theorem Cut.free (a : Cut T N L h m m') {r : Int} (hr : idx r ≤ (N : Int)) : freeB T L m' h r = freeB T L m h r := by unfold freeB; rw [a.par r hr]
theorem cut_one (hT : T ≤ 8) (hN : N ≤ 64) (hL : L ≤ 8) (hh : h < L) (hm : m.length = wordsN T N L) {p v : Int} (hp : idx p ≤ (N : Int)) (hv : 0 ≤ v ∧ v < 18446744073709551616) (he : v % 2 = wayI T L m p h % 2) (h0 : v % 2 = 0) : Cut T N L h m (setI m (nextI T L (idx p) h) v) := by
  refine ⟨setI_length _ _ _, fun f => fits_set f _ hv, fun r g h1 h2 h3 => ?_, fun r h1 h2 => set_key hT hN hL hp h1 h2 hh, fun r h1 => ?_, fun r h1 h2 => ?_, fun i hi => get_other (Ne.symm (hi p h hp hh))⟩
  · rw [set_way hT hN hL hm hp h1 hh h2, if_neg fun q => h3 q.2]
  · rw [set_way hT hN hL hm hp h1 hh hh]
    split
    · obtain ⟨e, -⟩ := ‹_ ∧ _›
      rw [he, way_same e]
    · rfl
  · rw [set_way hT hN hL hm hp h1 hh hh, if_neg]
    rintro ⟨e, -⟩
    rw [way_same e] at h2
    omega
end

theorem filter_cong {f g : Int → Bool} {l : List Int} (h : ∀ c ∈ l, f c = g c) : l.filter f = l.filter g := List.filter_congr h
theorem less_is {d n dl sq : Int} : ltK (wrap64 d, n) (dl, sq) = if wrap64 d = dl then decide (n < sq) else decide (wrap64 d < dl) := by
  unfold ltK
  simp only
  split
  · simp [*]
  · simp [*]

/-- One level: from pr on. -/
theorem level_run {T N L : Nat} {dl sq : Int} {ps ss : List Int} (hT : T ≤ 8) (hN : N ≤ 64) (hL : L ≤ 8) {h : Nat} (hh : h < L) {lt : Int → Bool} : ∀ (cs m : List Int) (pr cu nx : Int), m.length = wordsN T N L → BM.Fits m → idx pr ≤ (N : Int) →
    Path (fun r => wayI T L m r h) N (wayI T L m pr h) cs → Rises (keyI T L m) cs → (∀ c ∈ cs, idx c ≠ idx pr) → (∀ c ∈ cs, ltK (keyI T L m c) (dl, sq) = lt c) →
    ∃ k m' cs' cu' nx', k ≤ 3 * cs.length ∧
      steps (seekA T L) (seekT L dl sq) k m (reach h pr cu nx ps ss (wayI T L m pr h)) = some (m', find h (findL lt (cs.filter (freeB T L m h)) pr).1 cu' nx' ps ss (findL lt (cs.filter (freeB T L m h)) pr).2) ∧
      Cut T N L h m m' ∧ Path (fun r => wayI T L m' r h) N (wayI T L m' pr h) cs' ∧ cs'.Sublist cs ∧ cs'.filter (freeB T L m' h) = cs.filter (freeB T L m h) ∧
      wayI T L m' (findL lt (cs.filter (freeB T L m h)) pr).1 h = (findL lt (cs.filter (freeB T L m h)) pr).2 ∧
      ∀ r : Int, idx r ≤ (N : Int) → idx r ≠ idx pr → (∀ c ∈ cs, idx c ≠ idx r) → wayI T L m' r h = wayI T L m r h
  | [], m, pr, cu, nx, hm, hf, hp, hpath, _, _, _ => by
    have e : wayI T L m pr h = 0 := hpath
    refine ⟨0, m, [], cu, nx, Nat.le_refl _, ?_, Cut.refl m, hpath, List.Sublist.refl _, rfl, e, fun _ _ _ _ => rfl⟩
    rw [e, reach_none idx_zero]
    rfl
  | c :: cs, m, pr, cu, nx, hm, hf, hp, hpath, hr, hd, hlt => by
    obtain ⟨e, h1, h2, h3, h4⟩ := hpath
    have hc0 : ¬ idx c = 0 := by omega
    have hr2 : Rises (keyI T L m) cs := (List.pairwise_cons.1 hr).2
    have hdc : ∀ x ∈ cs, idx x ≠ idx c := fun x hx q => by
      have := (List.pairwise_cons.1 (rises_apart hr fun a b e => key_same e)).1 x hx
      exact this q.symm
    have hcp : idx c ≠ idx pr := hd c (by simp)
    have hw := fits_get hf (nextI T L (idx c) h)
    rw [e, reach_some hc0]
    by_cases hmk : wayI T L m c h % 2 = 1
    · -- it goes out
      have hset := fun {r : Int} {g : Nat} (a : idx r ≤ (N : Int)) (b : g < L) => set_way hT hN hL hm (v := plainI (wayI T L m c h)) hp a hh b
      obtain ⟨m1, hm1⟩ : ∃ m1, m1 = setI m (nextI T L (idx pr) h) (plainI (wayI T L m c h)) := ⟨_, rfl⟩
      rw [← hm1] at hset
      have hcut : Cut T N L h m m1 := hm1 ▸ cut_one hT hN hL hh hm hp (by unfold plainI wayI; omega) (by rw [plain_even, e, h1]) (plain_even _)
      have e1 : wayI T L m1 pr h = plainI (wayI T L m c h) := by rw [hset hp hh, if_pos ⟨rfl, rfl⟩]
      have hin := path_in _ _ h4
      have hsame : ∀ x : Int, idx x ≤ (N : Int) → idx x ≠ idx pr → wayI T L m1 x h = wayI T L m x h := fun x a b => by rw [hset a hh, if_neg fun q => b q.1]
      have hdp : ∀ x ∈ cs, idx x ≠ idx pr := fun x hx => hd x (by simp [hx])
      obtain ⟨k, m', cs', cu', nx', k1, k2, k3, k4, k5, k6, k7, k8⟩ := level_run hT hN hL hh (lt := lt) (dl := dl) (sq := sq) (ps := ps) (ss := ss) cs m1 pr c (plainI (wayI T L m c h)) (hcut.len.trans hm) (hcut.fit hf) hp
        (by rw [e1]; exact path_cong cs _ h4 fun x hx => hsame x (hin x hx).2.1 (hdp x hx)) (by
          refine List.Pairwise.imp_of_mem (fun {a b} ha hb hab => ?_) hr2
          rw [hcut.key a (hin a ha).1 (hin a ha).2.1, hcut.key b (hin b hb).1 (hin b hb).2.1]; exact hab) hdp
        (fun x hx => by rw [hcut.key x (hin x hx).1 (hin x hx).2.1]; exact hlt x (by simp [hx]))
      have hfil : cs.filter (freeB T L m1 h) = (c :: cs).filter (freeB T L m h) := by
        rw [List.filter_cons_of_neg (by unfold freeB; simp [hmk])]
        exact List.filter_congr fun x hx => hcut.free (hin x hx).2.1
      rw [hfil] at k2 k6 k7
      refine ⟨2 + k, m', cs', cu', nx', by simp; omega, ?_, hcut.trans k3, k4, k5.trans (List.sublist_cons_self _ _), k6, k7, fun r a b d => ?_⟩
      · refine steps_then 2 k _ m1 _ _ _ ?_ k2
        rw [steps_more (k := 1) seekA_2, nextD_1, foundD_yes (by simp)]
        change steps _ _ 1 m (seekT L dl sq ⟨2, h, pr, c, nx, ps, ss⟩ (wayI T L m c h)) = _
        rw [seekT_2m hmk, steps_more (k := 0) seekA_3, nextD_3, foundD_yes (by simp)]
        change steps _ _ 0 (swapI m (nextI T L (idx pr) h) c (plainI (wayI T L m c h))) (seekT L dl sq ⟨3, h, pr, c, plainI (wayI T L m c h), ps, ss⟩ (wayI T L m pr h)) = _
        rw [e, seekT_3, e1, hm1]
        unfold swapI
        rw [if_pos (show getI m (nextI T L (idx pr) h) = c from e)]
        rfl
      · rw [k8 r a b fun x hx => d x (by simp [hx]), hsame r a b]
    · -- it stays
      have hn : wayI T L m c h - wayI T L m c h % 2 = wayI T L m c h := by unfold wayI at hmk ⊢; omega
      have hev : plainI (wayI T L m c h) = wayI T L m c h := hn
      rw [hev] at h4
      have hfc : (c :: cs).filter (freeB T L m h) = c :: cs.filter (freeB T L m h) := List.filter_cons_of_pos (by unfold freeB; simp [hmk])
      -- the steps up to the weighing's end
      have hweigh : ∃ j, 2 ≤ j ∧ j ≤ 3 ∧ steps (seekA T L) (seekT L dl sq) j m ⟨2, h, pr, c, nx, ps, ss⟩ = some (m, pass h pr c (wayI T L m c h) ps ss (lt c)) := by
        rw [← hlt c (by simp)]
        unfold keyI
        rw [less_is]
        by_cases hq : wrap64 (getI m (atI T L (idx c) 1)) = dl
        · refine ⟨3, by omega, by omega, ?_⟩
          rw [steps_more (k := 2) seekA_2, nextD_1, foundD_yes (by simp)]
          change steps _ _ 2 m (seekT L dl sq ⟨2, h, pr, c, nx, ps, ss⟩ (wayI T L m c h)) = _
          rw [seekT_2 hmk, hn, steps_more (k := 1) seekA_4, nextD_1, foundD_yes (by simp)]
          simp only
          rw [seekT_4e hq, steps_more (k := 0) seekA_5, nextD_1, foundD_yes (by simp)]
          simp only
          rw [seekT_5 rfl, if_pos hq]
          rfl
        · refine ⟨2, by omega, by omega, ?_⟩
          rw [steps_more (k := 1) seekA_2, nextD_1, foundD_yes (by simp)]
          change steps _ _ 1 m (seekT L dl sq ⟨2, h, pr, c, nx, ps, ss⟩ (wayI T L m c h)) = _
          rw [seekT_2 hmk, hn, steps_more (k := 0) seekA_4, nextD_1, foundD_yes (by simp)]
          simp only
          rw [seekT_4 hq rfl, if_neg hq]
          rfl
      obtain ⟨j, j1, j2, hj⟩ := hweigh
      by_cases hc : lt c = true
      · -- it is less
        obtain ⟨k, m', cs', cu', nx', k1, k2, k3, k4, k5, k6, k7, k8⟩ := level_run hT hN hL hh (lt := lt) (dl := dl) (sq := sq) (ps := ps) (ss := ss) cs m c c (wayI T L m c h) hm hf h3 h4 hr2 hdc (fun x hx => hlt x (by simp [hx]))
        have hfind : findL lt ((c :: cs).filter (freeB T L m h)) pr = findL lt (cs.filter (freeB T L m h)) c := by
          rw [hfc]; exact if_pos hc
        rw [hfind]
        have hwp : wayI T L m' pr h = wayI T L m pr h := k8 pr hp (fun q => hcp q.symm) fun x hx => hd x (by simp [hx])
        have hev' : wayI T L m' c h % 2 = 0 := by rw [k3.par c h3]; omega
        refine ⟨j + k, m', c :: cs', cu', nx', by simp; omega, ?_, k3, ?_, k5.cons_cons c, ?_, k7, fun r a b d => ?_⟩
        · refine steps_then j k _ m _ _ _ hj ?_
          rw [hc, pass_yes]
          exact k2
        · rw [hwp, e]
          refine ⟨rfl, h1, h2, h3, ?_⟩
          rw [show plainI (wayI T L m' c h) = wayI T L m' c h by unfold plainI; omega]
          exact k4
        · rw [hfc, List.filter_cons_of_pos (by unfold freeB; simp [hev']), k6]
        · exact k8 r a (fun q => d c (by simp) q.symm) fun x hx => d x (by simp [hx])
      · -- it is not
        have hfind : findL lt ((c :: cs).filter (freeB T L m h)) pr = (pr, c) := by
          rw [hfc]; exact if_neg hc
        rw [hfind]
        refine ⟨j, m, c :: cs, c, wayI T L m c h, by simp; omega, ?_, Cut.refl m, ?_, List.Sublist.refl _, rfl, e, fun _ _ _ _ => rfl⟩
        · rw [hj, show lt c = false by simpa using hc, pass_no]
        · rw [e]
          exact ⟨rfl, h1, h2, h3, by rw [hev]; exact h4⟩
theorem path_pre {nx nx' : Int → Int} {N : Int} : ∀ (A : List Int) (r p : Int) (cs cs' : List Int), Path nx N r (A ++ p :: cs) → (∀ a ∈ A, nx' a = nx a) → Path nx' N (plainI (nx' p)) cs' → Path nx' N r (A ++ p :: cs')
  | [], r, p, cs, cs', hp, _, hq => ⟨hp.1, hp.2.1, hp.2.2.1, hp.2.2.2.1, hq⟩
  | x :: A, r, p, cs, cs', hp, ha, hq => ⟨hp.1, hp.2.1, hp.2.2.1, hp.2.2.2.1, by rw [ha x (by simp)]; exact path_pre A _ p cs cs' hp.2.2.2.2 (fun a h => ha a (by simp [h])) hq⟩
theorem rises_cut {T N L h : Nat} {m m' l l' : List Int} (hc : Cut T N L h m m') (hr : Rises (keyI T L m) l) (hs : l'.Sublist l) (hin : ∀ c ∈ l, 1 ≤ idx c ∧ idx c ≤ (N : Int)) : Rises (keyI T L m') l' := by
  refine List.Pairwise.imp_of_mem (fun {a b} ha hb hab => ?_) (List.Pairwise.sublist hs hr)
  have za := hin a (hs.subset ha)
  have zb := hin b (hs.subset hb)
  rw [hc.key a za.1 za.2, hc.key b zb.1 zb.2]
  exact hab
/-- One level, from its head on, or from one of its own without a mark that is less. -/
theorem level_all {T N L : Nat} {dl sq : Int} {ps ss : List Int} (hT : T ≤ 8) (hN : N ≤ 64) (hL : L ≤ 8) {h : Nat} (hh : h < L) {lt : Int → Bool} {cl m : List Int} {pr cu nx : Int} (hm : m.length = wordsN T N L) (hf : BM.Fits m) (hcl : Chain T L N m h cl)
    (hlt : ∀ c : Int, 1 ≤ idx c → idx c ≤ (N : Int) → ltK (keyI T L m c) (dl, sq) = lt c) (hpr : pr = 0 ∨ (pr ∈ cl ∧ freeB T L m h pr = true ∧ lt pr = true)) :
    ∃ k m' cl' cu' nx', k ≤ 192 ∧
      steps (seekA T L) (seekT L dl sq) k m (reach h pr cu nx ps ss (wayI T L m pr h)) = some (m', find h (findL lt (cl.filter (freeB T L m h)) 0).1 cu' nx' ps ss (findL lt (cl.filter (freeB T L m h)) 0).2) ∧
      Cut T N L h m m' ∧ Chain T L N m' h cl' ∧ cl'.filter (freeB T L m' h) = cl.filter (freeB T L m h) ∧ wayI T L m' (findL lt (cl.filter (freeB T L m h)) 0).1 h = (findL lt (cl.filter (freeB T L m h)) 0).2 ∧
      cl'.Sublist cl ∧ ∀ r : Int, 1 ≤ idx r → idx r ≤ (N : Int) → (∀ c ∈ cl, idx c ≠ idx r) → wayI T L m' r h = wayI T L m r h := by
  obtain ⟨he, hp, hr⟩ := hcl
  have hin := path_in _ _ hp
  have hlen := rises_few hr (fun a b e => key_same e) (fun c hc => ⟨(hin c hc).1, (hin c hc).2.1⟩)
  rcases hpr with rfl | ⟨hpm, hpf, hpl⟩
  · obtain ⟨k, m', cs', cu', nx', k1, k2, k3, k4, k5, k6, k7, k8⟩ := level_run hT hN hL hh (lt := lt) (dl := dl) (sq := sq) (ps := ps) (ss := ss) cl m 0 cu nx hm hf (by rw [idx_zero]; omega) hp hr (fun c hc q => by rw [idx_zero] at q; have := (hin c hc).1; omega) (fun c hc => hlt c (hin c hc).1 (hin c hc).2.1)
    exact ⟨k, m', cs', cu', nx', by omega, k2, k3, ⟨by rw [k3.par 0 (by rw [idx_zero]; omega)]; exact he, k4, rises_cut k3 hr k5 fun c hc => ⟨(hin c hc).1, (hin c hc).2.1⟩⟩, k6, k7, k5, fun r a b d => k8 r b (by rw [idx_zero]; omega) d⟩
  · obtain ⟨A, cs, rfl⟩ := List.append_of_mem hpm
    have hpi := hin pr hpm
    have hev : wayI T L m pr h % 2 = 0 := by unfold freeB at hpf; simp at hpf; omega
    have hpl2 : plainI (wayI T L m pr h) = wayI T L m pr h := by unfold plainI; omega
    have hpath := path_split A _ pr cs hp
    rw [hpl2] at hpath
    have hap := rises_apart hr fun a b e => key_same e
    have hr0 := hr
    rw [Rises, List.pairwise_append, List.pairwise_cons] at hr0
    rw [List.pairwise_append, List.pairwise_cons] at hap
    obtain ⟨k, m', cs', cu', nx', k1, k2, k3, k4, k5, k6, k7, k8⟩ := level_run hT hN hL hh (lt := lt) (dl := dl) (sq := sq) (ps := ps) (ss := ss) cs m pr cu nx hm hf hpi.2.1 hpath hr0.2.1.2 (fun c hc q => hap.2.1.1 c hc q.symm) (fun c hc => hlt c (hin c (by simp [hc])).1 (hin c (by simp [hc])).2.1)
    have hfil : (A ++ pr :: cs).filter (freeB T L m h) = A.filter (freeB T L m h) ++ pr :: cs.filter (freeB T L m h) := by rw [List.filter_append, List.filter_cons_of_pos hpf]
    have hfind : findL lt ((A ++ pr :: cs).filter (freeB T L m h)) 0 = findL lt (cs.filter (freeB T L m h)) pr := by
      rw [hfil]
      refine find_past lt _ 0 _ pr (fun a ha => ?_) hpl
      have ha2 := (List.mem_filter.1 ha).1
      have hab := hr0.2.2 a ha2 pr (by simp)
      have h1 := hin a (by simp [ha2])
      rw [← hlt a h1.1 h1.2.1]
      refine ltK_trans _ _ _ hab ?_
      rw [hlt pr hpi.1 hpi.2.1]
      exact hpl
    rw [hfind]
    have hsub : (A ++ pr :: cs').Sublist (A ++ pr :: cs) := (List.Sublist.refl A).append (k5.cons_cons pr)
    have hA : ∀ a ∈ A, wayI T L m' a h = wayI T L m a h := fun a ha => k8 a (hin a (by simp [ha])).2.1 (hap.2.2 a ha pr (by simp)) fun c hc q => hap.2.2 a ha c (by simp [hc]) q.symm
    have hz : wayI T L m' 0 h = wayI T L m 0 h := k8 0 (by rw [idx_zero]; omega) (by rw [idx_zero]; omega) fun c hc q => by rw [idx_zero] at q; have := (hin c (by simp [hc])).1; omega
    have hev' : wayI T L m' pr h % 2 = 0 := by rw [k3.par pr hpi.2.1]; exact hev
    refine ⟨k, m', A ++ pr :: cs', cu', nx', by simp at hlen; omega, k2, k3, ⟨by rw [hz]; exact he, ?_, rises_cut k3 hr hsub fun c hc => ⟨(hin c hc).1, (hin c hc).2.1⟩⟩, ?_, k7, hsub, fun r a b d => k8 r b (fun q => d pr (by simp) q.symm) fun c hc => d c (by simp [hc])⟩
    · rw [hz]
      exact path_pre A _ pr cs cs' hp hA (by rw [show plainI (wayI T L m' pr h) = wayI T L m' pr h by unfold plainI; omega]; exact k4)
    · rw [hfil, List.filter_append, List.filter_cons_of_pos (by unfold freeB; simp [hev']), k6]
      congr 1
      exact List.filter_congr fun a ha => k3.free (hin a (by simp [ha])).2.1

/-- What there is to find for a level. -/
def resL (T L N : Int) (lt : Int → Bool) (l : List Int) (h : Nat) : Int × Int := findL lt (keptL T L N l h) 0
/-- One level has been sought: what its chain is then. -/
def Sought (T N L : Nat) (lt : Int → Bool) (l m : List Int) (g : Nat) : Prop :=
  ∃ cl, Chain T L N m g cl ∧ cl.Sublist (chainI T L N l g).1 ∧ cl.filter (freeB T L m g) = keptL T L N l g ∧ wayI T L m (resL T L N lt l g).1 g = (resL T L N lt l g).2 ∧ (∀ r : Int, idx r ≤ (N : Int) → wayI T L m r g % 2 = wayI T L l r g % 2) ∧
    (∀ r : Int, idx r ≤ (N : Int) → wayI T L l r g % 2 = 1 → wayI T L m r g = wayI T L l r g) ∧ ∀ r : Int, 1 ≤ idx r → idx r ≤ (N : Int) → (∀ c ∈ (chainI T L N l g).1, idx c ≠ idx r) → wayI T L m r g = wayI T L l r g
/-- A memory whose levels below n are those of l. -/
structure Below_ (T N L n : Nat) (l m : List Int) : Prop where
  len : m.length = wordsN T N L
  fit : BM.Fits m
  way : ∀ (r : Int) (g : Nat), idx r ≤ (N : Int) → g < n → wayI T L m r g = wayI T L l r g
  key : ∀ r : Int, 1 ≤ idx r → idx r ≤ (N : Int) → keyI T L m r = keyI T L l r
  oth : ∀ i : Int, (∀ (r : Int) (g : Nat), idx r ≤ (N : Int) → g < L → i ≠ nextI T L (idx r) g) → getI m i = getI l i
theorem chain_cong {T N L h : Nat} {l m cl : List Int} (hw : ∀ r : Int, idx r ≤ (N : Int) → wayI T L m r h = wayI T L l r h) (hk : ∀ r : Int, 1 ≤ idx r → idx r ≤ (N : Int) → keyI T L m r = keyI T L l r) (hc : Chain T L N l h cl) : Chain T L N m h cl := by
  obtain ⟨he, hp, hr⟩ := hc
  have hin := path_in _ _ hp
  have h0 := hw 0 (by rw [idx_zero]; omega)
  refine ⟨by rw [h0]; exact he, ?_, List.Pairwise.imp_of_mem (fun {a b} ha hb hab => ?_) hr⟩
  · rw [h0]
    exact path_cong cl _ hp fun c hc => hw c (hin c hc).2.1
  · rw [hk a (hin a ha).1 (hin a ha).2.1, hk b (hin b hb).1 (hin b hb).2.1]; exact hab
theorem kept_of {T L : Int} {N : Nat} {m cl : List Int} {h : Int} (hN : N ≤ 64) (hc : Chain T L N m h cl) : keptL T L N m h = cl.filter (freeB T L m h) := by unfold keptL; rw [chain_is hN hc]

theorem Sought.finds {T N L g : Nat} {lt : Int → Bool} {l m : List Int} (hN : N ≤ 64) (h : Sought T N L lt l m g) : wayI T L m (resL T L N lt l g).1 g = (resL T L N lt l g).2 ∧ keptL T L N m g = keptL T L N l g := by
  obtain ⟨cl, h1, -, h3, h4, -⟩ := h
  exact ⟨h4, by rw [kept_of hN h1]; exact h3⟩
theorem pair_yes {α : Type} : ∀ {p : α × Bool}, p.2 = true → ∃ a, p = (a, true)
  | (a, _), rfl => ⟨a, rfl⟩
theorem all_run {T N L Q : Nat} {dl sq : Int} (hQ : 193 ≤ Q) (hT : T ≤ 8) (hN : N ≤ 64) (hL : L ≤ 8) {lt : Int → Bool} {l : List Int} (hg : GoodW T L N l) (hlt : ∀ c : Int, 1 ≤ idx c → idx c ≤ (N : Int) → ltK (keyI T L l c) (dl, sq) = lt c) :
    ∀ (n : Nat) (m : List Int) (pr cu nx : Int) (ps ss : List Int), n ≤ L → Below_ T N L n l m → (∀ g : Nat, n = g + 1 → pr = 0 ∨ (pr ∈ (chainI T L N l g).1 ∧ freeB T L l g pr = true ∧ lt pr = true)) →
    ∃ k m' lv' pr' cu' nx', k ≤ n * Q ∧ steps (seekA T L) (seekT L dl sq) k m (desc n pr cu nx ps ss) = some (m', ⟨0, lv', pr', cu', nx', ps ++ (List.range n).reverse.map fun h => (resL T L N lt l h).1, ss ++ (List.range n).reverse.map fun h => (resL T L N lt l h).2⟩) ∧
      m'.length = wordsN T N L ∧ BM.Fits m' ∧ (∀ g, g < n → Sought T N L lt l m' g) ∧
      (∀ (r : Int) (g : Nat), idx r ≤ (N : Int) → n ≤ g → g < L → wayI T L m' r g = wayI T L m r g) ∧ (∀ r : Int, 1 ≤ idx r → idx r ≤ (N : Int) → keyI T L m' r = keyI T L l r) ∧
      ∀ i : Int, (∀ (r : Int) (g : Nat), idx r ≤ (N : Int) → g < L → i ≠ nextI T L (idx r) g) → getI m' i = getI l i := by
  intro n
  induction n with
  | zero =>
    intro m pr cu nx ps ss _ hb _
    refine ⟨0, m, 0, pr, cu, nx, Nat.zero_le _, ?_, hb.len, hb.fit, fun g h => by omega, fun r g _ _ _ => rfl, hb.key, hb.oth⟩
    show some (m, desc 0 pr cu nx ps ss) = _
    rw [desc_end (Int.le_refl _)]
    simp
  | succ h ih =>
    intro m pr cu nx ps ss hn hb hpr
    have hh : h < L := by omega
    obtain ⟨hok, hsub⟩ := hg h (by omega)
    obtain ⟨cl, hcl⟩ : ∃ cl, chainI T L N l h = (cl, true) := pair_yes hok
    have hc := chain_of hcl
    have hcm := chain_cong (m := m) (fun r a => hb.way r h a (by omega)) hb.key hc
    have hin := path_in _ _ hc.2.1
    have hpr := hpr h rfl
    rw [hcl] at hpr
    have hfr : ∀ c : Int, idx c ≤ (N : Int) → freeB T L m h c = freeB T L l h c := fun c a => by unfold freeB; rw [hb.way c h a (by omega)]
    have hpi : idx pr ≤ (N : Int) := by
      rcases hpr with rfl | ⟨q, -⟩
      · rw [idx_zero]; omega
      · exact (hin pr q).2.1
    have hev : ¬ wayI T L m pr h % 2 = 1 := by
      rcases hpr with rfl | ⟨q1, q2, -⟩
      · have := hcm.1; omega
      · rw [← hfr pr hpi] at q2; unfold freeB at q2; simpa using q2
    have hfilm : cl.filter (freeB T L m h) = keptL T L N l h := by
      rw [kept_of hN hc]
      exact List.filter_congr fun c a => hfr c (hin c a).2.1
    obtain ⟨k, m1, cl', cu', nx', k1, k2, k3, k4, k5, k6, k7, k8⟩ := level_all hT hN hL hh (ps := ps) (ss := ss) (cu := cu) (nx := nx) (dl := dl) (sq := sq) (lt := lt) hb.len hb.fit hcm (fun c a b => by rw [hb.key c a b]; exact hlt c a b)
      (hpr.imp id fun q => ⟨q.1, by rw [hfr pr hpi]; exact q.2.1, q.2.2⟩)
    rw [hfilm] at k2 k5 k6
    change _ = some (m1, find h (resL T L N lt l h).1 cu' nx' ps ss (resL T L N lt l h).2) at k2
    change wayI T L m1 (resL T L N lt l h).1 h = (resL T L N lt l h).2 at k6
    have hb1 : Below_ T N L h l m1 := ⟨k3.len.trans hb.len, k3.fit hb.fit, fun r g a b => by rw [k3.off r g a (by omega) (by omega)]; exact hb.way r g a (by omega), fun r a b => by rw [k3.key r a b]; exact hb.key r a b, fun i hi => (k3.oth i hi).trans (hb.oth i hi)⟩
    obtain ⟨k', m', lv', pr', cu2, nx2, j1, j2, j3, j4, j5, j6, j7, j8⟩ := ih m1 (resL T L N lt l h).1 cu' nx' (ps ++ [(resL T L N lt l h).1]) (ss ++ [(resL T L N lt l h).2]) (by omega) hb1 (fun g e => by
      rcases find_where lt (keptL T L N l h) 0 with q | ⟨q1, q2⟩
      · exact .inl q
      · have q3 := List.mem_filter.1 q1
        obtain ⟨z1, z2⟩ := hsub g e _ q3.1 q3.2
        exact .inr ⟨z1, z2, q2⟩)
    have hidx : idx (resL T L N lt l h).1 ≤ (N : Int) := by
      rcases find_where lt (keptL T L N l h) 0 with q | ⟨q1, q2⟩
      · show idx (findL lt (keptL T L N l h) 0).1 ≤ _
        rw [q, idx_zero]; omega
      · have q3 := (List.mem_filter.1 q1).1
        rw [hcl] at q3
        exact (hin _ q3).2.1
    refine ⟨1 + (k + k'), m', lv', pr', cu2, nx2, by rw [Nat.succ_mul]; omega, ?_, j3, j4, fun g hg1 => ?_, fun r g a b c => ?_, j7, j8⟩
    · refine steps_then 1 (k + k') _ m _ (reach h pr cu nx ps ss (wayI T L m pr h)) _ ?_ (steps_then k k' _ m1 _ _ _ k2 ?_)
      · rw [desc_on (by omega), show ((h + 1 : Nat) : Int) - 1 = (h : Int) by omega, steps_more (k := 0) seekA_1, nextD_1, foundD_yes (by simp)]
        show some (m, seekT L dl sq ⟨1, h, pr, cu, nx, ps, ss⟩ (wayI T L m pr h)) = _
        rw [seekT_1 hev]
      · show steps _ _ k' m1 (desc h (resL T L N lt l h).1 cu' nx' (ps ++ [(resL T L N lt l h).1]) (ss ++ [(resL T L N lt l h).2])) = _
        rw [j2, List.range_succ]
        simp
    · by_cases hgh : g = h
      · subst hgh
        have hsame : ∀ r : Int, idx r ≤ (N : Int) → wayI T L m' r g = wayI T L m1 r g := fun r a => j6 r g a (Nat.le_refl _) hh
        have hc' := chain_cong (m := m') hsame (fun r a b => by rw [j7 r a b, hb1.key r a b]) k4
        have hfm : cl'.filter (freeB T L m' g) = keptL T L N l g := by
          rw [← k5]
          exact List.filter_congr fun c a => by
            unfold freeB
            rw [hsame c (path_in _ _ k4.2.1 c a).2.1]
        have hml : ∀ r : Int, idx r ≤ (N : Int) → wayI T L m r g = wayI T L l r g := fun r a => hb.way r g a (by omega)
        rw [Sought, hcl]
        exact ⟨cl', hc', k7, hfm, by rw [hsame _ hidx]; exact k6, fun r a => by rw [hsame r a, k3.par r a, hml r a], fun r a b => by rw [hsame r a, k3.odd r a (by rw [hml r a]; exact b), hml r a], fun r a b d => by rw [hsame r b, k8 r a b d, hml r b]⟩
      · exact j5 g (by omega)
    · rw [j6 r g a (by omega) c]
      exact k3.off r g a c (by omega)
/-- Done alone. -/
theorem finds_all {T N L n : Nat} {dl sq : Int} (hn : 1544 ≤ n) (hT : T ≤ 8) (hN : N ≤ 64) (hL : L ≤ 8) {l : List Int} (hl : l.length = wordsN T N L) (hf : BM.Fits l) (hg : GoodW T L N l) :
    ∃ m s, alone (seekA T L) (seekT L dl sq) n l (anew L 0 0) = (m, s) ∧ s.st = 0 ∧ s.ps.reverse = (List.range L).map (fun h => (resL T L N (fun c => ltK (keyI T L l c) (dl, sq)) l h).1) ∧ s.ss.reverse = (List.range L).map (fun h => (resL T L N (fun c => ltK (keyI T L l c) (dl, sq)) l h).2) ∧
      m.length = wordsN T N L ∧ BM.Fits m ∧ ∀ g, g < L → wayI T L m (resL T L N (fun c => ltK (keyI T L l c) (dl, sq)) l g).1 g = (resL T L N (fun c => ltK (keyI T L l c) (dl, sq)) l g).2 ∧ keptL T L N m g = keptL T L N l g := by
  obtain ⟨k, m', lv', pr', cu', nx', k1, k2, k3, k4, k5, -⟩ := all_run (Q := 193) (Nat.le_refl _) hT hN hL (dl := dl) (sq := sq) hg (fun c _ _ => rfl) L l 0 0 0 [] [] (Nat.le_refl _) ⟨hl, hf, fun _ _ _ _ => rfl, fun _ _ _ => rfl, fun _ _ => rfl⟩ (fun _ _ => .inl rfl)
  refine ⟨m', _, alone_steps k n _ _ _ _ k2 seekA_0 (by omega), rfl, ?_, ?_, k3, k4, fun g hg => (k5 g hg).finds hN⟩
  · simp [← List.map_reverse]
  · simp [← List.map_reverse]
theorem seek_fits {k : Nat} {T L : Int} {s : St} (h : Ok k s) {d : D} (hd : seekA T L s = some d) : DM.Fits d := by
  obtain ⟨-, -, h3, h4, h5, -, -⟩ := h
  have q1 := MM.next_fits T L (idx s.pr) s.lv
  have q2 := MM.next_fits T L (idx s.cu) s.lv
  have q3 := MM.at_fits T L (idx s.cu) 1
  have q4 := MM.at_fits T L (idx s.cu) 2
  unfold seekA at hd
  unfold DM.Fits
  split at hd
  · cases hd; simp only; omega
  · split at hd
    · cases hd; simp only; omega
    · split at hd
      · cases hd; simp only; omega
      · split at hd
        · cases hd; simp only; omega
        · split at hd
          · cases hd; simp only; omega
          · cases hd
end Go.Proofs.YtchpahkjgpcdjaaGreatDoor.KM

/- A timer that is brought into a chain, in plain lists: behind the last one that is less, ahead of the first one that is not. No program is named. -/
namespace Go.Proofs.YtchpahkjgpcdjaaGreatDoor.KM
set_option maxRecDepth 20000
open DM PM CM BM OM Runs
open Go.RowKit (wrap64)
set_option linter.unusedVariables false
set_option linter.unusedSimpArgs false

def lastD (A : List Int) (p : Int) : Int := A.getLast?.getD p
def headD (B : List Int) : Int := B.head?.getD 0
theorem last_snoc (A : List Int) (p q : Int) : lastD (A ++ [p]) q = p := by simp [lastD]
theorem last_cases (A : List Int) : A = [] ∨ ∃ A' p, A = A' ++ [p] := by
  rcases List.eq_nil_or_concat A with h | ⟨A', p, h⟩
  · exact .inl h
  · exact .inr ⟨A', p, by rw [h, List.concat_eq_append]⟩
theorem find_split (lt : Int → Bool) : ∀ (A : List Int) (p : Int) (B : List Int), (∀ a ∈ A, lt a = true) → (∀ b ∈ B, lt b = false) → findL lt (A ++ B) p = (lastD A p, headD B)
  | [], p, [], _, _ => rfl
  | [], p, b :: B, _, hB => if_neg (by rw [hB b (by simp)]; simp)
  | a :: A, p, B, hA, hB => by
    have e : findL lt (a :: A ++ B) p = findL lt (A ++ B) a := if_pos (hA a (by simp))
    rw [e, find_split lt A a B (fun x hx => hA x (by simp [hx])) hB]
    congr 1
    cases A with
    | nil => rfl
    | cons b A => simp [lastD, List.getLast?_cons]
theorem find_next (lt : Int → Bool) : ∀ (l : List Int) (p : Int), (findL lt l p).2 = 0 ∨ ((findL lt l p).2 ∈ l ∧ lt (findL lt l p).2 = false)
  | [], _ => .inl rfl
  | c :: cs, p => by
    by_cases h : lt c = true
    · have e : findL lt (c :: cs) p = findL lt cs c := if_pos h
      rw [e]
      exact (find_next lt cs c).imp id fun q => ⟨by simp [q.1], q.2⟩
    · have e : findL lt (c :: cs) p = (p, c) := if_neg h
      rw [e]
      exact .inr ⟨by simp, by simpa using h⟩
theorem path_head {nx : Int → Int} {N : Int} : ∀ {cs : List Int} {r : Int}, Path nx N r cs → r = headD cs
  | [], _, h => h
  | _ :: _, _, h => h.1
theorem head_even {nx : Int → Int} {N : Int} {cs : List Int} {r : Int} (h : Path nx N r cs) : r % 2 = 0 := by
  cases cs with
  | nil => rw [show r = 0 from h]; rfl
  | cons c cs => rw [h.1]; exact h.2.1
/-- What is behind the first one that is not less is not less. -/
theorem behind_not {T N L : Nat} {m : List Int} {h : Int} {B : List Int} {sc : Int} {lt : Int → Bool} {K : Key} (hp : Path (fun r => wayI T L m r h) N sc B) (hr : Rises (keyI T L m) B) (hlt : ∀ b ∈ B, ltK (keyI T L m b) K = lt b) (hs : sc = 0 ∨ lt sc = false) : ∀ b ∈ B, lt b = false := by
  cases B with
  | nil => intro b hb; cases hb
  | cons c cs =>
    obtain ⟨rfl, h1, h2, -, -⟩ := hp
    have hc : lt sc = false := hs.elim (fun e => by rw [e, idx_zero] at h2; omega) id
    intro b hb
    rcases List.mem_cons.1 hb with rfl | hb
    · exact hc
    · cases e : lt b with
      | false => rfl
      | true =>
        have h3 := ltK_trans _ _ _ ((List.pairwise_cons.1 hr).1 b hb) (by rw [hlt b (by simp [hb])]; exact e)
        rw [hlt sc (by simp)] at h3
        rw [h3] at hc
        cases hc
/-- A level that was sought: the last one that is less, and the first one that is not, stand side by side. -/
theorem Sought.split {T N L g : Nat} {lt : Int → Bool} {l m : List Int} {K : Key} (h : Sought T N L lt l m g) (hlt : ∀ c : Int, 1 ≤ idx c → idx c ≤ (N : Int) → ltK (keyI T L m c) K = lt c) :
    ∃ A B, Chain T L N m g (A ++ B) ∧ (A ++ B).Sublist (chainI T L N l g).1 ∧ (A ++ B).filter (freeB T L m g) = keptL T L N l g ∧ (∀ a ∈ A, lt a = true) ∧ (∀ b ∈ B, lt b = false) ∧ lastD A 0 = (resL T L N lt l g).1 ∧ headD B = (resL T L N lt l g).2 ∧ wayI T L m (lastD A 0) g = headD B := by
  obtain ⟨cl, h1, h2, h3, h4, -⟩ := h
  have hin := path_in _ _ h1.2.1
  have hw := find_where lt (keptL T L N l g) 0
  have hn := find_next lt (keptL T L N l g) 0
  change (resL T L N lt l g).1 = 0 ∨ ((resL T L N lt l g).1 ∈ _ ∧ lt (resL T L N lt l g).1 = true) at hw
  change (resL T L N lt l g).2 = 0 ∨ ((resL T L N lt l g).2 ∈ _ ∧ lt (resL T L N lt l g).2 = false) at hn
  generalize (resL T L N lt l g).1 = p at h4 hw ⊢
  generalize (resL T L N lt l g).2 = s at h4 hn ⊢
  have hs := hn.imp id And.right
  rcases hw with rfl | ⟨hp, hpl⟩
  · have hq := h1.2.1
    rw [h4] at hq
    have hB := behind_not (lt := lt) (K := K) hq h1.2.2 (fun b hb => hlt b (hin b hb).1 (hin b hb).2.1) hs
    exact ⟨[], cl, h1, h2, h3, fun a ha => (by cases ha), hB, rfl, (path_head hq).symm, by rw [← path_head hq]; exact h4⟩
  · rw [← h3] at hp
    obtain ⟨hpc, hpf⟩ := List.mem_filter.1 hp
    obtain ⟨A, B, rfl⟩ := List.append_of_mem hpc
    have hpath := path_split A _ p B h1.2.1
    have hev : plainI (wayI T L m p g) = s := by
      unfold freeB at hpf
      simp at hpf
      rw [← h4]
      unfold plainI
      omega
    rw [hev] at hpath
    have hr := h1.2.2
    rw [Rises, List.pairwise_append, List.pairwise_cons] at hr
    have hB := behind_not (lt := lt) (K := K) hpath hr.2.1.2 (fun b hb => hlt b (hin b (by simp [hb])).1 (hin b (by simp [hb])).2.1) hs
    have e : (A ++ [p]) ++ B = A ++ p :: B := by simp
    refine ⟨A ++ [p], B, e ▸ h1, e ▸ h2, by rw [e]; exact h3, fun a ha => ?_, hB, last_snoc A p 0, (path_head hpath).symm, by rw [last_snoc, ← path_head hpath]; exact h4⟩
    rw [List.mem_append, List.mem_singleton] at ha
    rcases ha with ha | rfl
    · have h5 := hin a (by simp [ha])
      rw [← hlt a h5.1 h5.2.1]
      refine ltK_trans _ _ _ (hr.2.2 a ha p (by simp)) ?_
      rw [hlt p (hin p (by simp)).1 (hin p (by simp)).2.1]
      exact hpl
    · exact hpl
/-- It hangs there. -/
theorem hang {T N L h : Nat} (hT : T ≤ 8) (hN : N ≤ 64) (hL : L ≤ 8) (hh : h < L) {m A B : List Int} {r : Int} (hm : m.length = wordsN T N L) (hc : Chain T L N m h (A ++ B)) (h1 : 1 ≤ idx r) (h2 : idx r ≤ (N : Int)) (he : r % 2 = 0) (hap : ∀ c ∈ A ++ B, idx c ≠ idx r)
    (hw : wayI T L m r h = headD B) (hp : wayI T L m (lastD A 0) h = headD B) (hA : ∀ a ∈ A, ltK (keyI T L m a) (keyI T L m r) = true) (hB : ∀ b ∈ B, ltK (keyI T L m r) (keyI T L m b) = true) :
    Chain T L N (setI m (nextI T L (idx (lastD A 0)) h) r) h (A ++ r :: B) ∧ (A ++ r :: B).filter (freeB T L (setI m (nextI T L (idx (lastD A 0)) h) r) h) = A.filter (freeB T L m h) ++ r :: B.filter (freeB T L m h) := by
  have hin := path_in _ _ hc.2.1
  have hli : idx (lastD A 0) ≤ (N : Int) ∧ idx r ≠ idx (lastD A 0) ∧ ∀ b ∈ B, idx b ≠ idx (lastD A 0) := by
    rcases last_cases A with rfl | ⟨A', p, rfl⟩
    · have e : lastD [] 0 = 0 := rfl
      rw [e, idx_zero]
      exact ⟨by omega, by omega, fun b hb => by have := (hin b (by simpa using hb)).1; omega⟩
    · rw [last_snoc]
      refine ⟨(hin p (by simp)).2.1, fun e => hap p (by simp) e.symm, fun b hb e => ?_⟩
      have := rises_apart hc.2.2 fun a b e => key_same e
      rw [List.pairwise_append] at this
      exact this.2.2 p (by simp) b hb e.symm
  have hset := fun {x : Int} {g : Nat} (a : idx x ≤ (N : Int)) (b : g < L) => set_way (v := r) hT hN hL hm hli.1 a hh b
  have hkey := fun {x : Int} (a : 1 ≤ idx x) (b : idx x ≤ (N : Int)) => set_key (m := m) (v := r) hT hN hL hli.1 a b hh
  obtain ⟨m', hm'⟩ : ∃ m', m' = setI m (nextI T L (idx (lastD A 0)) h) r := ⟨_, rfl⟩
  rw [← hm'] at hset hkey ⊢
  clear hm'
  have hsame : ∀ x : Int, idx x ≤ (N : Int) → idx x ≠ idx (lastD A 0) → wayI T L m' x h = wayI T L m x h := fun x a b => by rw [hset a hh, if_neg fun q => b q.1]
  have hlast : wayI T L m' (lastD A 0) h = r := by rw [hset hli.1 hh, if_pos ⟨rfl, rfl⟩]
  have hwr : wayI T L m' r h = headD B := by rw [hsame r h2 hli.2.1]; exact hw
  have hpB : Path (fun x => wayI T L m x h) N (headD B) B := by
    rcases last_cases A with rfl | ⟨A', p, rfl⟩
    · have := hc.2.1
      rwa [path_head this] at this
    · have e : (A' ++ [p]) ++ B = A' ++ p :: B := by simp
      have := path_split A' _ p B (e ▸ hc.2.1)
      rwa [path_head this] at this
  have hev := head_even hpB
  have hpB' : Path (fun x => wayI T L m' x h) N (headD B) B := path_cong B _ hpB fun b hb => hsame b (hin b (by simp [hb])).2.1 (hli.2.2 b hb)
  have hpr : Path (fun x => wayI T L m' x h) N r (r :: B) := ⟨rfl, he, h1, h2, by
    show Path _ _ (plainI (wayI T L m' r h)) B
    rw [hwr, show plainI (headD B) = headD B by unfold plainI; omega]
    exact hpB'⟩
  have hfree : ∀ x : Int, idx x ≤ (N : Int) → freeB T L m' h x = freeB T L m h x := fun x a => by
    unfold freeB
    by_cases e : idx x = idx (lastD A 0)
    · rw [way_same (m := m') e, way_same (m := m) e, hlast, hp, he, hev]
    · rw [hsame x a e]
  refine ⟨⟨?_, ?_, ?_⟩, ?_⟩
  · have h0 := hc.1
    by_cases e : idx 0 = idx (lastD A 0)
    · rw [way_same (m := m') e, hlast]; exact he
    · rw [hsame 0 (by rw [idx_zero]; omega) e]; exact h0
  · rcases last_cases A with rfl | ⟨A', p, rfl⟩
    · show Path _ _ (wayI T L m' 0 h) (r :: B)
      rw [show wayI T L m' 0 h = r from hlast]
      exact hpr
    · have e : (A' ++ [p]) ++ r :: B = A' ++ p :: (r :: B) := by simp
      have e2 : (A' ++ [p]) ++ B = A' ++ p :: B := by simp
      rw [last_snoc] at hlast hsame hli
      have hap2 := rises_apart hc.2.2 fun a b e => key_same e
      rw [e2, List.pairwise_append] at hap2
      have h0 : wayI T L m' 0 h = wayI T L m 0 h := hsame 0 (by rw [idx_zero]; omega) (by rw [idx_zero]; have := (hin p (by simp)).1; omega)
      rw [e, h0]
      have hc2 := hc.2.1
      rw [e2] at hc2
      refine path_pre A' _ p B (r :: B) hc2 (fun a ha => hsame a (hin a (by simp [ha])).2.1 (hap2.2.2 a ha p (by simp))) ?_
      show Path _ _ (plainI (wayI T L m' p h)) (r :: B)
      rw [hlast, show plainI r = r by unfold plainI; omega]
      exact hpr
  · have hr := hc.2.2
    rw [Rises, List.pairwise_append] at hr ⊢
    have hkA := fun a (ha : a ∈ A) => hkey (hin a (by simp [ha])).1 (hin a (by simp [ha])).2.1
    have hkB := fun b (hb : b ∈ B) => hkey (hin b (by simp [hb])).1 (hin b (by simp [hb])).2.1
    have hkr := hkey h1 h2
    refine ⟨List.Pairwise.imp_of_mem (fun {a b} ha hb hab => by rw [hkA a ha, hkA b hb]; exact hab) hr.1, List.pairwise_cons.2 ⟨fun b hb => by rw [hkr, hkB b hb]; exact hB b hb, List.Pairwise.imp_of_mem (fun {a b} ha hb hab => by rw [hkB a ha, hkB b hb]; exact hab) hr.2.1⟩, fun a ha b hb => ?_⟩
    rcases List.mem_cons.1 hb with rfl | hb
    · rw [hkA a ha, hkr]; exact hA a ha
    · rw [hkA a ha, hkB b hb]; exact hr.2.2 a ha b hb
  · rw [List.filter_append, List.filter_cons_of_pos (by unfold freeB; rw [hwr, hev]; rfl)]
    congr 1
    · exact List.filter_congr fun a ha => hfree a (hin a (by simp [ha])).2.1
    · congr 1
      exact List.filter_congr fun b hb => hfree b (hin b (by simp [hb])).2.1
end Go.Proofs.YtchpahkjgpcdjaaGreatDoor.KM

/- A linker done alone where all chains rise, and whoever is in one without a mark is so in the one below, in plain lists: a slot that is in none hangs in the lowest one then. No program is named. -/
namespace Go.Proofs.YtchpahkjgpcdjaaGreatDoor.LiM
set_option maxRecDepth 20000
open DM PM CM BM OM KM Runs
open Go.RowKit (wrap64)
set_option linter.unusedVariables false
set_option linter.unusedSimpArgs false

/-! A key is told to a slot's words. -/
theorem at_inj {T L i j a b : Nat} (hi : 1 ≤ i) (hj : 1 ≤ j) (ha : a ≤ 5) (hb : b ≤ 5) (e : atN T L i a = atN T L j b) : i = j ∧ a = b := by
  unfold atN at e
  rcases Nat.lt_trichotomy i j with h1 | h1 | h1
  · have := mul_step (L := L) h1 (by omega); omega
  · subst h1; omega
  · have := mul_step (L := L) h1 (by omega); omega
def toldL (T L : Int) (l : List Int) (i dw sq : Int) : List Int := setI (setI l (atI T L i 1) dw) (atI T L i 2) sq
section
variable {T N L : Nat} {l : List Int} {dw sq r : Int}
theorem told_len (i : Int) : (toldL T L l i dw sq).length = l.length := by unfold toldL; rw [setI_length, setI_length]
theorem told_fits (hf : BM.Fits l) (h1 : Word dw) (h2 : Word sq) (i : Int) : BM.Fits (toldL T L l i dw sq) := fits_set (fits_set hf _ h1) _ h2
theorem told_way (hT : T ≤ 8) (hN : N ≤ 64) (hL : L ≤ 8) (h1 : 1 ≤ idx r) (h2 : idx r ≤ (N : Int)) {x : Int} {g : Nat} (hx : idx x ≤ (N : Int)) (hg : g < L) : wayI T L (toldL T L l (idx r) dw sq) x g = wayI T L l x g := by
  obtain ⟨e, -⟩ := way_nat hT hN hL hx hg
  have a1 := key_nat hT hN hL (a := 1) h1 h2 (by omega)
  have a2 := key_nat hT hN hL (a := 2) h1 h2 (by omega)
  change atI _ _ _ 1 = _ at a1
  change atI _ _ _ 2 = _ at a2
  unfold wayI toldL
  rw [get_other, get_other]
  · rw [e, a1]; intro q; exact next_at (T := T) (i := (idx x).toNat) (j := (idx r).toNat) hg (by omega) (a := 1) (by omega) (by omega)
  · rw [e, a2]; intro q; exact next_at (T := T) (i := (idx x).toNat) (j := (idx r).toNat) hg (by omega) (a := 2) (by omega) (by omega)
theorem told_key (hT : T ≤ 8) (hN : N ≤ 64) (hL : L ≤ 8) (h1 : 1 ≤ idx r) (h2 : idx r ≤ (N : Int)) {x : Int} (g1 : 1 ≤ idx x) (g2 : idx x ≤ (N : Int)) (hn : idx x ≠ idx r) : keyI T L (toldL T L l (idx r) dw sq) x = keyI T L l x := by
  have a1 := key_nat hT hN hL (a := 1) h1 h2 (by omega)
  have a2 := key_nat hT hN hL (a := 2) h1 h2 (by omega)
  have b1 := key_nat hT hN hL (a := 1) g1 g2 (by omega)
  have b2 := key_nat hT hN hL (a := 2) g1 g2 (by omega)
  change atI _ _ _ 1 = _ at a1 b1
  change atI _ _ _ 2 = _ at a2 b2
  have hne : ∀ a b : Nat, a ≤ 5 → b ≤ 5 → atN T L (idx r).toNat a ≠ atN T L (idx x).toNat b := fun a b ha hb q => by
    have := (at_inj (by omega) (by omega) ha hb q).1
    omega
  unfold keyI toldL
  rw [get_other, get_other, get_other, get_other]
  · rw [a1, b2]; intro q; exact hne 1 2 (by omega) (by omega) (by omega)
  · rw [a2, b2]; intro q; exact hne 2 2 (by omega) (by omega) (by omega)
  · rw [a1, b1]; intro q; exact hne 1 1 (by omega) (by omega) (by omega)
  · rw [a2, b1]; intro q; exact hne 2 1 (by omega) (by omega) (by omega)
theorem at_in {T N L i a : Nat} (h1 : 1 ≤ i) (h2 : i ≤ N) (ha : a ≤ 5) : atN T L i a < wordsN T N L := by
  unfold atN wordsN
  have h3 := Nat.mul_le_mul_right (6 + L) h2
  have e : i * (6 + L) = (i - 1) * (6 + L) + (6 + L) := by rw [← Nat.succ_mul]; congr 1; omega
  omega
theorem told_own (hT : T ≤ 8) (hN : N ≤ 64) (hL : L ≤ 8) (hl : l.length = wordsN T N L) (h1 : 1 ≤ idx r) (h2 : idx r ≤ (N : Int)) : keyI T L (toldL T L l (idx r) dw sq) r = (wrap64 dw, sq) := by
  have a1 := key_nat hT hN hL (a := 1) h1 h2 (by omega)
  have a2 := key_nat hT hN hL (a := 2) h1 h2 (by omega)
  change atI _ _ _ 1 = _ at a1
  change atI _ _ _ 2 = _ at a2
  have b1 := at_in (T := T) (N := N) (L := L) (i := (idx r).toNat) (a := 1) (by omega) (by omega) (by omega)
  have b2 := at_in (T := T) (N := N) (L := L) (i := (idx r).toNat) (a := 2) (by omega) (by omega) (by omega)
  unfold keyI toldL
  rw [get_set (by rw [a2]; exact MM.there_in (by rw [setI_length]; exact hl) b2), get_other, get_set (by rw [a1]; exact MM.there_in hl b1)]
  rw [a1, a2]; intro q
  have := (at_inj (T := T) (L := L) (i := (idx r).toNat) (j := (idx r).toNat) (a := 2) (b := 1) (by omega) (by omega) (by omega) (by omega) (by omega)).2
  omega
end
/-- A chain of which no member's key was turned. -/
theorem chain_on {T N L h : Nat} {l m cl : List Int} (hw : ∀ r : Int, idx r ≤ (N : Int) → wayI T L m r h = wayI T L l r h) (hk : ∀ c ∈ cl, keyI T L m c = keyI T L l c) (hc : Chain T L N l h cl) : Chain T L N m h cl := by
  obtain ⟨he, hp, hr⟩ := hc
  have hin := path_in _ _ hp
  have h0 := hw 0 (by rw [idx_zero]; omega)
  refine ⟨by rw [h0]; exact he, ?_, List.Pairwise.imp_of_mem (fun {a b} ha hb hab => by rw [hk a ha, hk b hb]; exact hab) hr⟩
  rw [h0]
  exact path_cong cl _ hp fun c hc => hw c (hin c hc).2.1
/-- Words of which no way on, and no member's key, was turned: all chains are as they were. -/
theorem chains_on {T N L : Nat} {l m : List Int} (hN : N ≤ 64) (hg : GoodW T L N l) (hw : ∀ (r : Int) (h : Nat), idx r ≤ (N : Int) → h < L → wayI T L m r h = wayI T L l r h) (hk : ∀ h : Nat, h < L → ∀ c ∈ (chainI T L N l h).1, keyI T L m c = keyI T L l c) :
    GoodW T L N m ∧ ∀ h : Nat, h < L → chainI T L N m h = chainI T L N l h ∧ keptL T L N m h = keptL T L N l h := by
  have hfr : ∀ (c : Int) (h : Nat), idx c ≤ (N : Int) → h < L → freeB T L m h c = freeB T L l h c := fun c h a b => by unfold freeB; rw [hw c h a b]
  have hch : ∀ h : Nat, h < L → ∃ cl, chainI T L N l h = (cl, true) ∧ chainI T L N m h = (cl, true) ∧ ∀ c ∈ cl, idx c ≤ (N : Int) := fun h hh => by
    obtain ⟨cl, e⟩ := pair_yes (hg h (by omega)).1
    have hk := hk h hh
    rw [e] at hk
    exact ⟨cl, e, chain_is hN (chain_on (fun r a => hw r h a hh) hk (chain_of e)), fun c hc => (path_in _ _ (chain_of e).2.1 c hc).2.1⟩
  refine ⟨fun h hh => ?_, fun h hh => ?_⟩
  · have hh : h < L := by omega
    obtain ⟨cl, e, e2, hin⟩ := hch h hh
    have h1 := hg h (by omega)
    rw [e] at h1
    rw [e2]
    refine ⟨rfl, fun g hg r hr hf => ?_⟩
    obtain ⟨cg, eg, eg2, hing⟩ := hch g (by omega)
    rw [hfr r h (hin r hr) hh] at hf
    obtain ⟨k1, k2⟩ := h1.2 g hg r hr hf
    rw [eg] at k1
    rw [eg2, hfr r g (hing r k1) (by omega)]
    exact ⟨k1, k2⟩
  · obtain ⟨cl, e, e2, hin⟩ := hch h hh
    refine ⟨by rw [e, e2], ?_⟩
    unfold keptL
    rw [e, e2]
    exact List.filter_congr fun c hc => hfr c h (hin c hc) hh

/-! The steps. -/
theorem seekT_st {T L dl sq f : Int} {s : KM.St} (h : (seekA T L s).isSome = true) : (seekT L dl sq s f).st = 0 ∨ (seekA T L (seekT L dl sq s f)).isSome = true := by
  have hd : ∀ lv pr cu nx ps ss, (desc lv pr cu nx ps ss).st = 0 ∨ (seekA T L (desc lv pr cu nx ps ss)).isSome = true := fun lv pr cu nx ps ss => by
    unfold desc
    split
    · exact .inl rfl
    · exact .inr (by rw [seekA_1]; rfl)
  have hr : ∀ lv pr cu nx ps ss r, (reach lv pr cu nx ps ss r).st = 0 ∨ (seekA T L (reach lv pr cu nx ps ss r)).isSome = true := fun lv pr cu nx ps ss r => by
    unfold reach
    split
    · exact hd _ _ _ _ _ _
    · exact .inr (by rw [seekA_2]; rfl)
  have hp : ∀ lv pr cu nx ps ss b, (pass lv pr cu nx ps ss b).st = 0 ∨ (seekA T L (pass lv pr cu nx ps ss b)).isSome = true := fun lv pr cu nx ps ss b => by
    unfold pass
    split
    · exact hr _ _ _ _ _ _ _
    · exact hd _ _ _ _ _ _
  unfold seekT
  split
  · split
    · exact hd _ _ _ _ _ _
    · exact hr _ _ _ _ _ _ _
  · split
    · right
      split
      · rw [seekA_3]; rfl
      · rw [seekA_4]; rfl
    · split
      · split
        · exact hr _ _ _ _ _ _ _
        · exact hd _ _ _ _ _ _
      · split
        · split
          · exact .inr (by rw [seekA_5]; rfl)
          · exact hp _ _ _ _ _ _ _
        · split
          · exact hp _ _ _ _ _ _ _
          · exact .inr h
theorem seek_isSome {T L : Int} {s : KM.St} (h : s.st = 0) : seekA T L s = none := by simp [seekA, h]
theorem link_leads {T L r dl sq tall lv : Int} : Leads (linkA T L r) (linkT L dl sq tall) (seekA T L) (seekT L dl sq) (fun t => ⟨1, lv, t, [], []⟩) (fun t => goOn tall L t t.ps.reverse t.ss.reverse 0) := by
  intro t d hd
  refine ⟨by rw [linkA_1]; exact hd, fun f => ?_⟩
  rw [linkT_1]
  rcases seekT_st (dl := dl) (sq := sq) (f := f) (show (seekA T L t).isSome = true by rw [hd]; rfl) with h | h
  · rw [keep_done h, seek_isSome h]
    rfl
  · rw [if_pos h, keep_more]
    intro h0
    rw [seek_isSome h0] at h
    cases h
/-- Its ways on are stored up to a level. -/
structure Laid (T N L : Nat) (r : Int) (S : Nat → Int) (i : Nat) (m1 m : List Int) : Prop where
  len : m.length = wordsN T N L
  fit : BM.Fits m
  way : ∀ (x : Int) (g : Nat), idx x ≤ (N : Int) → g < L → idx x ≠ idx r → wayI T L m x g = wayI T L m1 x g
  own : ∀ g : Nat, g < i → wayI T L m r g = S g
  rest : ∀ g : Nat, i ≤ g → g < L → wayI T L m r g = wayI T L m1 r g
  key : ∀ x : Int, 1 ≤ idx x → idx x ≤ (N : Int) → keyI T L m x = keyI T L m1 x
  oth : ∀ i : Int, (∀ (r : Int) (g : Nat), idx r ≤ (N : Int) → g < L → i ≠ nextI T L (idx r) g) → getI m i = getI m1 i
theorem lay_run {T N L : Nat} {r dl sq tall : Int} (hT : T ≤ 8) (hN : N ≤ 64) (hL : L ≤ 8) (h2 : idx r ≤ (N : Int)) {sk : KM.St} {ps ss m1 : List Int} {S : Nat → Int} (hS : ∀ g : Nat, g < L → ss.getD g 0 = S g ∧ Word (S g)) {n : Nat} (hn : (n : Int) = min tall (L : Int)) :
    ∀ (j i : Nat) (m : List Int), i + j = n → Laid T N L r S i m1 m → ∃ m', steps (linkA T L r) (linkT L dl sq tall) j m (goOn tall L sk ps ss i) = some (m', ⟨3, n, sk, ps, ss⟩) ∧ Laid T N L r S n m1 m'
  | 0, i, m, e, h => by
    obtain rfl : i = n := e
    exact ⟨m, by rw [goOn_end (by omega)]; rfl, h⟩
  | j + 1, i, m, e, h => by
    have hi : i < L := by omega
    obtain ⟨s1, s2⟩ := hS i hi
    have hset := fun {x : Int} {g : Nat} (a : idx x ≤ (N : Int)) (b : g < L) => set_way (v := S i) hT hN hL h.len h2 a hi b
    have hs : Laid T N L r S (i + 1) m1 (setI m (nextI T L (idx r) i) (S i)) :=
      ⟨by rw [setI_length]; exact h.len, fits_set h.fit _ s2, fun x g a b c => by rw [hset a b, if_neg fun q => c q.1]; exact h.way x g a b c, fun g a => by
        rw [hset h2 (by omega)]
        by_cases e : g = i
        · rw [if_pos ⟨rfl, e⟩, e]
        · rw [if_neg fun q => e q.2]
          exact h.own g (by omega), fun g a b => by rw [hset h2 b, if_neg fun q => by omega]; exact h.rest g (by omega) b,
        fun x a b => by rw [set_key hT hN hL h2 a b hi]; exact h.key x a b, fun k hk => by rw [get_other (Ne.symm (hk r i h2 hi))]; exact h.oth k hk⟩
    obtain ⟨m', k1, k2⟩ := lay_run hT hN hL h2 (dl := dl) (sq := sq) (tall := tall) (sk := sk) (ps := ps) (ss := ss) hS hn j (i + 1) _ (by omega) hs
    refine ⟨m', ?_, k2⟩
    rw [goOn_on (by omega), steps_more (k := j) linkA_2, nextD_2, linkT_2, Int.toNat_natCast, s1]
    exact k1
/-- What is so behind it. -/
structure Linked (T N L : Nat) (l m : List Int) (r tall : Int) (P S : Nat → Int) : Prop where
  len : m.length = wordsN T N L
  fit : BM.Fits m
  key : ∀ x : Int, 1 ≤ idx x → idx x ≤ (N : Int) → keyI T L m x = keyI T L l x
  low : ∃ A B fr, Chain T L N m 0 (A ++ r :: B) ∧ (A ++ r :: B).filter (freeB T L m 0) = A.filter fr ++ r :: B.filter fr ∧ keptL T L N l 0 = A.filter fr ++ B.filter fr
  high : ∀ g : Nat, 1 ≤ g → g < L → ∃ cl, Chain T L N m g cl ∧ cl.Sublist (chainI T L N l g).1 ∧ cl.filter (freeB T L m g) = keptL T L N l g ∧ wayI T L m (P g) g = S g
  own : ∀ g : Nat, g < L → (g : Int) < tall → wayI T L m r g = S g
  oth : ∀ i : Int, (∀ (r : Int) (g : Nat), idx r ≤ (N : Int) → g < L → i ≠ nextI T L (idx r) g) → getI m i = getI l i
theorem res_word {T N L g : Nat} {lt : Int → Bool} {l : List Int} (hk : ∀ c ∈ keptL T L N l g, Word c) : Word (resL T L N lt l g).1 ∧ Word (resL T L N lt l g).2 := by
  constructor
  · rcases find_where lt (keptL T L N l g) 0 with h | ⟨h, -⟩
    · show Word (findL lt (keptL T L N l g) 0).1
      rw [h]; exact ⟨by decide, by decide⟩
    · exact hk _ h
  · rcases find_next lt (keptL T L N l g) 0 with h | ⟨h, -⟩
    · show Word (findL lt (keptL T L N l g) 0).2
      rw [h]; exact ⟨by decide, by decide⟩
    · exact hk _ h
theorem map_getD {f : Nat → Int} {L g : Nat} (h : g < L) : ((List.range L).map f).getD g 0 = f g := by
  rw [List.getD_eq_getElem?_getD, List.getElem?_map, List.getElem?_range h]
  rfl
theorem link_run {T N L : Nat} {r dl sq tall : Int} (hT : T ≤ 8) (hN : N ≤ 64) (hL : L ≤ 8) (hL1 : 1 ≤ L) {l : List Int} (hl : l.length = wordsN T N L) (hf : BM.Fits l) (hg : GoodW T L N l) (hkw : ∀ g : Nat, ∀ c ∈ keptL T L N l g, Word c) (hr : Word r) (h1 : 1 ≤ idx r) (h2 : idx r ≤ (N : Int)) (he : r % 2 = 0) (ht : 1 ≤ tall)
    (hap : ∀ h : Nat, h < L → ∀ c ∈ (chainI T L N l h).1, idx c ≠ idx r ∧ keyI T L l c ≠ (dl, sq)) (hkey : keyI T L l r = (dl, sq)) (lv : Int) :
    ∃ k m sk, k ≤ 1600 ∧ steps (linkA T L r) (linkT L dl sq tall) k l (begin L lv) = some (m, ⟨0, min tall L, sk, (List.range L).map fun h => (resL T L N (fun c => ltK (keyI T L l c) (dl, sq)) l h).1, (List.range L).map fun h => (resL T L N (fun c => ltK (keyI T L l c) (dl, sq)) l h).2⟩) ∧
      Linked T N L l m r tall (fun h => (resL T L N (fun c => ltK (keyI T L l c) (dl, sq)) l h).1) (fun h => (resL T L N (fun c => ltK (keyI T L l c) (dl, sq)) l h).2) := by
  obtain ⟨lt, hlt⟩ : ∃ lt : Int → Bool, lt = fun c => ltK (keyI T L l c) (dl, sq) := ⟨_, rfl⟩
  rw [← hlt]
  have hltk : ∀ c : Int, ltK (keyI T L l c) (dl, sq) = lt c := fun c => by rw [hlt]
  obtain ⟨k1, m1, lv', pr', cu', nx', q1, q2, q3, q4, q5, -, q7, q8⟩ := all_run (Q := 193) (Nat.le_refl _) hT hN hL (dl := dl) (sq := sq) (lt := lt) hg (fun c _ _ => hltk c) L l 0 0 0 [] [] (Nat.le_refl _) ⟨hl, hf, fun _ _ _ _ => rfl, fun _ _ _ => rfl, fun _ _ => rfl⟩ (fun _ _ => .inl rfl)
  clear hlt
  change steps _ _ k1 l (anew L 0 0) = _ at q2
  rw [List.nil_append, List.nil_append] at q2
  obtain ⟨P, hP⟩ : ∃ P : Nat → Int, P = fun h => (resL T L N lt l h).1 := ⟨_, rfl⟩
  obtain ⟨S, hS⟩ : ∃ S : Nat → Int, S = fun h => (resL T L N lt l h).2 := ⟨_, rfl⟩
  rw [← hP, ← hS] at q2 ⊢
  have hP' : ∀ g, (resL T L N lt l g).1 = P g := fun g => by rw [hP]
  have hS' : ∀ g, (resL T L N lt l g).2 = S g := fun g => by rw [hS]
  have hword : ∀ g, Word (P g) ∧ Word (S g) := fun g => by rw [← hP', ← hS']; exact res_word (hkw g)
  obtain ⟨sk, hsk⟩ : ∃ sk : KM.St, sk = ⟨0, lv', pr', cu', nx', (List.range L).reverse.map P, (List.range L).reverse.map S⟩ := ⟨_, rfl⟩
  rw [← hsk] at q2
  have hps : sk.ps.reverse = (List.range L).map P := by rw [hsk]; simp [← List.map_reverse]
  have hss : sk.ss.reverse = (List.range L).map S := by rw [hsk]; simp [← List.map_reverse]
  have hst : seekA T L sk = none := seek_isSome (by rw [hsk])
  clear hsk hP hS
  -- the stores
  obtain ⟨n, hn⟩ : ∃ n : Nat, (n : Int) = min tall (L : Int) := ⟨(min tall (L : Int)).toNat, by omega⟩
  obtain ⟨m2, s1, s2⟩ := lay_run hT hN hL h2 (dl := dl) (sq := sq) (tall := tall) (sk := sk) (ps := (List.range L).map P) (ss := (List.range L).map S) (m1 := m1) (S := S) (fun g a => ⟨map_getD a, (hword g).2⟩) hn n 0 m1 (by omega) ⟨q3, q4, fun _ _ _ _ _ => rfl, fun g a => by omega, fun _ _ _ => rfl, fun _ _ _ => rfl, fun _ _ => rfl⟩
  -- the chains behind the stores
  have hkm : ∀ c : Int, 1 ≤ idx c → idx c ≤ (N : Int) → keyI T L m2 c = keyI T L l c := fun c a b => by rw [s2.key c a b, q7 c a b]
  have hmem : ∀ g : Nat, g < L → ∀ c ∈ (chainI T L N l g).1, 1 ≤ idx c ∧ idx c ≤ (N : Int) := fun g a c hc => by
    obtain ⟨cl, e⟩ := pair_yes (hg g (by omega)).1
    rw [e] at hc
    have := path_in _ _ (chain_of e).2.1 c hc
    exact ⟨this.1, this.2.1⟩
  have hsplit := fun (g : Nat) (a : g < L) => (q5 g a).split (K := (dl, sq)) (fun c x y => by rw [q7 c x y]; exact hltk c)
  -- the same chains, of the words behind the stores
  have hch2 : ∀ (g : Nat) (cl : List Int), g < L → Chain T L N m1 g cl → cl.Sublist (chainI T L N l g).1 → Chain T L N m2 g cl ∧ cl.filter (freeB T L m2 g) = cl.filter (freeB T L m1 g) := fun g cl a hc hs => by
    have hne : ∀ c ∈ cl, idx c ≠ idx r := fun c hc => (hap g a c (hs.subset hc)).1
    have hin := path_in _ _ hc.2.1
    have hw0 : wayI T L m2 0 g = wayI T L m1 0 g := s2.way 0 g (by rw [idx_zero]; omega) a (by rw [idx_zero]; omega)
    refine ⟨⟨by rw [hw0]; exact hc.1, by rw [hw0]; exact path_cong cl _ hc.2.1 fun c hc => s2.way c g (hin c hc).2.1 a (hne c hc), List.Pairwise.imp_of_mem (fun {x y} hx hy hxy => by rw [s2.key x (hin x hx).1 (hin x hx).2.1, s2.key y (hin y hy).1 (hin y hy).2.1]; exact hxy) hc.2.2⟩, ?_⟩
    exact List.filter_congr fun c hc => by unfold freeB; rw [s2.way c g (hin c hc).2.1 a (hne c hc)]
  obtain ⟨A, B, c1, c2, c3, c4, c5, c6, c7, c8⟩ := hsplit 0 hL1
  rw [hP'] at c6
  rw [hS'] at c7
  obtain ⟨d1, d2⟩ := hch2 0 _ hL1 c1 c2
  have hin := path_in _ _ c1.2.1
  have hP0 : idx (P 0) ≤ (N : Int) ∧ idx (P 0) ≠ idx r := by
    rw [← c6]
    rcases last_cases A with rfl | ⟨A', p, rfl⟩
    · exact ⟨by show idx 0 ≤ _; rw [idx_zero]; omega, by show idx 0 ≠ _; rw [idx_zero]; omega⟩
    · rw [last_snoc]
      exact ⟨(hin p (by simp)).2.1, (hap 0 hL1 p (c2.subset (by simp))).1⟩
  have hway0 : wayI T L m2 (P 0) 0 = S 0 := by
    refine (s2.way (P 0) 0 hP0.1 hL1 hP0.2).trans ?_
    rw [← c6, ← c7]; exact c8
  have hrk : keyI T L m2 r = (dl, sq) := by rw [hkm r h1 h2]; exact hkey
  have hhang := hang (r := r) hT hN hL hL1 s2.len d1 h1 h2 he (fun c hc => (hap 0 hL1 c (c2.subset hc)).1) (by rw [c7]; exact s2.own 0 (by omega)) (by rw [c6, c7]; exact hway0)
    (fun a ha => by
      have h5 := hin a (by simp [ha])
      rw [hrk, hkm a h5.1 h5.2.1, hltk]
      exact c4 a ha)
    (fun b hb => by
      have h5 := hin b (by simp [hb])
      rw [hrk, hkm b h5.1 h5.2.1]
      have h6 := c5 b hb
      rw [← hltk] at h6
      rcases cmpK_cases (keyI T L l b) (dl, sq) with ⟨h7, -⟩ | ⟨-, h7, -⟩ | ⟨h7, -⟩
      · rw [h6] at h7; cases h7
      · exact h7
      · exact absurd h7 (hap 0 hL1 b (c2.subset (by simp [hb]))).2)
  rw [c6] at hhang
  obtain ⟨z1, z2⟩ := hhang
  have hset := fun {x : Int} {g : Nat} (a : idx x ≤ (N : Int)) (b : g < L) => set_way (v := r) hT hN hL s2.len hP0.1 a hL1 b
  refine ⟨k1 + (n + 1), setI m2 (nextI T L (idx (P 0)) (0 : Nat)) r, sk, by omega, ?_, ⟨by rw [setI_length]; exact s2.len, fits_set s2.fit _ hr, fun x a b => by rw [set_key hT hN hL hP0.1 a b hL1]; exact hkm x a b, ⟨A, B, freeB T L m2 0, z1, z2, ?_⟩, fun g a b => ?_, fun g a b => ?_, fun i hi => ?_⟩⟩
  · refine (steps_lead (link_leads (r := r) (tall := tall) (lv := lv)) k1 (n + 1) l m1 (anew L 0 0) sk (1, nextI T L (idx 0) (L - 1), 0, 0, 0) ?_ q2 hst).trans ?_
    · unfold anew
      rw [desc_on (by omega), seekA_1]
    · rw [hps, hss]
      refine steps_then n 1 m1 m2 _ _ _ s1 ?_
      rw [steps_more (k := 0) linkA_3, nextD_3, foundD_yes (by simp)]
      have e1 : ((List.range L).map P).getD 0 0 = P 0 := map_getD hL1
      have e2 : ((List.range L).map S).getD 0 0 = S 0 := map_getD hL1
      have e3 : getI m2 (nextI T L (idx (P 0)) 0) = S 0 := hway0
      rw [linkT_3 (by show getI m2 (nextI T L (idx (((List.range L).map P).getD 0 0)) 0) = _; rw [e1, e2]; exact e3), e1, e2, ← e3, MM.swap_is, hn]
      rfl
  · have h5 := d2.trans c3
    rw [List.filter_append] at h5
    exact h5.symm
  · obtain ⟨A', B', g1, g2, g3, -, -, g6, g7, g8⟩ := hsplit g b
    obtain ⟨f1, f2⟩ := hch2 g _ b g1 g2
    have hw : ∀ x : Int, idx x ≤ (N : Int) → wayI T L (setI m2 (nextI T L (idx (P 0)) (0 : Nat)) r) x g = wayI T L m2 x g := fun x c => by rw [hset c b, if_neg fun q => by omega]
    have hing := path_in _ _ f1.2.1
    rw [hP'] at g6
    rw [hS'] at g7
    refine ⟨A' ++ B', chain_on hw (fun c hc => set_key hT hN hL hP0.1 (hing c hc).1 (hing c hc).2.1 hL1) f1, g2, ?_, ?_⟩
    · rw [← g3, ← f2]
      exact List.filter_congr fun c hc => by unfold freeB; rw [hw c (hing c hc).2.1]
    · rw [← g6, ← g7, ← g8]
      have hla : idx (lastD A' 0) ≤ (N : Int) ∧ idx (lastD A' 0) ≠ idx r := by
        rcases last_cases A' with rfl | ⟨A2, p, rfl⟩
        · exact ⟨by show idx 0 ≤ _; rw [idx_zero]; omega, by show idx 0 ≠ _; rw [idx_zero]; omega⟩
        · rw [last_snoc]
          exact ⟨(hing p (by simp)).2.1, (hap g b p (g2.subset (by simp))).1⟩
      rw [hw _ hla.1, s2.way _ g hla.1 b hla.2]
  · rw [hset h2 a, if_neg fun q => hP0.2 q.1.symm]
    exact s2.own g (by omega)
  · rw [get_other (Ne.symm (hi (P 0) 0 hP0.1 hL1)), s2.oth i hi, q8 i hi]
end Go.Proofs.YtchpahkjgpcdjaaGreatDoor.LiM

/- A lifter done alone where all chains rise, and whoever is in one without a mark is so in the one below, in plain lists: a timer that is in the lowest one alone is in those of all levels below its height then. No program is named. -/
namespace Go.Proofs.YtchpahkjgpcdjaaGreatDoor.LfM
set_option maxRecDepth 20000
open DM PM CM BM OM KM Runs
open LiM (seek_isSome seekT_st map_getD res_word)
open Go.RowKit (wrap64)
set_option linter.unusedVariables false
set_option linter.unusedSimpArgs false

/-! Chains of which just what stands in them counts. -/
theorem chain_off {T N L h : Nat} {l m cl : List Int} (h0 : wayI T L m 0 h = wayI T L l 0 h) (hw : ∀ c ∈ cl, wayI T L m c h = wayI T L l c h) (hk : ∀ c ∈ cl, keyI T L m c = keyI T L l c) (hc : Chain T L N l h cl) : Chain T L N m h cl ∧ cl.filter (freeB T L m h) = cl.filter (freeB T L l h) := by
  obtain ⟨he, hp, hr⟩ := hc
  refine ⟨⟨by rw [h0]; exact he, by rw [h0]; exact path_cong cl _ hp fun c hc => hw c hc, List.Pairwise.imp_of_mem (fun {a b} ha hb hab => by rw [hk a ha, hk b hb]; exact hab) hr⟩, ?_⟩
  exact List.filter_congr fun c hc => by unfold freeB; rw [hw c hc]
theorem good_chain {T N L : Nat} {l : List Int} (hg : GoodW T L N l) {g : Nat} (h : g < L) : ∃ cl, chainI T L N l g = (cl, true) ∧ Chain T L N l g cl ∧ keptL T L N l g = cl.filter (freeB T L l g) ∧ ∀ c ∈ cl, 1 ≤ idx c ∧ idx c ≤ (N : Int) ∧ c % 2 = 0 := by
  obtain ⟨cl, e⟩ := pair_yes (hg g (by omega)).1
  have hc := chain_of e
  exact ⟨cl, e, hc, by unfold keptL; rw [e], path_in _ _ hc.2.1⟩
theorem good_kept {T N L : Nat} {l : List Int} (hg : GoodW T L N l) {g : Nat} (h : g + 1 < L) {x : Int} (hx : x ∈ keptL T L N l (g + 1 : Nat)) : x ∈ keptL T L N l g := by
  have h1 := List.mem_filter.1 hx
  have h2 := (hg (g + 1) (by omega)).2 g rfl x h1.1 h1.2
  exact List.mem_filter.2 h2
theorem good_low {T N L : Nat} {l : List Int} (hg : GoodW T L N l) {x : Int} : ∀ {g : Nat}, g < L → x ∈ keptL T L N l g → x ∈ keptL T L N l (0 : Nat)
  | 0, _, hx => hx
  | g + 1, h, hx => good_low hg (g := g) (by omega) (good_kept hg h hx)
/-- All chains, told one by one. -/
theorem good_of {T N L : Nat} {m : List Int} (hN : N ≤ 64) (hc : ∀ g : Nat, g < L → ∃ cl, Chain T L N m g cl) (hk : ∀ g : Nat, g + 1 < L → ∀ x ∈ keptL T L N m (g + 1 : Nat), x ∈ keptL T L N m g) : GoodW T L N m := by
  intro h hh
  obtain ⟨cl, e⟩ := hc h (by omega)
  refine ⟨by rw [chain_is hN e], fun g hg r hr hf => ?_⟩
  subst hg
  have h1 := hk g (by omega) r (List.mem_filter.2 ⟨hr, hf⟩)
  exact List.mem_filter.1 h1
theorem rises_ne {key : Int → Key} {l : List Int} (h : Rises key l) {a b : Int} (ha : a ∈ l) (hb : b ∈ l) (hn : a ≠ b) : key a ≠ key b := by
  obtain ⟨i, hi, ea⟩ := List.getElem_of_mem ha
  obtain ⟨j, hj, eb⟩ := List.getElem_of_mem hb
  intro e
  have hp := List.pairwise_iff_getElem.1 h
  rcases Nat.lt_trichotomy i j with q | q | q
  · have := hp i j hi hj q
    rw [ea, eb, e, ltK_irrefl] at this
    cases this
  · subst q
    exact hn (ea.symm.trans eb)
  · have := hp j i hj hi q
    rw [ea, eb, e, ltK_irrefl] at this
    cases this

/-! The higher ways on of a slot are none. -/
def zeroL (T L i : Int) (l : List Int) : Nat → List Int
  | 0 => l
  | k + 1 => setI (zeroL T L i l k) (nextI T L i ((k + 1 : Nat) : Int)) 0
section
variable {T N L : Nat} {l : List Int} {r : Int}
theorem zero_len : ∀ k, (zeroL T L (idx r) l k).length = l.length
  | 0 => rfl
  | k + 1 => by unfold zeroL; rw [setI_length]; exact zero_len k
theorem zero_fits (hf : BM.Fits l) : ∀ k, BM.Fits (zeroL T L (idx r) l k)
  | 0 => hf
  | k + 1 => by unfold zeroL; exact fits_set (zero_fits hf k) _ (by omega)
theorem zero_way (hT : T ≤ 8) (hN : N ≤ 64) (hL : L ≤ 8) (hl : l.length = wordsN T N L) (h2 : idx r ≤ (N : Int)) {x : Int} {g : Nat} (hx : idx x ≤ (N : Int)) (hg : g < L) : ∀ k, k < L → wayI T L (zeroL T L (idx r) l k) x g = if idx x = idx r ∧ 1 ≤ g ∧ g ≤ k then 0 else wayI T L l x g
  | 0, _ => by rw [if_neg (by omega)]; rfl
  | k + 1, hk => by
    unfold zeroL
    rw [set_way hT hN hL ((zero_len k).trans hl) h2 hx hk hg, zero_way hT hN hL hl h2 hx hg k (by omega)]
    by_cases e : idx x = idx r
    · by_cases q : g = k + 1
      · rw [if_pos ⟨e, q⟩, if_pos ⟨e, by omega, by omega⟩]
      · rw [if_neg fun z => q z.2]
        by_cases z : 1 ≤ g ∧ g ≤ k
        · rw [if_pos ⟨e, z⟩, if_pos ⟨e, by omega, by omega⟩]
        · rw [if_neg fun y => z y.2, if_neg fun y => z ⟨y.2.1, by omega⟩]
    · rw [if_neg fun z => e z.1, if_neg fun z => e z.1, if_neg fun z => e z.1]
theorem zero_key (hT : T ≤ 8) (hN : N ≤ 64) (hL : L ≤ 8) (h2 : idx r ≤ (N : Int)) {x : Int} (g1 : 1 ≤ idx x) (g2 : idx x ≤ (N : Int)) : ∀ k, k < L → keyI T L (zeroL T L (idx r) l k) x = keyI T L l x
  | 0, _ => rfl
  | k + 1, hk => by
    unfold zeroL
    rw [set_key hT hN hL h2 g1 g2 hk]
    exact zero_key hT hN hL h2 g1 g2 k (by omega)
theorem zero_oth (h2 : idx r ≤ (N : Int)) {i : Int} (hi : ∀ (x : Int) (g : Nat), idx x ≤ (N : Int) → g < L → i ≠ nextI T L (idx x) g) : ∀ k, k < L → getI (zeroL T L (idx r) l k) i = getI l i
  | 0, _ => rfl
  | k + 1, hk => by
    unfold zeroL
    rw [get_other (Ne.symm (hi r (k + 1) h2 hk))]
    exact zero_oth h2 hi k (by omega)
end

/-! Amid the rise. -/
/-- A timer is in the chains below a level, and in none from there on; all else is as it was. -/
structure Up (T N L : Nat) (l : List Int) (r : Int) (h : Nat) (m : List Int) : Prop where
  len : m.length = wordsN T N L
  fit : BM.Fits m
  key : ∀ x : Int, 1 ≤ idx x → idx x ≤ (N : Int) → keyI T L m x = keyI T L l x
  low : ∀ g : Nat, g < h → g < L → r ∈ keptL T L N m g ∧ ∀ x ∈ keptL T L N l g, x ∈ keptL T L N m g
  high : ∀ g : Nat, h ≤ g → g < L → ∃ cl, Chain T L N m g cl ∧ cl.Sublist (chainI T L N l g).1 ∧ cl.filter (freeB T L m g) = keptL T L N l g
  good : GoodW T L N m
  own : ∀ g : Nat, h ≤ g → g < L → wayI T L m r g % 2 = 0
  kept : keptL T L N m (0 : Nat) = keptL T L N l (0 : Nat)
  oth : ∀ i : Int, (∀ (x : Int) (g : Nat), idx x ≤ (N : Int) → g < L → i ≠ nextI T L (idx x) g) → getI m i = getI l i
section
variable {T N L : Nat} {l m m' : List Int} {r : Int} {h : Nat}
theorem Up.res (hN : N ≤ 64) (hu : Up T N L l r h m) {lt : Int → Bool} {g : Nat} (a : h ≤ g) (b : g < L) : keptL T L N m g = keptL T L N l g ∧ resL T L N lt m g = resL T L N lt l g := by
  obtain ⟨cl, h1, -, h3⟩ := hu.high g a b
  have h4 := (kept_of hN h1).trans h3
  exact ⟨h4, by unfold resL; rw [h4]⟩
/-- What is sought keeps it so. -/
theorem Up.sought (hN : N ≤ 64) (hu : Up T N L l r h m) {lt : Int → Bool} (h2 : idx r ≤ (N : Int)) (hl : m'.length = wordsN T N L) (hf : BM.Fits m') (hs : ∀ g : Nat, g < L → Sought T N L lt m m' g) (hk : ∀ x : Int, 1 ≤ idx x → idx x ≤ (N : Int) → keyI T L m' x = keyI T L m x) (ho : ∀ i : Int, (∀ (x : Int) (g : Nat), idx x ≤ (N : Int) → g < L → i ≠ nextI T L (idx x) g) → getI m' i = getI m i) (h1 : 1 ≤ L) : Up T N L l r h m' := by
  have hkp : ∀ g : Nat, g < L → keptL T L N m' g = keptL T L N m g := fun g a => ((hs g a).finds hN).2
  refine ⟨hl, hf, fun x a b => (hk x a b).trans (hu.key x a b), fun g a b => ?_, fun g a b => ?_, good_of hN (fun g a => ?_) (fun g a x hx => ?_), fun g a b => ?_, (hkp 0 h1).trans hu.kept, fun i hi => (ho i hi).trans (hu.oth i hi)⟩
  · rw [hkp g b]
    exact hu.low g a b
  · obtain ⟨cl, c1, c2, c3, -⟩ := hs g b
    obtain ⟨cm, d1, d2, d3⟩ := hu.high g a b
    rw [chain_is hN d1] at c2
    exact ⟨cl, c1, c2.trans d2, by rw [c3, (hu.res hN (lt := lt) a b).1]⟩
  · obtain ⟨cl, c1, -⟩ := hs g a
    exact ⟨cl, c1⟩
  · rw [hkp (g + 1) a] at hx
    rw [hkp g (by omega)]
    exact good_kept hu.good a hx
  · obtain ⟨cl, -, -, -, -, c5, -⟩ := hs g b
    rw [c5 r h2]
    exact hu.own g a b
/-- Its own way on is turned, where it is in no chain. -/
theorem Up.led (hT : T ≤ 8) (hN : N ≤ 64) (hL : L ≤ 8) (hu : Up T N L l r h m) (h1 : 1 ≤ idx r) (h2 : idx r ≤ (N : Int)) (hap : ∀ g : Nat, h ≤ g → g < L → ∀ c ∈ (chainI T L N l g).1, idx c ≠ idx r) (hh : h < L) (hp : 1 ≤ h) {v : Int} (hv : 0 ≤ v ∧ v < 18446744073709551616) (he : v % 2 = 0) : Up T N L l r h (setI m (nextI T L (idx r) h) v) := by
  have hset := fun {x : Int} {g : Nat} (a : idx x ≤ (N : Int)) (b : g < L) => set_way (v := v) hT hN hL hu.len h2 a hh b
  have hkey := fun {x : Int} (a : 1 ≤ idx x) (b : idx x ≤ (N : Int)) => set_key (m := m) (v := v) hT hN hL h2 a b hh
  have hlen := setI_length m (nextI T L (idx r) h) v
  have hfit := fits_set hu.fit (nextI T L (idx r) h) hv
  have hoth : ∀ i : Int, (∀ (x : Int) (g : Nat), idx x ≤ (N : Int) → g < L → i ≠ nextI T L (idx x) g) → getI (setI m (nextI T L (idx r) h) v) i = getI m i := fun i hi => get_other (Ne.symm (hi r h h2 hh))
  generalize setI m (nextI T L (idx r) h) v = m' at hset hkey hlen hfit hoth ⊢
  -- each chain is as it was
  have hch : ∀ g : Nat, g < L → ∀ cl, Chain T L N m g cl → (g = h → ∀ c ∈ cl, idx c ≠ idx r) → Chain T L N m' g cl ∧ cl.filter (freeB T L m' g) = cl.filter (freeB T L m g) := fun g a cl hc hn => by
    have hin := path_in _ _ hc.2.1
    refine chain_off ?_ (fun c k => ?_) (fun c k => hkey (hin c k).1 (hin c k).2.1) hc
    · rw [hset (by rw [idx_zero]; omega) a, if_neg fun q => by rw [idx_zero] at q; omega]
    · rw [hset (hin c k).2.1 a, if_neg fun q => hn q.2 c k q.1]
  have hnh : ∀ cl : List Int, cl.Sublist (chainI T L N l h).1 → ∀ c ∈ cl, idx c ≠ idx r := fun cl hs c k => hap h (Nat.le_refl _) hh c (hs.subset k)
  have hone : ∀ g : Nat, g < L → ∃ cl, Chain T L N m g cl ∧ (g = h → ∀ c ∈ cl, idx c ≠ idx r) := fun g a => by
    by_cases e : g = h
    · subst e
      obtain ⟨cl, c1, c2, -⟩ := hu.high g (Nat.le_refl _) a
      exact ⟨cl, c1, fun _ => hnh cl c2⟩
    · obtain ⟨cl, -, c1, -⟩ := good_chain hu.good a
      exact ⟨cl, c1, fun q => absurd q e⟩
  have hkp : ∀ g : Nat, g < L → keptL T L N m' g = keptL T L N m g := fun g a => by
    obtain ⟨cl, c1, c2⟩ := hone g a
    obtain ⟨d1, d2⟩ := hch g a cl c1 c2
    rw [kept_of hN d1, kept_of hN c1, d2]
  refine ⟨hlen.trans hu.len, hfit, fun x a b => (hkey a b).trans (hu.key x a b), fun g a b => ?_, fun g a b => ?_, good_of hN (fun g a => ?_) (fun g a x hx => ?_), fun g a b => ?_, (hkp 0 (by omega)).trans hu.kept, fun i hi => (hoth i hi).trans (hu.oth i hi)⟩
  · rw [hkp g b]
    exact hu.low g a b
  · obtain ⟨cl, c1, c2, c3⟩ := hu.high g a b
    obtain ⟨d1, d2⟩ := hch g b cl c1 fun e => by subst e; exact hnh cl c2
    exact ⟨cl, d1, c2, d2.trans c3⟩
  · obtain ⟨cl, c1, c2⟩ := hone g a
    exact ⟨cl, (hch g a cl c1 c2).1⟩
  · rw [hkp (g + 1) a] at hx
    rw [hkp g (by omega)]
    exact good_kept hu.good a hx
  · rw [hset h2 b]
    split
    · exact he
    · exact hu.own g a b
/-- It hangs at one more level. -/
theorem Up.hung (hT : T ≤ 8) (hN : N ≤ 64) (hL : L ≤ 8) (hu : Up T N L l r h m) (hg : GoodW T L N l) {K : Key} {lt : Int → Bool} (h1 : 1 ≤ idx r) (h2 : idx r ≤ (N : Int)) (he : r % 2 = 0) (hr : 0 ≤ r ∧ r < 18446744073709551616) (hk : keyI T L l r = K) (hr0 : r ∈ keptL T L N l (0 : Nat)) (hlt : ∀ c : Int, 1 ≤ idx c → idx c ≤ (N : Int) → ltK (keyI T L l c) K = lt c)
    (hap : ∀ g : Nat, h ≤ g → g < L → ∀ c ∈ (chainI T L N l g).1, idx c ≠ idx r) (hh : h < L) (hp : 1 ≤ h) (hw : wayI T L m r h = (resL T L N lt l h).2) (hv : wayI T L m (resL T L N lt l h).1 h = (resL T L N lt l h).2) :
    Up T N L l r (h + 1) (setI m (nextI T L (idx (resL T L N lt l h).1) h) r) ∧ ∀ g : Nat, h < g → g < L → ∀ x : Int, idx x ≤ (N : Int) → wayI T L (setI m (nextI T L (idx (resL T L N lt l h).1) h) r) x g = wayI T L m x g := by
  obtain ⟨cl, c1, c2, c3⟩ := hu.high h (Nat.le_refl _) hh
  obtain ⟨e1, e2⟩ := hu.res hN (lt := lt) (Nat.le_refl h) hh
  have hltm : ∀ c : Int, 1 ≤ idx c → idx c ≤ (N : Int) → ltK (keyI T L m c) K = lt c := fun c a b => by rw [hu.key c a b]; exact hlt c a b
  have hs : Sought T N L lt m m h := ⟨cl, c1, by rw [chain_is hN c1]; exact List.Sublist.refl _, by rw [kept_of hN c1], by rw [e2]; exact hv, fun _ _ => rfl, fun _ _ _ => rfl, fun _ _ _ _ => rfl⟩
  obtain ⟨A, B, d1, d2, d3, d4, d5, d6, d7, -⟩ := hs.split hltm
  rw [chain_is hN c1] at d2
  rw [e2] at d6 d7
  rw [e1] at d3
  have hsub : ∀ c ∈ A ++ B, idx c ≠ idx r := fun c hc => hap h (Nat.le_refl _) hh c (c2.subset (d2.subset hc))
  have hin := path_in _ _ d1.2.1
  have hrk : keyI T L m r = K := (hu.key r h1 h2).trans hk
  have hS := find_next lt (keptL T L N l h) 0
  change (resL T L N lt l h).2 = 0 ∨ ((resL T L N lt l h).2 ∈ _ ∧ lt (resL T L N lt l h).2 = false) at hS
  generalize hPe : (resL T L N lt l h).1 = P at *
  generalize hSe : (resL T L N lt l h).2 = S at *
  have hP : idx P ≤ (N : Int) ∧ idx P ≠ idx r := by
    rw [← d6]
    rcases last_cases A with rfl | ⟨A', p, rfl⟩
    · exact ⟨by show idx 0 ≤ _; rw [idx_zero]; omega, by show idx 0 ≠ _; rw [idx_zero]; omega⟩
    · rw [last_snoc]
      exact ⟨(hin p (by simp)).2.1, hsub p (by simp)⟩
  have hBk : ∀ b ∈ B, ltK (keyI T L m r) (keyI T L m b) = true := by
    cases B with
    | nil => intro b hb; cases hb
    | cons b0 B =>
      have hb0 : b0 = S := d7
      have hi0 := hin b0 (by simp)
      rw [hrk]
      have hSm : S ∈ keptL T L N l h ∧ lt S = false := hS.resolve_left fun e => by rw [hb0, e, idx_zero] at hi0; omega
      have hlow := good_low hg hh hSm.1
      obtain ⟨c0, -, f1, f2, -⟩ := good_chain hg (show 0 < L by omega)
      have hris : Rises (keyI T L l) (keptL T L N l (0 : Nat)) := by rw [f2]; exact List.Pairwise.sublist List.filter_sublist f1.2.2
      have hne := rises_ne hris hlow hr0 (fun e => hsub b0 (by simp) (by rw [hb0, e]))
      rw [hk] at hne
      have hfirst : ltK K (keyI T L m b0) = true := by
        rw [hu.key b0 hi0.1 hi0.2.1, hb0]
        have h6 := hSm.2
        rw [← hlt S (by rw [← hb0]; exact hi0.1) (by rw [← hb0]; exact hi0.2.1)] at h6
        rcases cmpK_cases (keyI T L l S) K with ⟨h7, -⟩ | ⟨-, h7, -⟩ | ⟨h7, -⟩
        · rw [h6] at h7; cases h7
        · exact h7
        · exact absurd h7 hne
      have hr3 := d1.2.2
      rw [Rises, List.pairwise_append, List.pairwise_cons] at hr3
      intro b hb
      rcases List.mem_cons.1 hb with rfl | hb
      · exact hfirst
      · exact ltK_trans _ _ _ hfirst (hr3.2.1.1 b hb)
  obtain ⟨g1, g2⟩ := hang (r := r) hT hN hL hh hu.len d1 h1 h2 he hsub (by rw [d7]; exact hw) (by rw [d6, d7]; exact hv) (fun a ha => by
    have h5 := hin a (by simp [ha])
    rw [hrk, hltm a h5.1 h5.2.1]
    exact d4 a ha) hBk
  rw [d6] at g1 g2
  have hset := fun {x : Int} {g : Nat} (a : idx x ≤ (N : Int)) (b : g < L) => set_way (v := r) hT hN hL hu.len hP.1 a hh b
  have hkey := fun {x : Int} (a : 1 ≤ idx x) (b : idx x ≤ (N : Int)) => set_key (m := m) (v := r) hT hN hL hP.1 a b hh
  have hlen := setI_length m (nextI T L (idx P) h) r
  have hfit := fits_set hu.fit (nextI T L (idx P) h) hr
  have hoth : ∀ i : Int, (∀ (x : Int) (g : Nat), idx x ≤ (N : Int) → g < L → i ≠ nextI T L (idx x) g) → getI (setI m (nextI T L (idx P) h) r) i = getI m i := fun i hi => get_other (Ne.symm (hi P h hP.1 hh))
  generalize setI m (nextI T L (idx P) h) r = m' at hset hkey hlen hfit hoth g1 g2 ⊢
  have hoff : ∀ (x : Int) (g : Nat), idx x ≤ (N : Int) → g < L → g ≠ h → wayI T L m' x g = wayI T L m x g := fun x g a b c => by rw [hset a b, if_neg fun q => c q.2]
  have hch : ∀ g : Nat, g < L → g ≠ h → ∀ cl, Chain T L N m g cl → Chain T L N m' g cl ∧ cl.filter (freeB T L m' g) = cl.filter (freeB T L m g) := fun g a e cl hc => by
    have hin := path_in _ _ hc.2.1
    exact chain_off (hoff 0 g (by rw [idx_zero]; omega) a e) (fun c k => hoff c g (hin c k).2.1 a e) (fun c k => hkey (hin c k).1 (hin c k).2.1) hc
  have hkp : ∀ g : Nat, g < L → g ≠ h → keptL T L N m' g = keptL T L N m g := fun g a e => by
    obtain ⟨cl, -, c1, -⟩ := good_chain hu.good a
    obtain ⟨d1, d2⟩ := hch g a e cl c1
    rw [kept_of hN d1, kept_of hN c1, d2]
  have hkh : keptL T L N m' h = A.filter (freeB T L m h) ++ r :: B.filter (freeB T L m h) := (kept_of hN g1).trans g2
  have hkm : keptL T L N m h = A.filter (freeB T L m h) ++ B.filter (freeB T L m h) := by rw [e1, ← d3, List.filter_append]
  have hmore : ∀ x ∈ keptL T L N m h, x ∈ keptL T L N m' h := fun x hx => by
    rw [hkm, List.mem_append] at hx
    rw [hkh, List.mem_append, List.mem_cons]
    exact hx.imp id .inr
  refine ⟨⟨hlen.trans hu.len, hfit, fun x a b => (hkey a b).trans (hu.key x a b), fun g a b => ?_, fun g a b => ?_, good_of hN (fun g a => ?_) (fun g a x hx => ?_), fun g a b => ?_, (hkp 0 (by omega) (by omega)).trans hu.kept, fun i hi => (hoth i hi).trans (hu.oth i hi)⟩, fun g a b x c => hoff x g c b (by omega)⟩
  · by_cases e : g = h
    · subst e
      exact ⟨by rw [hkh]; simp, fun x hx => hmore x (by rw [e1]; exact hx)⟩
    · rw [hkp g b e]
      exact hu.low g (by omega) b
  · obtain ⟨cl, c1, c2, c3⟩ := hu.high g (by omega) b
    obtain ⟨d1, d2⟩ := hch g b (by omega) cl c1
    exact ⟨cl, d1, c2, d2.trans c3⟩
  · by_cases e : g = h
    · subst e
      exact ⟨_, g1⟩
    · obtain ⟨cl, -, c1, -⟩ := good_chain hu.good a
      exact ⟨cl, (hch g a e cl c1).1⟩
  · by_cases e : g + 1 = h
    · subst e
      rw [hkp g (by omega) (by omega)]
      rw [hkh, List.mem_append, List.mem_cons] at hx
      by_cases q : x = r
      · subst q
        exact (hu.low g (by omega) (by omega)).1
      · refine good_kept hu.good a ?_
        rw [hkm, List.mem_append]
        exact hx.imp id fun z => z.resolve_left q
    · rw [hkp (g + 1) a e] at hx
      have h5 := good_kept hu.good a hx
      by_cases q : g = h
      · subst q
        exact hmore x h5
      · rw [hkp g (by omega) q]
        exact h5
  · rw [hoff r g h2 b (by omega)]
    exact hu.own g (by omega) b
end

/-! The steps. -/
theorem lift_leads {T L r dl sq tall lv wy : Int} {ps ss : List Int} : Leads (liftA T L r) (liftT L dl sq tall) (seekA T L) (seekT L dl sq) (fun t => ⟨3, lv, wy, some t, ps, ss⟩) (fun t => reach tall lv wy t.ps.reverse t.ss.reverse) := by
  intro t d hd
  refine ⟨by rw [liftA_s]; exact hd, fun f => ?_⟩
  rw [liftT_s]
  rcases seekT_st (dl := dl) (sq := sq) (f := f) (show (seekA T L t).isSome = true by rw [hd]; rfl) with h | h
  · rw [keep_done h, seek_isSome h]
    rfl
  · rw [if_pos h, keep_more]
    intro h0
    rw [seek_isSome h0] at h
    cases h
section
variable {T N L : Nat} {l : List Int} {r dl sq tall : Int} {lt : Int → Bool}
/-- Whoever found what there is, for the levels from h on. -/
def Knows (T N L : Nat) (lt : Int → Bool) (l : List Int) (h : Nat) (ps ss : List Int) : Prop := ps.length = L ∧ ss.length = L ∧ ∀ g : Nat, h ≤ g → g < L → ps.getD g 0 = (resL T L N lt l g).1 ∧ ss.getD g 0 = (resL T L N lt l g).2
/-- All that a rise leans on. -/
structure Base (T N L : Nat) (l : List Int) (r dl sq tall : Int) (lt : Int → Bool) : Prop where
  hT : T ≤ 8
  hN : N ≤ 64
  hL : L ≤ 8
  good : GoodW T L N l
  word : ∀ g : Nat, ∀ c ∈ keptL T L N l g, Word c
  r0 : 0 ≤ r ∧ r < 18446744073709551616
  r1 : 1 ≤ idx r
  r2 : idx r ≤ (N : Int)
  re : r % 2 = 0
  key : keyI T L l r = (dl, sq)
  low : r ∈ keptL T L N l (0 : Nat)
  lt : ∀ c : Int, 1 ≤ idx c → idx c ≤ (N : Int) → ltK (keyI T L l c) (dl, sq) = lt c
  apart : ∀ g : Nat, 1 ≤ g → g < L → ∀ c ∈ (chainI T L N l g).1, idx c ≠ idx r
  t1 : 1 ≤ tall
  tL : tall ≤ (L : Int)
theorem Base.res (b : Base T N L l r dl sq tall lt) {h : Nat} (hp : 1 ≤ h) (hh : h < L) : Word (resL T L N lt l h).2 ∧ (resL T L N lt l h).2 % 2 = 0 ∧ idx (resL T L N lt l h).1 ≤ (N : Int) ∧ idx (resL T L N lt l h).1 ≠ idx r := by
  obtain ⟨cl, e, -, hk, hin⟩ := good_chain b.good hh
  have hw := find_where lt (keptL T L N l h) 0
  have hn := find_next lt (keptL T L N l h) 0
  change (resL T L N lt l h).1 = 0 ∨ ((resL T L N lt l h).1 ∈ _ ∧ lt (resL T L N lt l h).1 = true) at hw
  change (resL T L N lt l h).2 = 0 ∨ ((resL T L N lt l h).2 ∈ _ ∧ lt (resL T L N lt l h).2 = false) at hn
  have hap := b.apart h hp hh
  have r1 := b.r1
  rw [e] at hap
  refine ⟨(res_word (b.word h)).2, ?_, ?_⟩
  · rcases hn with q | ⟨q, -⟩
    · rw [q]; rfl
    · rw [hk] at q
      exact (hin _ (List.mem_filter.1 q).1).2.2
  · rcases hw with q | ⟨q, -⟩
    · rw [q, idx_zero]; omega
    · rw [hk] at q
      have q := (List.mem_filter.1 q).1
      exact ⟨(hin _ q).2.1, hap _ q⟩
/-- The first two steps: the timer leads to what is to stand behind it. -/
theorem lead_run (b : Base T N L l r dl sq tall lt) {h : Nat} (hp : 1 ≤ h) (hh : h < L) {m ps ss : List Int} {wy : Int} (hu : Up T N L l r h m) (hk : Knows T N L lt l h ps ss) :
    ∃ k m' wy', k ≤ 2 ∧ steps (liftA T L r) (liftT L dl sq tall) k m ⟨1, h, wy, none, ps, ss⟩ = some (m', ⟨3, h, wy', none, ps, ss⟩) ∧ Up T N L l r h m' ∧ wayI T L m' r h = (resL T L N lt l h).2 ∧ ∀ (x : Int) (g : Nat), idx x ≤ (N : Int) → g < L → idx x ≠ idx r → wayI T L m' x g = wayI T L m x g := by
  obtain ⟨s1, s2, -, -⟩ := b.res hp hh
  have hs := (hk.2.2 h (Nat.le_refl _) hh).2
  have hev := hu.own h (Nat.le_refl _) hh
  have hod : ¬ wayI T L m r h % 2 = 1 := by omega
  have h1 : steps (liftA T L r) (liftT L dl sq tall) 1 m ⟨1, h, wy, none, ps, ss⟩ = some (m, ⟨if wayI T L m r h = (resL T L N lt l h).2 then 3 else 2, h, wayI T L m r h, none, ps, ss⟩) := by
    rw [steps_more (k := 0) liftA_1, nextD_1, foundD_yes (by simp)]
    simp only
    change steps _ _ 0 m (liftT L dl sq tall ⟨1, h, wy, none, ps, ss⟩ (wayI T L m r h)) = _
    rw [liftT_1, if_neg hod, Int.toNat_natCast, hs]
    rfl
  by_cases e : wayI T L m r h = (resL T L N lt l h).2
  · rw [if_pos e] at h1
    exact ⟨1, m, _, by omega, h1, hu, e, fun _ _ _ _ _ => rfl⟩
  · rw [if_neg e] at h1
    refine ⟨1 + 1, setI m (nextI T L (idx r) h) (resL T L N lt l h).2, wayI T L m r h, by omega, steps_then 1 1 _ _ _ _ _ h1 ?_, hu.led b.hT b.hN b.hL b.r1 b.r2 (fun g a c => b.apart g (by omega) c) hh hp s1 s2, ?_, fun x g a c d => ?_⟩
    · rw [steps_more (k := 0) liftA_2, nextD_3, foundD_yes (by simp)]
      simp only
      rw [Int.toNat_natCast, hs]
      change steps _ _ 0 (swapI m (nextI T L (idx r) h) (getI m (nextI T L (idx r) h)) (resL T L N lt l h).2) (liftT L dl sq tall ⟨2, h, wayI T L m r h, none, ps, ss⟩ (wayI T L m r h)) = _
      rw [MM.swap_is, liftT_2, if_pos rfl]
      rfl
    · rw [set_way b.hT b.hN b.hL hu.len b.r2 b.r2 hh hh, if_pos ⟨rfl, rfl⟩]
    · rw [set_way b.hT b.hN b.hL hu.len b.r2 a hh c, if_neg fun q => d q.1]
/-- One level, where what was found stands side by side. -/
theorem level_once (b : Base T N L l r dl sq tall lt) {h : Nat} (hp : 1 ≤ h) (hh : h < L) {m ps ss : List Int} {wy : Int} (hu : Up T N L l r h m) (hk : Knows T N L lt l h ps ss) (hw : wayI T L m (resL T L N lt l h).1 h = (resL T L N lt l h).2) :
    ∃ k m' wy', k ≤ 3 ∧ steps (liftA T L r) (liftT L dl sq tall) k m ⟨1, h, wy, none, ps, ss⟩ = some (m', reach tall ((h + 1 : Nat) : Int) wy' ps ss) ∧ Up T N L l r (h + 1) m' ∧ ∀ (x : Int) (g : Nat), idx x ≤ (N : Int) → h < g → g < L → idx x ≠ idx r → wayI T L m' x g = wayI T L m x g := by
  obtain ⟨k, m1, wy', k1, k2, k3, k4, k5⟩ := lead_run b hp hh (wy := wy) hu hk
  obtain ⟨-, -, s3, s4⟩ := b.res hp hh
  obtain ⟨hsp, hss⟩ := hk.2.2 h (Nat.le_refl _) hh
  have hw1 : wayI T L m1 (resL T L N lt l h).1 h = (resL T L N lt l h).2 := (k5 _ h s3 hh s4).trans hw
  obtain ⟨u1, u2⟩ := k3.hung b.hT b.hN b.hL b.good b.r1 b.r2 b.re b.r0 b.key b.low b.lt (fun g a c => b.apart g (by omega) c) hh hp k4 hw1
  refine ⟨k + 1, _, wy', by omega, steps_then k 1 _ m1 _ _ _ k2 ?_, u1, fun x g a c d e => (u2 g c d x a).trans (k5 x g a d e)⟩
  rw [steps_more (k := 0) liftA_3, nextD_3, foundD_yes (by simp)]
  simp only
  rw [Int.toNat_natCast, hsp, hss]
  change steps _ _ 0 (swapI m1 (nextI T L (idx (resL T L N lt l h).1) h) (resL T L N lt l h).2 r) (liftT L dl sq tall ⟨3, h, wy', none, ps, ss⟩ (wayI T L m1 (resL T L N lt l h).1 h)) = _
  have hsw : swapI m1 (nextI T L (idx (resL T L N lt l h).1) h) (resL T L N lt l h).2 r = setI m1 (nextI T L (idx (resL T L N lt l h).1) h) r := by
    have h5 := MM.swap_is (l := m1) (nextI T L (idx (resL T L N lt l h).1) h) r
    rwa [show getI m1 (nextI T L (idx (resL T L N lt l h).1) h) = (resL T L N lt l h).2 from hw1] at h5
  rw [hsw, liftT_3 (by rw [Int.toNat_natCast, hss]; exact hw1)]
  rfl
/-- One level, where it does not: all levels are sought. -/
theorem level_twice (b : Base T N L l r dl sq tall lt) {h : Nat} (hp : 1 ≤ h) (hh : h < L) {m ps ss : List Int} {wy : Int} (hu : Up T N L l r h m) (hk : Knows T N L lt l h ps ss) (hw : ¬ wayI T L m (resL T L N lt l h).1 h = (resL T L N lt l h).2) :
    ∃ k m' wy' ps' ss', k ≤ 1547 ∧ steps (liftA T L r) (liftT L dl sq tall) k m ⟨1, h, wy, none, ps, ss⟩ = some (m', reach tall h wy' ps' ss') ∧ Up T N L l r h m' ∧ Knows T N L lt l h ps' ss' ∧ ∀ g : Nat, h ≤ g → g < L → wayI T L m' (resL T L N lt l g).1 g = (resL T L N lt l g).2 := by
  obtain ⟨k, m1, wy', k1, k2, k3, k4, k5⟩ := lead_run b hp hh (wy := wy) hu hk
  obtain ⟨-, -, s3, s4⟩ := b.res hp hh
  obtain ⟨hsp, hss⟩ := hk.2.2 h (Nat.le_refl _) hh
  have hw1 : ¬ wayI T L m1 (resL T L N lt l h).1 h = (resL T L N lt l h).2 := fun e => hw ((k5 _ h s3 hh s4).symm.trans e)
  obtain ⟨j, m2, lv', pr', cu', nx', q1, q2, q3, q4, q5, q6, q7, q8⟩ := all_run (Q := 193) (Nat.le_refl _) b.hT b.hN b.hL (dl := dl) (sq := sq) (lt := lt) k3.good (fun c x y => by rw [k3.key c x y]; exact b.lt c x y) L m1 0 0 0 [] [] (Nat.le_refl _) ⟨k3.len, k3.fit, fun _ _ _ _ => rfl, fun _ _ _ => rfl, fun _ _ => rfl⟩ (fun _ _ => .inl rfl)
  rw [List.nil_append, List.nil_append] at q2
  change steps _ _ j m1 (anew L 0 0) = _ at q2
  have hu2 := k3.sought b.hN b.r2 q3 q4 q5 q7 q8 (by omega)
  have hres : ∀ g : Nat, h ≤ g → g < L → resL T L N lt m1 g = resL T L N lt l g := fun g a c => (k3.res b.hN (lt := lt) a c).2
  have hbig : 193 * L ≤ 1544 := by have := b.hL; omega
  refine ⟨k + (1 + (j + 0)), m2, wy', (List.range L).map fun g => (resL T L N lt m1 g).1, (List.range L).map fun g => (resL T L N lt m1 g).2, by rw [Nat.mul_comm] at q1; omega, steps_then k _ _ m1 _ _ _ k2 (steps_then 1 (j + 0) _ m1 _ ⟨3, h, wy', some (anew L 0 0), ps, ss⟩ _ ?_ ?_), hu2, ⟨by simp, by simp, fun g a c => ?_⟩, fun g a c => ?_⟩
  · rw [steps_more (k := 0) liftA_3, nextD_3, foundD_yes (by simp)]
    simp only
    rw [Int.toNat_natCast, hsp, hss]
    change steps _ _ 0 (swapI m1 (nextI T L (idx (resL T L N lt l h).1) h) (resL T L N lt l h).2 r) (liftT L dl sq tall ⟨3, h, wy', none, ps, ss⟩ (wayI T L m1 (resL T L N lt l h).1 h)) = _
    rw [MM.swap_no hw1, liftT_3n (by rw [Int.toNat_natCast, hss]; exact hw1)]
    rfl
  · refine (steps_lead (lift_leads (r := r) (tall := tall) (lv := h) (wy := wy') (ps := ps) (ss := ss)) j 0 m1 m2 (anew L 0 0) _ (1, nextI T L (idx 0) (L - 1), 0, 0, 0) ?_ q2 seekA_0).trans ?_
    · unfold anew
      rw [desc_on (by omega), seekA_1]
    · show some (m2, reach tall h wy' _ _) = _
      simp [← List.map_reverse]
  · rw [map_getD c, map_getD c, hres g a c]
    exact ⟨rfl, rfl⟩
  · have h5 := ((q5 g c).finds b.hN).1
    rwa [hres g a c] at h5
theorem Knows.up {h h' : Nat} {ps ss : List Int} (hk : Knows T N L lt l h ps ss) (a : h ≤ h') : Knows T N L lt l h' ps ss := ⟨hk.1, hk.2.1, fun g c d => hk.2.2 g (by omega) d⟩
theorem Knows.begins {h : Nat} {ps ss : List Int} {wy : Int} (hk : Knows T N L lt l h ps ss) (a : (h : Int) < tall) (c : h < L) : reach tall (h : Int) wy ps ss = ⟨1, h, wy, none, ps, ss⟩ := reach_on (by rw [hk.1, hk.2.1]; omega)
theorem Knows.ends {h : Nat} {ps ss : List Int} {wy : Int} (hk : Knows T N L lt l h ps ss) (a : tall ≤ (h : Int)) : reach tall (h : Int) wy ps ss = ⟨0, h, wy, none, ps, ss⟩ := reach_end (by omega)
theorem clean_run (b : Base T N L l r dl sq tall lt) : ∀ (n h : Nat) (m ps ss : List Int) (wy : Int), ((h + n : Nat) : Int) = tall → 1 ≤ h → Up T N L l r h m → Knows T N L lt l h ps ss → (∀ g : Nat, h ≤ g → g < L → wayI T L m (resL T L N lt l g).1 g = (resL T L N lt l g).2) →
    ∃ k m' s, k ≤ 3 * n ∧ steps (liftA T L r) (liftT L dl sq tall) k m (reach tall h wy ps ss) = some (m', s) ∧ s.un = none ∧ s.st = 0 ∧ Up T N L l r (h + n) m'
  | 0, h, m, ps, ss, wy, hn, _, hu, hk, _ => ⟨0, m, _, Nat.le_refl _, rfl, by rw [hk.ends (by omega)], by rw [hk.ends (by omega)], hu⟩
  | n + 1, h, m, ps, ss, wy, hn, hp, hu, hk, hw => by
    have hh : h < L := by have := b.tL; omega
    obtain ⟨k, m1, wy', k1, k2, k3, k4⟩ := level_once b hp hh (wy := wy) hu hk (hw h (Nat.le_refl _) hh)
    obtain ⟨j, m2, s, j1, j2, j3, j4, j5⟩ := clean_run b n (h + 1) m1 ps ss wy' (by omega) (by omega) k3 (hk.up (Nat.le_succ _)) fun g a c => by
      obtain ⟨-, -, s3, s4⟩ := b.res (show 1 ≤ g by omega) c
      rw [k4 _ g s3 (by omega) c s4]
      exact hw g (by omega) c
    refine ⟨k + j, m2, s, by omega, ?_, j3, j4, by rw [show h + (n + 1) = h + 1 + n by omega]; exact j5⟩
    rw [hk.begins (by omega) hh]
    exact steps_then k j _ _ _ _ _ k2 j2
theorem lift_run (b : Base T N L l r dl sq tall lt) : ∀ (n h : Nat) (m ps ss : List Int) (wy : Int), ((h + n : Nat) : Int) = tall → 1 ≤ h → Up T N L l r h m → Knows T N L lt l h ps ss →
    ∃ k m' s, k ≤ 1547 + 3 * n ∧ steps (liftA T L r) (liftT L dl sq tall) k m (reach tall h wy ps ss) = some (m', s) ∧ s.un = none ∧ s.st = 0 ∧ Up T N L l r (h + n) m'
  | 0, h, m, ps, ss, wy, hn, _, hu, hk => ⟨0, m, _, Nat.zero_le _, rfl, by rw [hk.ends (by omega)], by rw [hk.ends (by omega)], hu⟩
  | n + 1, h, m, ps, ss, wy, hn, hp, hu, hk => by
    have hh : h < L := by have := b.tL; omega
    by_cases hw : wayI T L m (resL T L N lt l h).1 h = (resL T L N lt l h).2
    · obtain ⟨k, m1, wy', k1, k2, k3, -⟩ := level_once b hp hh (wy := wy) hu hk hw
      obtain ⟨j, m2, s, j1, j2, j3, j4, j5⟩ := lift_run b n (h + 1) m1 ps ss wy' (by omega) (by omega) k3 (hk.up (Nat.le_succ _))
      refine ⟨k + j, m2, s, by omega, ?_, j3, j4, by rw [show h + (n + 1) = h + 1 + n by omega]; exact j5⟩
      rw [hk.begins (by omega) hh]
      exact steps_then k j _ _ _ _ _ k2 j2
    · obtain ⟨k, m1, wy', ps', ss', k1, k2, k3, k4, k5⟩ := level_twice b hp hh (wy := wy) hu hk hw
      obtain ⟨j, m2, s, j1, j2, j3, j4, j5⟩ := clean_run b (n + 1) h m1 ps' ss' wy' hn hp k3 k4 k5
      refine ⟨k + j, m2, s, by omega, ?_, j3, j4, j5⟩
      rw [hk.begins (by omega) hh]
      exact steps_then k j _ _ _ _ _ k2 j2
end
end Go.Proofs.YtchpahkjgpcdjaaGreatDoor.LfM

/- A region that draws its order, inside a round at the wide fence: by the plain walk that holds a fact of the worlds (Derived/OrdersHeld). No function is named. -/
namespace Go.Proofs.YtchpahkjgpcdjaaGreatDoor.HeldIn
open Go

section
variable {P : Program} {md : Region.Mode} {ops : Array Oper} {Q : Exit → Act → World → Prop} {S : World → Prop} {l n : Nat}

theorem oper_in_round {o : Oper} {a : Act} {w : World} {K : Act → World → Prop} (hd : ∀ c, o.op ≠ .defer c) (h : o.wp P a w K Q) : o.wpIn (Fence.wide.inRound l) n P a w K Q := by
  refine ⟨fun _ _ => trivial, ?_⟩
  rw [Fence.inRound_round, Oper.semAt_some l _ _ hd]
  unfold Oper.wp at h
  generalize (execOp a.eval o).run P w = r at h ⊢
  cases r with
  | ok x w' =>
    cases x with
    | enter f args => exact ⟨fun e => (by cases e), CallsIn.inRound l (callsIn_wide.2 h)⟩
    | row r args => exact ⟨fun e => (by cases e), fun c cs _ => let ⟨v, w', r, s⟩ := h c cs; ⟨v, w', r, stepsIn_wide.2 s⟩⟩
    | value v => exact h
    | skip => exact h
    | defer d => exact h
    | _ => exact (h : False).elim
  | halt x w' =>
    cases x <;> first | exact h | exact (h : False).elim

theorem any_in_round (hq : ∀ a w, ¬ Q .outgrown a w) (hd : ∀ (i : Nat) (o : Oper), ops[i]? = some o → ∀ c, o.op ≠ .defer c) : ∀ (fuel : Nat) (listed : Array Bool) (a : Act) (w : World), wpAny P md ops Q fuel listed a w → wpAnyIn (Fence.wide.inRound l) n P md ops Q fuel listed a w
  | 0, _, _, _, h => h
  | fuel + 1, listed, a, w, h => ⟨h.1, fun i hi => by
      have h2 := wpOp_mono (fun a' w' h' => any_in_round hq hd fuel (listed.setIfInBounds i true) a' w' h') (h.2 i hi)
      unfold wpOp at h2
      unfold wpOpIn
      cases ho : ops[i]? with
      | none => simp only [ho] at h2; exact h2
      | some o =>
        simp only [ho] at h2
        by_cases hw : Region.wanted o (yielded ops a.tmps) = true
        · simp only [hw, if_true] at h2 ⊢
          exact h2.elim (oper_in_round (hd i o ho)) (fun h3 => (by obtain ⟨_, a3, w3, h4⟩ := h3; exact (hq a3 w3 h4).elim))
        · simp only [hw] at h2 ⊢
          exact ⟨fun _ _ => trivial, h2⟩⟩
def noDefer (ops : Array Oper) : Bool := ops.toList.all fun o => match o.op with | .defer _ => false | _ => true
theorem noDefer_spec (h : noDefer ops = true) : ∀ (i : Nat) (o : Oper), ops[i]? = some o → ∀ c, o.op ≠ .defer c := fun i o ho c e => by
  have h1 := List.all_eq_true.1 h o (Array.mem_toList_iff.2 (Array.mem_of_getElem? ho))
  rw [e] at h1
  cases h1
/-- The beginning. -/
theorem region_in_round {id : Nat} {a : Act} {w : World} (hm : P.follows .mixedOrders = true) (hd : noDefer ops = true) (hq : ∀ a w, ¬ Q .outgrown a w) (h : wpAnyH P .any ops Q S ops.size (Array.replicate ops.size false) a w.drew) : (Code.region id ops true).wpIn (Fence.wide.inRound l) n P Q a w :=
  wpIn_region_any hm (any_in_round hq (noDefer_spec hd) _ _ _ _ (wpAny_of_held _ _ _ _ h))
/-- The one that may come up; the way back is kept hidden while it is run. -/
theorem wpAnyH_one {i : Nat} {o : Oper} {fuel : Nat} {listed : Array Bool} {a : Act} {w : World} (hr : Region.ready md ops listed = [i]) (ho : ops[i]? = some o) (hw : Region.wanted o (yielded ops a.tmps) = true)
    (h : ∀ K : Act → World → Prop, RowKit.Hid (∀ a' w', S w' → wpAnyH P md ops Q S fuel (listed.setIfInBounds i true) a' w' → K a' w') → o.wp P a w K Q) : wpAnyH P md ops Q S (fuel + 1) listed a w :=
  wpAnyH_all hr (by simp) (fun j hj => by
    obtain rfl : j = i := by simpa using hj
    unfold wpOp
    simp only [ho, hw, if_true]
    exact .inl (h _ (Lib.hid fun a' w' hS hW => (⟨hS, hW⟩ : S w' ∧ wpAnyH P md ops Q S fuel (listed.setIfInBounds j true) a' w'))))
end
end Go.Proofs.YtchpahkjgpcdjaaGreatDoor.HeldIn
