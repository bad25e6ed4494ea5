/- A seeker done alone where all chains rise, and whoever is in one without a mark is so in the one below, in plain lists: what it finds, and what it leaves. No program is named. -/
import Derived.Test.YtjefjkpomohpiaaGreatDoorChainMath
namespace Go.Proofs.YtjefjkpomohpiaaGreatDoor.KM
open DM PM CM BM OM Runs
open Go.RowKit (wrap64)
set_option linter.unusedVariables false
set_option linter.unusedSimpArgs false

theorem steps_then {σ : Type} {ask : σ → Option D} {tell : σ → Int → σ} : ∀ (a b : Nat) (l l1 : List Int) (s s1 : σ) (r : List Int × σ), steps ask tell a l s = some (l1, s1) → steps ask tell b l1 s1 = some r → steps ask tell (a + b) l s = some r
  | 0, b, l, l1, s, s1, r, h1, h2 => by
    simp only [steps, Option.some.injEq, Prod.mk.injEq] at h1
    obtain ⟨rfl, rfl⟩ := h1
    rw [Nat.zero_add]; exact h2
  | a + 1, b, l, l1, s, s1, r, h1, h2 => by
    obtain ⟨d, hd, h3⟩ := steps_amid h1
    rw [show a + 1 + b = (a + b) + 1 by omega, steps_more hd]
    exact steps_then a b _ _ _ _ r h3 h2
theorem alone_steps {σ : Type} {ask : σ → Option D} {tell : σ → Int → σ} : ∀ (k n : Nat) (l l' : List Int) (s s' : σ), steps ask tell k l s = some (l', s') → ask s' = none → k ≤ n → alone ask tell n l s = (l', s')
  | 0, n, l, l', s, s', h1, h2, _ => by
    simp only [steps, Option.some.injEq, Prod.mk.injEq] at h1
    obtain ⟨rfl, rfl⟩ := h1
    exact alone_done h2
  | k + 1, n, l, l', s, s', h1, h2, hk => by
    obtain ⟨n, rfl⟩ : ∃ n', n = n' + 1 := ⟨n - 1, by omega⟩
    obtain ⟨d, hd, h3⟩ := steps_amid h1
    rw [alone_more hd]
    exact alone_steps k n _ _ _ _ h3 h2 (by omega)

/-- At one level ways on have been turned, but not their marks. -/
structure Cut (T N L : Nat) (h : Nat) (m m' : List Int) : Prop where
  len : m'.length = m.length
  fit : BM.Fits m → BM.Fits m'
  off : ∀ (r : Int) (g : Nat), idx r ≤ (N : Int) → g < L → g ≠ h → wayI T L m' r g = wayI T L m r g
  key : ∀ r : Int, 1 ≤ idx r → idx r ≤ (N : Int) → keyI T L m' r = keyI T L m r
  par : ∀ r : Int, idx r ≤ (N : Int) → wayI T L m' r h % 2 = wayI T L m r h % 2
  odd : ∀ r : Int, idx r ≤ (N : Int) → wayI T L m r h % 2 = 1 → wayI T L m' r h = wayI T L m r h
  oth : ∀ i : Int, (∀ (r : Int) (g : Nat), idx r ≤ (N : Int) → g < L → i ≠ nextI T L (idx r) g) → getI m' i = getI m i
section
variable {T N L h : Nat} {m m' m2 : List Int}
theorem Cut.refl (m : List Int) : Cut T N L h m m := ⟨rfl, id, fun _ _ _ _ _ => rfl, fun _ _ _ => rfl, fun _ _ => rfl, fun _ _ _ => rfl, fun _ _ => rfl⟩
theorem Cut.trans (a : Cut T N L h m m') (b : Cut T N L h m' m2) : Cut T N L h m m2 :=
  ⟨b.len.trans a.len, fun f => b.fit (a.fit f), fun r g h1 h2 h3 => (b.off r g h1 h2 h3).trans (a.off r g h1 h2 h3), fun r h1 h2 => (b.key r h1 h2).trans (a.key r h1 h2), fun r h1 => (b.par r h1).trans (a.par r h1), fun r h1 h2 => (b.odd r h1 (by rw [a.par r h1]; exact h2)).trans (a.odd r h1 h2), fun i hi => (b.oth i hi).trans (a.oth i hi)⟩
theorem Cut.free (a : Cut T N L h m m') {r : Int} (hr : idx r ≤ (N : Int)) : freeB T L m' h r = freeB T L m h r := by unfold freeB; rw [a.par r hr]
theorem cut_one (hT : T ≤ 8) (hN : N ≤ 64) (hL : L ≤ 8) (hh : h < L) (hm : m.length = wordsN T N L) {p v : Int} (hp : idx p ≤ (N : Int)) (hv : 0 ≤ v ∧ v < 18446744073709551616) (he : v % 2 = wayI T L m p h % 2) (h0 : v % 2 = 0) : Cut T N L h m (setI m (nextI T L (idx p) h) v) := by
  refine ⟨setI_length _ _ _, fun f => fits_set f _ hv, fun r g h1 h2 h3 => ?_, fun r h1 h2 => set_key hT hN hL hp h1 h2 hh, fun r h1 => ?_, fun r h1 h2 => ?_, fun i hi => get_other (Ne.symm (hi p h hp hh))⟩
  · rw [set_way hT hN hL hm hp h1 hh h2, if_neg fun q => h3 q.2]
  · rw [set_way hT hN hL hm hp h1 hh hh]
    split
    · obtain ⟨e, -⟩ := ‹_ ∧ _›
      rw [he, way_same e]
    · rfl
  · rw [set_way hT hN hL hm hp h1 hh hh, if_neg]
    rintro ⟨e, -⟩
    rw [way_same e] at h2
    omega
end

theorem filter_cong {f g : Int → Bool} {l : List Int} (h : ∀ c ∈ l, f c = g c) : l.filter f = l.filter g := List.filter_congr h
theorem less_is {d n dl sq : Int} : ltK (wrap64 d, n) (dl, sq) = if wrap64 d = dl then decide (n < sq) else decide (wrap64 d < dl) := by
  unfold ltK
  simp only
  split
  · simp [*]
  · simp [*]

/-- One level: from pr on. -/
theorem level_run {T N L : Nat} {dl sq : Int} {ps ss : List Int} (hT : T ≤ 8) (hN : N ≤ 64) (hL : L ≤ 8) {h : Nat} (hh : h < L) {lt : Int → Bool} : ∀ (cs m : List Int) (pr cu nx : Int), m.length = wordsN T N L → BM.Fits m → idx pr ≤ (N : Int) →
    Path (fun r => wayI T L m r h) N (wayI T L m pr h) cs → Rises (keyI T L m) cs → (∀ c ∈ cs, idx c ≠ idx pr) → (∀ c ∈ cs, ltK (keyI T L m c) (dl, sq) = lt c) →
    ∃ k m' cs' cu' nx', k ≤ 3 * cs.length ∧
      steps (seekA T L) (seekT L dl sq) k m (reach h pr cu nx ps ss (wayI T L m pr h)) = some (m', find h (findL lt (cs.filter (freeB T L m h)) pr).1 cu' nx' ps ss (findL lt (cs.filter (freeB T L m h)) pr).2) ∧
      Cut T N L h m m' ∧ Path (fun r => wayI T L m' r h) N (wayI T L m' pr h) cs' ∧ cs'.Sublist cs ∧ cs'.filter (freeB T L m' h) = cs.filter (freeB T L m h) ∧
      wayI T L m' (findL lt (cs.filter (freeB T L m h)) pr).1 h = (findL lt (cs.filter (freeB T L m h)) pr).2 ∧
      ∀ r : Int, idx r ≤ (N : Int) → idx r ≠ idx pr → (∀ c ∈ cs, idx c ≠ idx r) → wayI T L m' r h = wayI T L m r h
  | [], m, pr, cu, nx, hm, hf, hp, hpath, _, _, _ => by
    have e : wayI T L m pr h = 0 := hpath
    refine ⟨0, m, [], cu, nx, Nat.le_refl _, ?_, Cut.refl m, hpath, List.Sublist.refl _, rfl, e, fun _ _ _ _ => rfl⟩
    rw [e, reach_none idx_zero]
    rfl
  | c :: cs, m, pr, cu, nx, hm, hf, hp, hpath, hr, hd, hlt => by
    obtain ⟨e, h1, h2, h3, h4⟩ := hpath
    have hc0 : ¬ idx c = 0 := by omega
    have hr2 : Rises (keyI T L m) cs := (List.pairwise_cons.1 hr).2
    have hdc : ∀ x ∈ cs, idx x ≠ idx c := fun x hx q => by
      have := (List.pairwise_cons.1 (rises_apart hr fun a b e => key_same e)).1 x hx
      exact this q.symm
    have hcp : idx c ≠ idx pr := hd c (by simp)
    have hw := fits_get hf (nextI T L (idx c) h)
    rw [e, reach_some hc0]
    by_cases hmk : wayI T L m c h % 2 = 1
    · -- it goes out
      have hset := fun {r : Int} {g : Nat} (a : idx r ≤ (N : Int)) (b : g < L) => set_way hT hN hL hm (v := plainI (wayI T L m c h)) hp a hh b
      obtain ⟨m1, hm1⟩ : ∃ m1, m1 = setI m (nextI T L (idx pr) h) (plainI (wayI T L m c h)) := ⟨_, rfl⟩
      rw [← hm1] at hset
      have hcut : Cut T N L h m m1 := hm1 ▸ cut_one hT hN hL hh hm hp (by unfold plainI wayI; omega) (by rw [plain_even, e, h1]) (plain_even _)
      have e1 : wayI T L m1 pr h = plainI (wayI T L m c h) := by rw [hset hp hh, if_pos ⟨rfl, rfl⟩]
      have hin := path_in _ _ h4
      have hsame : ∀ x : Int, idx x ≤ (N : Int) → idx x ≠ idx pr → wayI T L m1 x h = wayI T L m x h := fun x a b => by rw [hset a hh, if_neg fun q => b q.1]
      have hdp : ∀ x ∈ cs, idx x ≠ idx pr := fun x hx => hd x (by simp [hx])
      obtain ⟨k, m', cs', cu', nx', k1, k2, k3, k4, k5, k6, k7, k8⟩ := level_run hT hN hL hh (lt := lt) (dl := dl) (sq := sq) (ps := ps) (ss := ss) cs m1 pr c (plainI (wayI T L m c h)) (hcut.len.trans hm) (hcut.fit hf) hp
        (by rw [e1]; exact path_cong cs _ h4 fun x hx => hsame x (hin x hx).2.1 (hdp x hx)) (by
          refine List.Pairwise.imp_of_mem (fun {a b} ha hb hab => ?_) hr2
          rw [hcut.key a (hin a ha).1 (hin a ha).2.1, hcut.key b (hin b hb).1 (hin b hb).2.1]; exact hab) hdp
        (fun x hx => by rw [hcut.key x (hin x hx).1 (hin x hx).2.1]; exact hlt x (by simp [hx]))
      have hfil : cs.filter (freeB T L m1 h) = (c :: cs).filter (freeB T L m h) := by
        rw [List.filter_cons_of_neg (by unfold freeB; simp [hmk])]
        exact List.filter_congr fun x hx => hcut.free (hin x hx).2.1
      rw [hfil] at k2 k6 k7
      refine ⟨2 + k, m', cs', cu', nx', by simp; omega, ?_, hcut.trans k3, k4, k5.trans (List.sublist_cons_self _ _), k6, k7, fun r a b d => ?_⟩
      · refine steps_then 2 k _ m1 _ _ _ ?_ k2
        rw [steps_more (k := 1) seekA_2, nextD_1, foundD_yes (by simp)]
        change steps _ _ 1 m (seekT L dl sq ⟨2, h, pr, c, nx, ps, ss⟩ (wayI T L m c h)) = _
        rw [seekT_2m hmk, steps_more (k := 0) seekA_3, nextD_3, foundD_yes (by simp)]
        change steps _ _ 0 (swapI m (nextI T L (idx pr) h) c (plainI (wayI T L m c h))) (seekT L dl sq ⟨3, h, pr, c, plainI (wayI T L m c h), ps, ss⟩ (wayI T L m pr h)) = _
        rw [e, seekT_3, e1, hm1]
        unfold swapI
        rw [if_pos (show getI m (nextI T L (idx pr) h) = c from e)]
        rfl
      · rw [k8 r a b fun x hx => d x (by simp [hx]), hsame r a b]
    · -- it stays
      have hn : wayI T L m c h - wayI T L m c h % 2 = wayI T L m c h := by unfold wayI at hmk ⊢; omega
      have hev : plainI (wayI T L m c h) = wayI T L m c h := hn
      rw [hev] at h4
      have hfc : (c :: cs).filter (freeB T L m h) = c :: cs.filter (freeB T L m h) := List.filter_cons_of_pos (by unfold freeB; simp [hmk])
      -- the steps up to the weighing's end
      have hweigh : ∃ j, 2 ≤ j ∧ j ≤ 3 ∧ steps (seekA T L) (seekT L dl sq) j m ⟨2, h, pr, c, nx, ps, ss⟩ = some (m, pass h pr c (wayI T L m c h) ps ss (lt c)) := by
        rw [← hlt c (by simp)]
        unfold keyI
        rw [less_is]
        by_cases hq : wrap64 (getI m (atI T L (idx c) 1)) = dl
        · refine ⟨3, by omega, by omega, ?_⟩
          rw [steps_more (k := 2) seekA_2, nextD_1, foundD_yes (by simp)]
          change steps _ _ 2 m (seekT L dl sq ⟨2, h, pr, c, nx, ps, ss⟩ (wayI T L m c h)) = _
          rw [seekT_2 hmk, hn, steps_more (k := 1) seekA_4, nextD_1, foundD_yes (by simp)]
          simp only
          rw [seekT_4e hq, steps_more (k := 0) seekA_5, nextD_1, foundD_yes (by simp)]
          simp only
          rw [seekT_5 rfl, if_pos hq]
          rfl
        · refine ⟨2, by omega, by omega, ?_⟩
          rw [steps_more (k := 1) seekA_2, nextD_1, foundD_yes (by simp)]
          change steps _ _ 1 m (seekT L dl sq ⟨2, h, pr, c, nx, ps, ss⟩ (wayI T L m c h)) = _
          rw [seekT_2 hmk, hn, steps_more (k := 0) seekA_4, nextD_1, foundD_yes (by simp)]
          simp only
          rw [seekT_4 hq rfl, if_neg hq]
          rfl
      obtain ⟨j, j1, j2, hj⟩ := hweigh
      by_cases hc : lt c = true
      · -- it is less
        obtain ⟨k, m', cs', cu', nx', k1, k2, k3, k4, k5, k6, k7, k8⟩ := level_run hT hN hL hh (lt := lt) (dl := dl) (sq := sq) (ps := ps) (ss := ss) cs m c c (wayI T L m c h) hm hf h3 h4 hr2 hdc (fun x hx => hlt x (by simp [hx]))
        have hfind : findL lt ((c :: cs).filter (freeB T L m h)) pr = findL lt (cs.filter (freeB T L m h)) c := by
          rw [hfc]; exact if_pos hc
        rw [hfind]
        have hwp : wayI T L m' pr h = wayI T L m pr h := k8 pr hp (fun q => hcp q.symm) fun x hx => hd x (by simp [hx])
        have hev' : wayI T L m' c h % 2 = 0 := by rw [k3.par c h3]; omega
        refine ⟨j + k, m', c :: cs', cu', nx', by simp; omega, ?_, k3, ?_, k5.cons_cons c, ?_, k7, fun r a b d => ?_⟩
        · refine steps_then j k _ m _ _ _ hj ?_
          rw [hc, pass_yes]
          exact k2
        · rw [hwp, e]
          refine ⟨rfl, h1, h2, h3, ?_⟩
          rw [show plainI (wayI T L m' c h) = wayI T L m' c h by unfold plainI; omega]
          exact k4
        · rw [hfc, List.filter_cons_of_pos (by unfold freeB; simp [hev']), k6]
        · exact k8 r a (fun q => d c (by simp) q.symm) fun x hx => d x (by simp [hx])
      · -- it is not
        have hfind : findL lt ((c :: cs).filter (freeB T L m h)) pr = (pr, c) := by
          rw [hfc]; exact if_neg hc
        rw [hfind]
        refine ⟨j, m, c :: cs, c, wayI T L m c h, by simp; omega, ?_, Cut.refl m, ?_, List.Sublist.refl _, rfl, e, fun _ _ _ _ => rfl⟩
        · rw [hj, show lt c = false by simpa using hc, pass_no]
        · rw [e]
          exact ⟨rfl, h1, h2, h3, by rw [hev]; exact h4⟩
theorem path_pre {nx nx' : Int → Int} {N : Int} : ∀ (A : List Int) (r p : Int) (cs cs' : List Int), Path nx N r (A ++ p :: cs) → (∀ a ∈ A, nx' a = nx a) → Path nx' N (plainI (nx' p)) cs' → Path nx' N r (A ++ p :: cs')
  | [], r, p, cs, cs', hp, _, hq => ⟨hp.1, hp.2.1, hp.2.2.1, hp.2.2.2.1, hq⟩
  | x :: A, r, p, cs, cs', hp, ha, hq => ⟨hp.1, hp.2.1, hp.2.2.1, hp.2.2.2.1, by rw [ha x (by simp)]; exact path_pre A _ p cs cs' hp.2.2.2.2 (fun a h => ha a (by simp [h])) hq⟩
theorem rises_cut {T N L h : Nat} {m m' l l' : List Int} (hc : Cut T N L h m m') (hr : Rises (keyI T L m) l) (hs : l'.Sublist l) (hin : ∀ c ∈ l, 1 ≤ idx c ∧ idx c ≤ (N : Int)) : Rises (keyI T L m') l' := by
  refine List.Pairwise.imp_of_mem (fun {a b} ha hb hab => ?_) (List.Pairwise.sublist hs hr)
  have za := hin a (hs.subset ha)
  have zb := hin b (hs.subset hb)
  rw [hc.key a za.1 za.2, hc.key b zb.1 zb.2]
  exact hab
/-- One level, from its head on, or from one of its own without a mark that is less. -/
theorem level_all {T N L : Nat} {dl sq : Int} {ps ss : List Int} (hT : T ≤ 8) (hN : N ≤ 64) (hL : L ≤ 8) {h : Nat} (hh : h < L) {lt : Int → Bool} {cl m : List Int} {pr cu nx : Int} (hm : m.length = wordsN T N L) (hf : BM.Fits m) (hcl : Chain T L N m h cl)
    (hlt : ∀ c : Int, 1 ≤ idx c → idx c ≤ (N : Int) → ltK (keyI T L m c) (dl, sq) = lt c) (hpr : pr = 0 ∨ (pr ∈ cl ∧ freeB T L m h pr = true ∧ lt pr = true)) :
    ∃ k m' cl' cu' nx', k ≤ 192 ∧
      steps (seekA T L) (seekT L dl sq) k m (reach h pr cu nx ps ss (wayI T L m pr h)) = some (m', find h (findL lt (cl.filter (freeB T L m h)) 0).1 cu' nx' ps ss (findL lt (cl.filter (freeB T L m h)) 0).2) ∧
      Cut T N L h m m' ∧ Chain T L N m' h cl' ∧ cl'.filter (freeB T L m' h) = cl.filter (freeB T L m h) ∧ wayI T L m' (findL lt (cl.filter (freeB T L m h)) 0).1 h = (findL lt (cl.filter (freeB T L m h)) 0).2 ∧
      cl'.Sublist cl ∧ ∀ r : Int, 1 ≤ idx r → idx r ≤ (N : Int) → (∀ c ∈ cl, idx c ≠ idx r) → wayI T L m' r h = wayI T L m r h := by
  obtain ⟨he, hp, hr⟩ := hcl
  have hin := path_in _ _ hp
  have hlen := rises_few hr (fun a b e => key_same e) (fun c hc => ⟨(hin c hc).1, (hin c hc).2.1⟩)
  rcases hpr with rfl | ⟨hpm, hpf, hpl⟩
  · obtain ⟨k, m', cs', cu', nx', k1, k2, k3, k4, k5, k6, k7, k8⟩ := level_run hT hN hL hh (lt := lt) (dl := dl) (sq := sq) (ps := ps) (ss := ss) cl m 0 cu nx hm hf (by rw [idx_zero]; omega) hp hr (fun c hc q => by rw [idx_zero] at q; have := (hin c hc).1; omega) (fun c hc => hlt c (hin c hc).1 (hin c hc).2.1)
    exact ⟨k, m', cs', cu', nx', by omega, k2, k3, ⟨by rw [k3.par 0 (by rw [idx_zero]; omega)]; exact he, k4, rises_cut k3 hr k5 fun c hc => ⟨(hin c hc).1, (hin c hc).2.1⟩⟩, k6, k7, k5, fun r a b d => k8 r b (by rw [idx_zero]; omega) d⟩
  · obtain ⟨A, cs, rfl⟩ := List.append_of_mem hpm
    have hpi := hin pr hpm
    have hev : wayI T L m pr h % 2 = 0 := by unfold freeB at hpf; simp at hpf; omega
    have hpl2 : plainI (wayI T L m pr h) = wayI T L m pr h := by unfold plainI; omega
    have hpath := path_split A _ pr cs hp
    rw [hpl2] at hpath
    have hap := rises_apart hr fun a b e => key_same e
    have hr0 := hr
    rw [Rises, List.pairwise_append, List.pairwise_cons] at hr0
    rw [List.pairwise_append, List.pairwise_cons] at hap
    obtain ⟨k, m', cs', cu', nx', k1, k2, k3, k4, k5, k6, k7, k8⟩ := level_run hT hN hL hh (lt := lt) (dl := dl) (sq := sq) (ps := ps) (ss := ss) cs m pr cu nx hm hf hpi.2.1 hpath hr0.2.1.2 (fun c hc q => hap.2.1.1 c hc q.symm) (fun c hc => hlt c (hin c (by simp [hc])).1 (hin c (by simp [hc])).2.1)
    have hfil : (A ++ pr :: cs).filter (freeB T L m h) = A.filter (freeB T L m h) ++ pr :: cs.filter (freeB T L m h) := by rw [List.filter_append, List.filter_cons_of_pos hpf]
    have hfind : findL lt ((A ++ pr :: cs).filter (freeB T L m h)) 0 = findL lt (cs.filter (freeB T L m h)) pr := by
      rw [hfil]
      refine find_past lt _ 0 _ pr (fun a ha => ?_) hpl
      have ha2 := (List.mem_filter.1 ha).1
      have hab := hr0.2.2 a ha2 pr (by simp)
      have h1 := hin a (by simp [ha2])
      rw [← hlt a h1.1 h1.2.1]
      refine ltK_trans _ _ _ hab ?_
      rw [hlt pr hpi.1 hpi.2.1]
      exact hpl
    rw [hfind]
    have hsub : (A ++ pr :: cs').Sublist (A ++ pr :: cs) := (List.Sublist.refl A).append (k5.cons_cons pr)
    have hA : ∀ a ∈ A, wayI T L m' a h = wayI T L m a h := fun a ha => k8 a (hin a (by simp [ha])).2.1 (hap.2.2 a ha pr (by simp)) fun c hc q => hap.2.2 a ha c (by simp [hc]) q.symm
    have hz : wayI T L m' 0 h = wayI T L m 0 h := k8 0 (by rw [idx_zero]; omega) (by rw [idx_zero]; omega) fun c hc q => by rw [idx_zero] at q; have := (hin c (by simp [hc])).1; omega
    have hev' : wayI T L m' pr h % 2 = 0 := by rw [k3.par pr hpi.2.1]; exact hev
    refine ⟨k, m', A ++ pr :: cs', cu', nx', by simp at hlen; omega, k2, k3, ⟨by rw [hz]; exact he, ?_, rises_cut k3 hr hsub fun c hc => ⟨(hin c hc).1, (hin c hc).2.1⟩⟩, ?_, k7, hsub, fun r a b d => k8 r b (fun q => d pr (by simp) q.symm) fun c hc => d c (by simp [hc])⟩
    · rw [hz]
      exact path_pre A _ pr cs cs' hp hA (by rw [show plainI (wayI T L m' pr h) = wayI T L m' pr h by unfold plainI; omega]; exact k4)
    · rw [hfil, List.filter_append, List.filter_cons_of_pos (by unfold freeB; simp [hev']), k6]
      congr 1
      exact List.filter_congr fun a ha => k3.free (hin a (by simp [ha])).2.1

/-- What there is to find for a level. -/
def resL (T L N : Int) (lt : Int → Bool) (l : List Int) (h : Nat) : Int × Int := findL lt (keptL T L N l h) 0
/-- One level has been sought: what its chain is then. -/
def Sought (T N L : Nat) (lt : Int → Bool) (l m : List Int) (g : Nat) : Prop :=
  ∃ cl, Chain T L N m g cl ∧ cl.Sublist (chainI T L N l g).1 ∧ cl.filter (freeB T L m g) = keptL T L N l g ∧ wayI T L m (resL T L N lt l g).1 g = (resL T L N lt l g).2 ∧ (∀ r : Int, idx r ≤ (N : Int) → wayI T L m r g % 2 = wayI T L l r g % 2) ∧
    (∀ r : Int, idx r ≤ (N : Int) → wayI T L l r g % 2 = 1 → wayI T L m r g = wayI T L l r g) ∧ ∀ r : Int, 1 ≤ idx r → idx r ≤ (N : Int) → (∀ c ∈ (chainI T L N l g).1, idx c ≠ idx r) → wayI T L m r g = wayI T L l r g
/-- A memory whose levels below n are those of l. -/
structure Below_ (T N L n : Nat) (l m : List Int) : Prop where
  len : m.length = wordsN T N L
  fit : BM.Fits m
  way : ∀ (r : Int) (g : Nat), idx r ≤ (N : Int) → g < n → wayI T L m r g = wayI T L l r g
  key : ∀ r : Int, 1 ≤ idx r → idx r ≤ (N : Int) → keyI T L m r = keyI T L l r
  oth : ∀ i : Int, (∀ (r : Int) (g : Nat), idx r ≤ (N : Int) → g < L → i ≠ nextI T L (idx r) g) → getI m i = getI l i
theorem chain_cong {T N L h : Nat} {l m cl : List Int} (hw : ∀ r : Int, idx r ≤ (N : Int) → wayI T L m r h = wayI T L l r h) (hk : ∀ r : Int, 1 ≤ idx r → idx r ≤ (N : Int) → keyI T L m r = keyI T L l r) (hc : Chain T L N l h cl) : Chain T L N m h cl := by
  obtain ⟨he, hp, hr⟩ := hc
  have hin := path_in _ _ hp
  have h0 := hw 0 (by rw [idx_zero]; omega)
  refine ⟨by rw [h0]; exact he, ?_, List.Pairwise.imp_of_mem (fun {a b} ha hb hab => ?_) hr⟩
  · rw [h0]
    exact path_cong cl _ hp fun c hc => hw c (hin c hc).2.1
  · rw [hk a (hin a ha).1 (hin a ha).2.1, hk b (hin b hb).1 (hin b hb).2.1]; exact hab
theorem kept_of {T L : Int} {N : Nat} {m cl : List Int} {h : Int} (hN : N ≤ 64) (hc : Chain T L N m h cl) : keptL T L N m h = cl.filter (freeB T L m h) := by unfold keptL; rw [chain_is hN hc]

theorem Sought.finds {T N L g : Nat} {lt : Int → Bool} {l m : List Int} (hN : N ≤ 64) (h : Sought T N L lt l m g) : wayI T L m (resL T L N lt l g).1 g = (resL T L N lt l g).2 ∧ keptL T L N m g = keptL T L N l g := by
  obtain ⟨cl, h1, -, h3, h4, -⟩ := h
  exact ⟨h4, by rw [kept_of hN h1]; exact h3⟩
theorem pair_yes {α : Type} : ∀ {p : α × Bool}, p.2 = true → ∃ a, p = (a, true)
  | (a, _), rfl => ⟨a, rfl⟩
theorem all_run {T N L Q : Nat} {dl sq : Int} (hQ : 193 ≤ Q) (hT : T ≤ 8) (hN : N ≤ 64) (hL : L ≤ 8) {lt : Int → Bool} {l : List Int} (hg : GoodW T L N l) (hlt : ∀ c : Int, 1 ≤ idx c → idx c ≤ (N : Int) → ltK (keyI T L l c) (dl, sq) = lt c) :
    ∀ (n : Nat) (m : List Int) (pr cu nx : Int) (ps ss : List Int), n ≤ L → Below_ T N L n l m → (∀ g : Nat, n = g + 1 → pr = 0 ∨ (pr ∈ (chainI T L N l g).1 ∧ freeB T L l g pr = true ∧ lt pr = true)) →
    ∃ k m' lv' pr' cu' nx', k ≤ n * Q ∧ steps (seekA T L) (seekT L dl sq) k m (desc n pr cu nx ps ss) = some (m', ⟨0, lv', pr', cu', nx', ps ++ (List.range n).reverse.map fun h => (resL T L N lt l h).1, ss ++ (List.range n).reverse.map fun h => (resL T L N lt l h).2⟩) ∧
      m'.length = wordsN T N L ∧ BM.Fits m' ∧ (∀ g, g < n → Sought T N L lt l m' g) ∧
      (∀ (r : Int) (g : Nat), idx r ≤ (N : Int) → n ≤ g → g < L → wayI T L m' r g = wayI T L m r g) ∧ (∀ r : Int, 1 ≤ idx r → idx r ≤ (N : Int) → keyI T L m' r = keyI T L l r) ∧
      ∀ i : Int, (∀ (r : Int) (g : Nat), idx r ≤ (N : Int) → g < L → i ≠ nextI T L (idx r) g) → getI m' i = getI l i := by
  intro n
  induction n with
  | zero =>
    intro m pr cu nx ps ss _ hb _
    refine ⟨0, m, 0, pr, cu, nx, Nat.zero_le _, ?_, hb.len, hb.fit, fun g h => by omega, fun r g _ _ _ => rfl, hb.key, hb.oth⟩
    show some (m, desc 0 pr cu nx ps ss) = _
    rw [desc_end (Int.le_refl _)]
    simp
  | succ h ih =>
    intro m pr cu nx ps ss hn hb hpr
    have hh : h < L := by omega
    obtain ⟨hok, hsub⟩ := hg h (by omega)
    obtain ⟨cl, hcl⟩ : ∃ cl, chainI T L N l h = (cl, true) := pair_yes hok
    have hc := chain_of hcl
    have hcm := chain_cong (m := m) (fun r a => hb.way r h a (by omega)) hb.key hc
    have hin := path_in _ _ hc.2.1
    have hpr := hpr h rfl
    rw [hcl] at hpr
    have hfr : ∀ c : Int, idx c ≤ (N : Int) → freeB T L m h c = freeB T L l h c := fun c a => by unfold freeB; rw [hb.way c h a (by omega)]
    have hpi : idx pr ≤ (N : Int) := by
      rcases hpr with rfl | ⟨q, -⟩
      · rw [idx_zero]; omega
      · exact (hin pr q).2.1
    have hev : ¬ wayI T L m pr h % 2 = 1 := by
      rcases hpr with rfl | ⟨q1, q2, -⟩
      · have := hcm.1; omega
      · rw [← hfr pr hpi] at q2; unfold freeB at q2; simpa using q2
    have hfilm : cl.filter (freeB T L m h) = keptL T L N l h := by
      rw [kept_of hN hc]
      exact List.filter_congr fun c a => hfr c (hin c a).2.1
    obtain ⟨k, m1, cl', cu', nx', k1, k2, k3, k4, k5, k6, k7, k8⟩ := level_all hT hN hL hh (ps := ps) (ss := ss) (cu := cu) (nx := nx) (dl := dl) (sq := sq) (lt := lt) hb.len hb.fit hcm (fun c a b => by rw [hb.key c a b]; exact hlt c a b)
      (hpr.imp id fun q => ⟨q.1, by rw [hfr pr hpi]; exact q.2.1, q.2.2⟩)
    rw [hfilm] at k2 k5 k6
    change _ = some (m1, find h (resL T L N lt l h).1 cu' nx' ps ss (resL T L N lt l h).2) at k2
    change wayI T L m1 (resL T L N lt l h).1 h = (resL T L N lt l h).2 at k6
    have hb1 : Below_ T N L h l m1 := ⟨k3.len.trans hb.len, k3.fit hb.fit, fun r g a b => by rw [k3.off r g a (by omega) (by omega)]; exact hb.way r g a (by omega), fun r a b => by rw [k3.key r a b]; exact hb.key r a b, fun i hi => (k3.oth i hi).trans (hb.oth i hi)⟩
    obtain ⟨k', m', lv', pr', cu2, nx2, j1, j2, j3, j4, j5, j6, j7, j8⟩ := ih m1 (resL T L N lt l h).1 cu' nx' (ps ++ [(resL T L N lt l h).1]) (ss ++ [(resL T L N lt l h).2]) (by omega) hb1 (fun g e => by
      rcases find_where lt (keptL T L N l h) 0 with q | ⟨q1, q2⟩
      · exact .inl q
      · have q3 := List.mem_filter.1 q1
        obtain ⟨z1, z2⟩ := hsub g e _ q3.1 q3.2
        exact .inr ⟨z1, z2, q2⟩)
    have hidx : idx (resL T L N lt l h).1 ≤ (N : Int) := by
      rcases find_where lt (keptL T L N l h) 0 with q | ⟨q1, q2⟩
      · show idx (findL lt (keptL T L N l h) 0).1 ≤ _
        rw [q, idx_zero]; omega
      · have q3 := (List.mem_filter.1 q1).1
        rw [hcl] at q3
        exact (hin _ q3).2.1
    refine ⟨1 + (k + k'), m', lv', pr', cu2, nx2, by rw [Nat.succ_mul]; omega, ?_, j3, j4, fun g hg1 => ?_, fun r g a b c => ?_, j7, j8⟩
    · refine steps_then 1 (k + k') _ m _ (reach h pr cu nx ps ss (wayI T L m pr h)) _ ?_ (steps_then k k' _ m1 _ _ _ k2 ?_)
      · rw [desc_on (by omega), show ((h + 1 : Nat) : Int) - 1 = (h : Int) by omega, steps_more (k := 0) seekA_1, nextD_1, foundD_yes (by simp)]
        show some (m, seekT L dl sq ⟨1, h, pr, cu, nx, ps, ss⟩ (wayI T L m pr h)) = _
        rw [seekT_1 hev]
      · show steps _ _ k' m1 (desc h (resL T L N lt l h).1 cu' nx' (ps ++ [(resL T L N lt l h).1]) (ss ++ [(resL T L N lt l h).2])) = _
        rw [j2, List.range_succ]
        simp
    · by_cases hgh : g = h
      · subst hgh
        have hsame : ∀ r : Int, idx r ≤ (N : Int) → wayI T L m' r g = wayI T L m1 r g := fun r a => j6 r g a (Nat.le_refl _) hh
        have hc' := chain_cong (m := m') hsame (fun r a b => by rw [j7 r a b, hb1.key r a b]) k4
        have hfm : cl'.filter (freeB T L m' g) = keptL T L N l g := by
          rw [← k5]
          exact List.filter_congr fun c a => by
            unfold freeB
            rw [hsame c (path_in _ _ k4.2.1 c a).2.1]
        have hml : ∀ r : Int, idx r ≤ (N : Int) → wayI T L m r g = wayI T L l r g := fun r a => hb.way r g a (by omega)
        rw [Sought, hcl]
        exact ⟨cl', hc', k7, hfm, by rw [hsame _ hidx]; exact k6, fun r a => by rw [hsame r a, k3.par r a, hml r a], fun r a b => by rw [hsame r a, k3.odd r a (by rw [hml r a]; exact b), hml r a], fun r a b d => by rw [hsame r b, k8 r a b d, hml r b]⟩
      · exact j5 g (by omega)
    · rw [j6 r g a (by omega) c]
      exact k3.off r g a c (by omega)
/-- Done alone. -/
theorem finds_all {T N L n : Nat} {dl sq : Int} (hn : 1544 ≤ n) (hT : T ≤ 8) (hN : N ≤ 64) (hL : L ≤ 8) {l : List Int} (hl : l.length = wordsN T N L) (hf : BM.Fits l) (hg : GoodW T L N l) :
    ∃ m s, alone (seekA T L) (seekT L dl sq) n l (anew L 0 0) = (m, s) ∧ s.st = 0 ∧ s.ps.reverse = (List.range L).map (fun h => (resL T L N (fun c => ltK (keyI T L l c) (dl, sq)) l h).1) ∧ s.ss.reverse = (List.range L).map (fun h => (resL T L N (fun c => ltK (keyI T L l c) (dl, sq)) l h).2) ∧
      m.length = wordsN T N L ∧ BM.Fits m ∧ ∀ g, g < L → wayI T L m (resL T L N (fun c => ltK (keyI T L l c) (dl, sq)) l g).1 g = (resL T L N (fun c => ltK (keyI T L l c) (dl, sq)) l g).2 ∧ keptL T L N m g = keptL T L N l g := by
  obtain ⟨k, m', lv', pr', cu', nx', k1, k2, k3, k4, k5, -⟩ := all_run (Q := 193) (Nat.le_refl _) hT hN hL (dl := dl) (sq := sq) hg (fun c _ _ => rfl) L l 0 0 0 [] [] (Nat.le_refl _) ⟨hl, hf, fun _ _ _ _ => rfl, fun _ _ _ => rfl, fun _ _ => rfl⟩ (fun _ _ => .inl rfl)
  refine ⟨m', _, alone_steps k n _ _ _ _ k2 seekA_0 (by omega), rfl, ?_, ?_, k3, k4, fun g hg => (k5 g hg).finds hN⟩
  · simp [← List.map_reverse]
  · simp [← List.map_reverse]
theorem seek_fits {k : Nat} {T L : Int} {s : St} (h : Ok k s) {d : D} (hd : seekA T L s = some d) : DM.Fits d := by
  obtain ⟨-, -, h3, h4, h5, -, -⟩ := h
  have q1 := MM.next_fits T L (idx s.pr) s.lv
  have q2 := MM.next_fits T L (idx s.cu) s.lv
  have q3 := MM.at_fits T L (idx s.cu) 1
  have q4 := MM.at_fits T L (idx s.cu) 2
  unfold seekA at hd
  unfold DM.Fits
  split at hd
  · cases hd; simp only; omega
  · split at hd
    · cases hd; simp only; omega
    · split at hd
      · cases hd; simp only; omega
      · split at hd
        · cases hd; simp only; omega
        · split at hd
          · cases hd; simp only; omega
          · cases hd
end Go.Proofs.YtjefjkpomohpiaaGreatDoor.KM
