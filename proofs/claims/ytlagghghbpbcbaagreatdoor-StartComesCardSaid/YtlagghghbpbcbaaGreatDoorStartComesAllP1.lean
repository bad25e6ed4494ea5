import Derived.Lib.Hide
import Derived.Lib.ItoaNum
import Derived.Lib.ItoaLen
import Derived.Lib.Join
import Derived.IntWalk
/- A list of words as a memory, in plain arithmetic: what is found at a place, what stands there behind each access. No program is named. -/
namespace Go.Proofs.YtlagghghbpbcbaaGreatDoor.CM

/-- Is there a word at that place? -/
def there (l : List Int) (i : Int) : Prop := 0 ≤ i ∧ i < l.length
instance (l : List Int) (i : Int) : Decidable (there l i) := inferInstanceAs (Decidable (_ ∧ _))
theorem there_nat {l : List Int} {i : Int} (h : there l i) : ∃ j : Nat, i = (j : Int) ∧ j < l.length := by
  obtain ⟨h0, h1⟩ := h
  exact ⟨i.toNat, by omega, by omega⟩

def getI (l : List Int) (i : Int) : Int := if there l i then l.getD i.toNat 0 else 0
def setI (l : List Int) (i v : Int) : List Int := if there l i then l.set i.toNat v else l
def swapI (l : List Int) (i a b : Int) : List Int := if getI l i = a then setI l i b else l
def addI (l : List Int) (i a : Int) : List Int := setI l i ((getI l i + a) % 18446744073709551616)

theorem getI_some {l : List Int} {j : Nat} {x : Int} (h : l[j]? = some x) : getI l (j : Int) = x := by
  have hj := (List.getElem?_eq_some_iff.1 h).1
  unfold getI
  rw [if_pos (show there l (j : Int) from ⟨by omega, by omega⟩)]
  simp [List.getD, h]
theorem getI_out {l : List Int} {i : Int} (h : ¬ there l i) : getI l i = 0 := if_neg h
theorem setI_in {l : List Int} {j : Nat} (h : j < l.length) (v : Int) : setI l (j : Int) v = l.set j v := by
  unfold setI
  rw [if_pos (show there l (j : Int) from ⟨by omega, by omega⟩)]
  simp
theorem setI_out {l : List Int} {i : Int} (h : ¬ there l i) (v : Int) : setI l i v = l := if_neg h
theorem setI_length (l : List Int) (i v : Int) : (setI l i v).length = l.length := by
  unfold setI
  split <;> simp
theorem addI_length (l : List Int) (i a : Int) : (addI l i a).length = l.length := setI_length _ _ _

/-- What stands behind an access (2 a store, 3 a swap, 4 an addition, else a load). -/
def nextI (l : List Int) (x : Int × Int × Int × Int) : List Int :=
  if x.1 = 2 then setI l x.2.1 x.2.2.1 else if x.1 = 3 then swapI l x.2.1 x.2.2.1 x.2.2.2 else if x.1 = 4 then addI l x.2.1 x.2.2.1 else l
theorem get_set {l : List Int} {i : Int} (h : there l i) (v : Int) : getI (setI l i v) i = v := by
  obtain ⟨j, rfl, hj⟩ := there_nat h
  rw [setI_in hj]
  exact getI_some (by simp [hj])
theorem set_set {l : List Int} (i u v : Int) : setI (setI l i u) i v = setI l i v := by
  by_cases h : there l i
  · obtain ⟨j, rfl, hj⟩ := there_nat h
    rw [setI_in hj, setI_in hj, setI_in (by simpa using hj)]
    simp
  · rw [setI_out h u]
theorem set_get (l : List Int) (i : Int) : setI l i (getI l i) = l := by
  by_cases h : there l i
  · obtain ⟨j, rfl, hj⟩ := there_nat h
    rw [setI_in hj, getI_some (List.getElem?_eq_getElem hj)]
    simp
  · exact setI_out h _
end Go.Proofs.YtlagghghbpbcbaaGreatDoor.CM

/- States of slots in plain arithmetic: the word of a generation and a status, the next one, its text. Nothing of the program is named here. -/
namespace SM
/-- The word of which the halves are the lowest 32 bits of both. -/
def stI (g s : Int) : Int := g % 4294967296 * 4294967296 + s % 4294967296
def isI (v g s : Int) : Bool := decide (g ≤ 4294967295 ∧ 0 ≤ s ∧ s ≤ 4 ∧ v = stI g s)
def nextI (v : Int) : Int := if v / 4294967296 = 4294967295 then stI 4294967295 4 else stI (v / 4294967296 + 1) 0
theorem stI_lo (g s : Int) : 0 ≤ stI g s := by unfold stI; omega
theorem stI_hi (g s : Int) : stI g s < 18446744073709551616 := by unfold stI; omega
theorem stI_gen {g s : Int} (h0 : 0 ≤ g) (h1 : g ≤ 4294967295) : stI g s / 4294967296 = g := by unfold stI; omega
/-- A number's digits. -/
def decI (u : Int) : List UInt8 := Go.Lib.decDigits u.toNat
/-- What a status is called. -/
def calledI (s : Int) : List UInt8 := if s = 0 then [102, 114, 101, 101] else if s = 1 then [109, 97, 107, 105, 110, 103] else if s = 2 then [108, 105, 118, 101] else if s = 3 then [116, 97, 107, 101, 110] else if s = 4 then [103, 111, 110, 101] else decI s
def wordsL : List (List UInt8) := [[102, 114, 101, 101], [109, 97, 107, 105, 110, 103], [108, 105, 118, 101], [116, 97, 107, 101, 110], [103, 111, 110, 101]]
def textI (v : Int) : List UInt8 := decI (v / 4294967296) ++ [32] ++ calledI (v % 4294967296)
end SM
namespace SM
theorem is_st {g s og os : Int} (g0 : 0 ≤ g) (g1 : g ≤ 4294967295) (s0 : 0 ≤ s) (s1 : s ≤ 4) (h0 : 0 ≤ og) : isI (stI g s) og os = decide (g = og ∧ s = os) := by
  unfold isI
  by_cases h : og ≤ 4294967295 ∧ 0 ≤ os ∧ os ≤ 4
  · obtain ⟨h1, h2, h3⟩ := h
    have : (stI g s = stI og os) ↔ (g = og ∧ s = os) := by unfold stI; omega
    rw [Bool.eq_iff_iff]
    simp only [decide_eq_true_eq, this]
    omega
  · rw [Bool.eq_iff_iff]
    simp only [decide_eq_true_eq]
    omega
end SM

/- Deeds in plain arithmetic: what a word becomes by one, what one finds in a list of words, what stands there behind it, its text. No program is named. -/
namespace Go.Proofs.YtlagghghbpbcbaaGreatDoor.DM
open CM
open SM (decI)

/-- A deed: its kind, place, two numbers, and by which reference. -/
abbrev D := Int × Int × Int × Int × Int

def afterI (w : Int) (x : D) : Int :=
  if x.1 = 2 then x.2.2.1 else if x.1 = 3 then (if w = x.2.2.1 then x.2.2.2.1 else w) else if x.1 = 4 then (w + x.2.2.1) % 18446744073709551616 else w
def foundD (l : List Int) (x : D) : Int := if 1 ≤ x.1 ∧ x.1 ≤ 4 then getI l x.2.1 else 0
def nextD (l : List Int) (x : D) : List Int := nextI l (x.1, x.2.1, x.2.2.1, x.2.2.2.1)
theorem nextD_1 (l : List Int) (i a b y : Int) : nextD l (1, i, a, b, y) = l := by unfold nextD nextI; simp
theorem nextD_2 (l : List Int) (i a b y : Int) : nextD l (2, i, a, b, y) = setI l i a := by unfold nextD nextI; simp
theorem nextD_3 (l : List Int) (i a b y : Int) : nextD l (3, i, a, b, y) = swapI l i a b := by unfold nextD nextI; simp
theorem nextD_4 (l : List Int) (i a b y : Int) : nextD l (4, i, a, b, y) = addI l i a := by unfold nextD nextI; simp
theorem nextD_no {l : List Int} {x : D} (h : ¬ (1 ≤ x.1 ∧ x.1 ≤ 4)) : nextD l x = l := by
  unfold nextD nextI
  rw [if_neg (show ¬ x.1 = 2 by omega), if_neg (show ¬ x.1 = 3 by omega), if_neg (show ¬ x.1 = 4 by omega)]
theorem foundD_no {l : List Int} {x : D} (h : ¬ (1 ≤ x.1 ∧ x.1 ≤ 4)) : foundD l x = 0 := if_neg h
theorem foundD_yes {l : List Int} {x : D} (h : 1 ≤ x.1 ∧ x.1 ≤ 4) : foundD l x = getI l x.2.1 := if_pos h
/-! The text. -/
def nameL (k : Int) : List UInt8 := if k = 1 then [108, 111, 97, 100] else if k = 2 then [115, 116, 111, 114, 101] else if k = 3 then [115, 119, 97, 112] else [97, 100, 100]
def numsL (k a b : Int) : List Int := if k = 1 then [] else if k = 3 then [a, b] else [a]
def byL (y : Int) : List (List UInt8) := if y = 0 then [] else [[98, 121], decI y]
def partsL (name : List UInt8) (i : Int) (ns : List Int) (y : Int) : List (List UInt8) := name :: Go.Lib.itoa i :: (ns.map decI ++ byL y)
def lineL (name : List UInt8) (i : Int) (ns : List Int) (y : Int) : List UInt8 := Go.Lib.join (partsL name i ns y) [32]
def textI (x : D) : List UInt8 := if 1 ≤ x.1 ∧ x.1 ≤ 4 then lineL (nameL x.1) x.2.1 (numsL x.1 x.2.2.1 x.2.2.2.1) x.2.2.2.2 else [110, 111, 110, 101]

def endL (y : Int) : List UInt8 := if y = 0 then [] else [32, 98, 121, 32] ++ decI y
end Go.Proofs.YtlagghghbpbcbaaGreatDoor.DM

/- Tasks in plain lists: what one asks for, told words from a list, and where it is then; done alone to a memory. No program is named. -/
namespace Go.Proofs.YtlagghghbpbcbaaGreatDoor.Runs
open DM

section
variable {σ : Type} (ask : σ → Option D) (tell : σ → Int → σ)

/-- All deeds that are asked for, up to the one behind the last word. -/
def askL : List Int → σ → List D
  | [], s => (ask s).toList
  | f :: fs, s => match ask s with
    | none => []
    | some d => d :: askL fs (tell s f)
/-- Where the task is then. -/
def endL : List Int → σ → σ
  | [], s => s
  | f :: fs, s => match ask s with
    | none => s
    | some _ => endL fs (tell s f)

/-- Amid a run: out was asked for and told, s is next. -/
def Mid (fs : List Int) (s0 : σ) (out : List D) (s : σ) : Prop :=
  out.length ≤ fs.length ∧ askL ask tell fs s0 = out ++ askL ask tell (fs.drop out.length) s ∧ endL ask tell fs s0 = endL ask tell (fs.drop out.length) s
/-- At its end. -/
def Fin (fs : List Int) (s0 : σ) (out : List D) (s : σ) : Prop := askL ask tell fs s0 = out ∧ endL ask tell fs s0 = s

variable {ask tell} {fs : List Int} {s0 s : σ} {out : List D} {d : D} {f : Int}
theorem Mid.start (fs : List Int) (s0 : σ) : Mid ask tell fs s0 [] s0 := ⟨Nat.zero_le _, rfl, rfl⟩
theorem Mid.len (h : Mid ask tell fs s0 out s) : out.length ≤ fs.length := h.1
theorem Mid.more (h : Mid ask tell fs s0 out s) (ha : ask s = some d) (hf : fs[out.length]? = some f) : Mid ask tell fs s0 (out ++ [d]) (tell s f) := by
  obtain ⟨hlt, rfl⟩ := List.getElem?_eq_some_iff.1 hf
  obtain ⟨_, h1, h2⟩ := h
  rw [List.drop_eq_getElem_cons hlt] at h1 h2
  simp only [askL, endL, ha] at h1 h2
  refine ⟨by simp; omega, ?_, ?_⟩
  · rw [h1, List.length_append, List.length_singleton, List.append_assoc]; rfl
  · rw [h2, List.length_append, List.length_singleton]
theorem Mid.last (h : Mid ask tell fs s0 out s) (ha : ask s = some d) (hl : fs.length ≤ out.length) : Fin ask tell fs s0 (out ++ [d]) s := by
  obtain ⟨_, h1, h2⟩ := h
  rw [List.drop_eq_nil_of_le hl] at h1 h2
  simp only [askL, endL, ha] at h1 h2
  exact ⟨h1, h2⟩
theorem Mid.done (h : Mid ask tell fs s0 out s) (ha : ask s = none) : Fin ask tell fs s0 out s := by
  obtain ⟨_, h1, h2⟩ := h
  cases hd : fs.drop out.length with
  | nil =>
    rw [hd] at h1 h2
    simp only [askL, endL, ha] at h1 h2
    exact ⟨by simpa using h1, h2⟩
  | cons x xs =>
    rw [hd] at h1 h2
    simp only [askL, endL, ha] at h1 h2
    exact ⟨by simpa using h1, h2⟩
theorem Fin.one {out' : List D} {s' : σ} (h : Fin ask tell fs s0 out s) (h' : Fin ask tell fs s0 out' s') : out = out' ∧ s = s' := ⟨h.1.symm.trans h'.1, h.2.symm.trans h'.2⟩

variable (ask tell) in
/-- All that is asked for behind pre, which was asked for (and told) ahead; where the task is then. -/
def Fins (fs : List Int) (pre : List D) (s0 : σ) (out : List D) (s : σ) : Prop := pre ++ askL ask tell (fs.drop pre.length) s0 = out ∧ endL ask tell (fs.drop pre.length) s0 = s
variable (ask tell) in
/-- Amid such a run: out, of which pre is a part, was asked for and told, s is next. -/
def Amid (fs : List Int) (pre : List D) (s0 : σ) (out : List D) (s : σ) : Prop :=
  out.length ≤ fs.length ∧ pre ++ askL ask tell (fs.drop pre.length) s0 = out ++ askL ask tell (fs.drop out.length) s ∧ endL ask tell (fs.drop pre.length) s0 = endL ask tell (fs.drop out.length) s
variable {pre : List D}
theorem Amid.start {fs : List Int} {pre : List D} (h : pre.length ≤ fs.length) (s0 : σ) : Amid ask tell fs pre s0 pre s0 := ⟨h, rfl, rfl⟩
theorem Amid.len (h : Amid ask tell fs pre s0 out s) : out.length ≤ fs.length := h.1
theorem Amid.more (h : Amid ask tell fs pre s0 out s) (ha : ask s = some d) (hf : fs[out.length]? = some f) : Amid ask tell fs pre s0 (out ++ [d]) (tell s f) := by
  obtain ⟨hlt, rfl⟩ := List.getElem?_eq_some_iff.1 hf
  obtain ⟨_, h1, h2⟩ := h
  rw [List.drop_eq_getElem_cons hlt] at h1 h2
  simp only [askL, endL, ha] at h1 h2
  refine ⟨by simp; omega, ?_, ?_⟩
  · rw [h1, List.length_append, List.length_singleton, List.append_assoc]; rfl
  · rw [h2, List.length_append, List.length_singleton]
theorem Amid.last (h : Amid ask tell fs pre s0 out s) (ha : ask s = some d) (hl : fs.length ≤ out.length) : Fins ask tell fs pre s0 (out ++ [d]) s := by
  obtain ⟨_, h1, h2⟩ := h
  rw [List.drop_eq_nil_of_le hl] at h1 h2
  simp only [askL, endL, ha] at h1 h2
  exact ⟨h1, h2⟩
theorem Amid.done (h : Amid ask tell fs pre s0 out s) (ha : ask s = none) : Fins ask tell fs pre s0 out s := by
  obtain ⟨_, h1, h2⟩ := h
  cases hd : fs.drop out.length with
  | nil =>
    rw [hd] at h1 h2
    simp only [askL, endL, ha] at h1 h2
    exact ⟨by simpa using h1, h2⟩
  | cons x xs =>
    rw [hd] at h1 h2
    simp only [askL, endL, ha] at h1 h2
    exact ⟨by simpa using h1, h2⟩
theorem Fins.start (h : Fins ask tell fs [] s0 out s) : Fin ask tell fs s0 out s := h
theorem Fins.one {out' : List D} {s' : σ} (h : Fins ask tell fs pre s0 out s) (h' : Fins ask tell fs pre s0 out' s') : out = out' ∧ s = s' := ⟨h.1.symm.trans h'.1, h.2.symm.trans h'.2⟩

/-! A task that goes the steps of another one, as long as that has some. -/
section
variable {τ : Type} {askS : τ → Option D} {tellS : τ → Int → τ} {ι : τ → σ}
/-- Each step of the inner one is one of the outer one. -/
def Holds (ask : σ → Option D) (tell : σ → Int → σ) (askS : τ → Option D) (tellS : τ → Int → τ) (ι : τ → σ) : Prop := ∀ t d, askS t = some d → ask (ι t) = some d ∧ ∀ f, tell (ι t) f = ι (tellS t f)
theorem askL_in (h : Holds ask tell askS tellS ι) : ∀ (fs : List Int) (t : τ),
    (∃ d, askS (endL askS tellS fs t) = some d ∧ askL ask tell fs (ι t) = askL askS tellS fs t ∧ endL ask tell fs (ι t) = ι (endL askS tellS fs t)) ∨
    (askS (endL askS tellS fs t) = none ∧ (askL askS tellS fs t).length ≤ fs.length ∧ askL ask tell fs (ι t) = askL askS tellS fs t ++ askL ask tell (fs.drop (askL askS tellS fs t).length) (ι (endL askS tellS fs t)) ∧
      endL ask tell fs (ι t) = endL ask tell (fs.drop (askL askS tellS fs t).length) (ι (endL askS tellS fs t)))
  | [], t => by
    cases ha : askS t with
    | none => exact .inr ⟨by simp [endL, ha], by simp [askL, ha], by simp [askL, endL, ha], by simp [askL, endL, ha]⟩
    | some d => exact .inl ⟨d, by simp [endL, ha], by simp [askL, ha, (h t d ha).1], by simp [endL]⟩
  | f :: fs, t => by
    cases ha : askS t with
    | none => exact .inr ⟨by simp [endL, ha], by simp [askL, ha], by simp [askL, endL, ha], by simp [askL, endL, ha]⟩
    | some d =>
      obtain ⟨h1, h2⟩ := h t d ha
      have h3 := h2 f
      rcases askL_in h fs (tellS t f) with ⟨d', q1, q2, q3⟩ | ⟨q1, q2, q3, q4⟩
      · exact .inl ⟨d', by simpa [endL, ha] using q1, by simp [askL, ha, h1, h3, q2], by simp [endL, ha, h1, h3, q3]⟩
      · refine .inr ⟨by simpa [endL, ha] using q1, by simp [askL, ha]; exact q2, ?_, ?_⟩
        · simp [askL, endL, ha, h1, h3]; exact q3
        · simp [askL, endL, ha, h1, h3]; exact q4
/-- Behind the inner one's run the outer one is at its end, or goes on. -/
theorem Amid.inner {t : τ} (h : Amid ask tell fs pre s0 out (ι t)) (hh : Holds ask tell askS tellS ι) {out' : List D} {t' : τ} (hf : Fins askS tellS fs out t out' t') :
    ((askS t').isSome = true → Fins ask tell fs pre s0 out' (ι t')) ∧ (askS t' = none → Amid ask tell fs pre s0 out' (ι t')) := by
  obtain ⟨hl, h1, h2⟩ := h
  obtain ⟨rfl, rfl⟩ := hf
  rcases askL_in hh (fs.drop out.length) t with ⟨d, q1, q2, q3⟩ | ⟨q1, q2, q3, q4⟩
  · refine ⟨fun _ => ⟨by rw [h1, q2], by rw [h2, q3]⟩, fun e => ?_⟩
    rw [q1] at e
    cases e
  · refine ⟨fun e => ?_, fun _ => ⟨?_, ?_, ?_⟩⟩
    · rw [q1] at e
      cases e
    · rw [List.length_append]
      rw [List.length_drop] at q2
      omega
    · rw [h1, q3, List.length_append, ← List.drop_drop, List.append_assoc]
    · rw [h2, q4, List.length_append, ← List.drop_drop]
end

/-! A task that goes the steps of another one, and goes on behind its last one as soon as that is told. -/
section
variable {τ : Type} {askS : τ → Option D} {tellS : τ → Int → τ} {ι : τ → σ} {κ : σ}
/-- Each step of the inner one is one of the outer one, which stands at κ as soon as the inner one is done. -/
def Passes (ask : σ → Option D) (tell : σ → Int → σ) (askS : τ → Option D) (tellS : τ → Int → τ) (ι : τ → σ) (κ : σ) : Prop := ∀ t d, askS t = some d → ask (ι t) = some d ∧ ∀ f, tell (ι t) f = if (askS (tellS t f)).isSome then ι (tellS t f) else κ
theorem askL_pass (h : Passes ask tell askS tellS ι κ) : ∀ (fs : List Int) (t : τ) (d0 : D), askS t = some d0 →
    (∃ d, askS (endL askS tellS fs t) = some d ∧ askL ask tell fs (ι t) = askL askS tellS fs t ∧ endL ask tell fs (ι t) = ι (endL askS tellS fs t)) ∨
    (askS (endL askS tellS fs t) = none ∧ (askL askS tellS fs t).length ≤ fs.length ∧ askL ask tell fs (ι t) = askL askS tellS fs t ++ askL ask tell (fs.drop (askL askS tellS fs t).length) κ ∧
      endL ask tell fs (ι t) = endL ask tell (fs.drop (askL askS tellS fs t).length) κ)
  | [], t, d, ha => .inl ⟨d, by simp [endL, ha], by simp [askL, ha, (h t d ha).1], by simp [endL]⟩
  | f :: fs, t, d, ha => by
    obtain ⟨h1, h2⟩ := h t d ha
    have h3 := h2 f
    cases hb : askS (tellS t f) with
    | none =>
      rw [hb, Option.isSome_none, if_neg (by simp)] at h3
      have e1 : askL askS tellS fs (tellS t f) = [] := by cases fs <;> simp [askL, hb]
      have e2 : endL askS tellS fs (tellS t f) = tellS t f := by cases fs <;> simp [endL, hb]
      refine .inr ⟨by simp [endL, ha, e2, hb], by simp [askL, ha, e1], ?_, ?_⟩
      · simp [askL, ha, h1, h3, e1]
      · simp [askL, endL, ha, h1, h3, e1]
    | some d2 =>
      rw [hb, Option.isSome_some, if_pos rfl] at h3
      rcases askL_pass h fs (tellS t f) d2 hb with ⟨d', q1, q2, q3⟩ | ⟨q1, q2, q3, q4⟩
      · exact .inl ⟨d', by simpa [endL, ha] using q1, by simp [askL, ha, h1, h3, q2], by simp [endL, ha, h1, h3, q3]⟩
      · refine .inr ⟨by simpa [endL, ha] using q1, by simp [askL, ha]; exact q2, ?_, ?_⟩
        · simp [askL, ha, h1, h3]; exact q3
        · simp [askL, endL, ha, h1, h3]; exact q4
/-- Behind the inner one's run the outer one is at its end, or goes on at κ. -/
theorem Amid.pass {t : τ} {d0 : D} (h : Amid ask tell fs pre s0 out (ι t)) (hh : Passes ask tell askS tellS ι κ) (ha : askS t = some d0) {out' : List D} {t' : τ} (hf : Fins askS tellS fs out t out' t') :
    ((askS t').isSome = true → Fins ask tell fs pre s0 out' (ι t')) ∧ (askS t' = none → Amid ask tell fs pre s0 out' κ) := by
  obtain ⟨hl, h1, h2⟩ := h
  obtain ⟨rfl, rfl⟩ := hf
  rcases askL_pass hh (fs.drop out.length) t d0 ha with ⟨d, q1, q2, q3⟩ | ⟨q1, q2, q3, q4⟩
  · refine ⟨fun _ => ⟨by rw [h1, q2], by rw [h2, q3]⟩, fun e => ?_⟩
    rw [q1] at e
    cases e
  · refine ⟨fun e => ?_, fun _ => ⟨?_, ?_, ?_⟩⟩
    · rw [q1] at e
      cases e
    · rw [List.length_append]
      rw [List.length_drop] at q2
      omega
    · rw [h1, q3, List.length_append, ← List.drop_drop, List.append_assoc]
    · rw [h2, q4, List.length_append, ← List.drop_drop]
end

variable (ask tell) in
/-- Done alone, some deeds at most: the words, and where the task is then. -/
def alone : Nat → List Int → σ → List Int × σ
  | 0, l, s => (l, s)
  | k + 1, l, s => match ask s with
    | none => (l, s)
    | some d => alone k (nextD l d) (tell s (foundD l d))
variable (ask tell) in
/-- Just k deeds, each asked for, done alone. -/
def steps : Nat → List Int → σ → Option (List Int × σ)
  | 0, l, s => some (l, s)
  | k + 1, l, s => match ask s with
    | none => none
    | some d => steps k (nextD l d) (tell s (foundD l d))
theorem steps_more {k : Nat} {l : List Int} (ha : ask s = some d) : steps ask tell (k + 1) l s = steps ask tell k (nextD l d) (tell s (foundD l d)) := by
  simp only [steps, ha]
/-- Amid just so many steps: one is asked for, as long as some are left. -/
theorem steps_amid {k : Nat} {l lf : List Int} {s sf : σ} (h : steps ask tell (k + 1) l s = some (lf, sf)) : ∃ d, ask s = some d ∧ steps ask tell k (nextD l d) (tell s (foundD l d)) = some (lf, sf) := by
  cases ha : ask s with
  | none => simp [steps, ha] at h
  | some d => exact ⟨d, rfl, by rwa [steps_more ha] at h⟩
/-! .. and goes on behind its last one at what that one has come to. -/
section
variable {τ : Type} {askS : τ → Option D} {tellS : τ → Int → τ} {ι κ : τ → σ}
/-- Each step of the inner one is one of the outer one, which stands at κ of it as soon as the inner one is done. -/
def Leads (ask : σ → Option D) (tell : σ → Int → σ) (askS : τ → Option D) (tellS : τ → Int → τ) (ι κ : τ → σ) : Prop := ∀ t d, askS t = some d → ask (ι t) = some d ∧ ∀ f, tell (ι t) f = if (askS (tellS t f)).isSome then ι (tellS t f) else κ (tellS t f)
theorem steps_lead (h : Leads ask tell askS tellS ι κ) : ∀ (m k : Nat) (l l' : List Int) (t t' : τ) (d0 : D), askS t = some d0 → steps askS tellS m l t = some (l', t') → askS t' = none → steps ask tell (m + k) l (ι t) = steps ask tell k l' (κ t')
  | 0, k, l, l', t, t', d, ha, hs, hn => by
    simp only [steps, Option.some.injEq, Prod.mk.injEq] at hs
    rw [← hs.2, ha] at hn
    cases hn
  | m + 1, k, l, l', t, t', d, ha, hs, hn => by
    obtain ⟨h1, h2⟩ := h t d ha
    rw [steps_more ha] at hs
    rw [show m + 1 + k = (m + k) + 1 by omega, steps_more h1, h2]
    cases hb : askS (tellS t (foundD l d)) with
    | none =>
      cases m with
      | zero =>
        simp only [steps, Option.some.injEq, Prod.mk.injEq] at hs
        rw [Option.isSome_none, if_neg (by simp), Nat.zero_add, hs.1, hs.2]
      | succ m => simp [steps, hb] at hs
    | some d2 =>
      rw [Option.isSome_some, if_pos rfl]
      exact steps_lead h m k _ _ _ _ d2 hb hs hn
end
end
end Go.Proofs.YtlagghghbpbcbaaGreatDoor.Runs

/- Plans in plain arithmetic, going round at 64 bits: where words are. No program is named. -/
namespace Go.Proofs.YtlagghghbpbcbaaGreatDoor.PM
open Go.RowKit

theorem wrap_off (x k : Int) : wrap64 (x - 18446744073709551616 * k) = wrap64 x := by unfold wrap64; omega
theorem wrap_is (a : Int) : ∃ k : Int, wrap64 a = a - 18446744073709551616 * k := ⟨(a + 9223372036854775808) / 18446744073709551616, by unfold wrap64; omega⟩
theorem w_w (a : Int) : wrap64 (wrap64 a) = wrap64 a := by unfold wrap64; omega
theorem add_l (a b : Int) : wrap64 (wrap64 a + b) = wrap64 (a + b) := by unfold wrap64; omega
theorem add_r (a b : Int) : wrap64 (a + wrap64 b) = wrap64 (a + b) := by unfold wrap64; omega
theorem mul_l (a b : Int) : wrap64 (wrap64 a * b) = wrap64 (a * b) := by
  obtain ⟨k, hk⟩ := wrap_is a
  rw [hk, Int.sub_mul, Int.mul_assoc, wrap_off]
theorem mul_r (a b : Int) : wrap64 (a * wrap64 b) = wrap64 (a * b) := by
  rw [Int.mul_comm, mul_l, Int.mul_comm]
theorem wrap_in {n : Int} (h : -9223372036854775808 ≤ n ∧ n ≤ 9223372036854775807) : wrap64 n = n := by unfold wrap64; omega

/-- Where the n-th row of the threads' words begins. -/
def rowI (T n : Int) : Int := wrap64 (4 + n * T)
/-- Where the k-th word of a slot is. -/
def atI (T L s k : Int) : Int := wrap64 (4 + 3 * T + L + (s - 1) * (6 + L) + k)
/-- Where the k-th word behind a row's first one is. -/
def ofI (T n k : Int) : Int := wrap64 (4 + n * T + k)
/-- Where a way on is. -/
def nextI (T L s k : Int) : Int := if s = 0 then ofI T 3 k else atI T L s (6 + k)
theorem next_zero (T L k : Int) : nextI T L 0 k = ofI T 3 k := if_pos rfl
theorem next_some {T L s k : Int} (h : ¬ s = 0) : nextI T L s k = atI T L s (6 + k) := if_neg h

theorem row_of (T n k : Int) : wrap64 (rowI T n + k) = ofI T n k := by unfold rowI ofI; rw [add_l]
theorem at_of (T L s k : Int) : wrap64 (atI T L s 0 + k) = atI T L s k := by unfold atI; rw [add_l, Int.add_zero]
theorem w_six (x k : Int) : wrap64 (wrap64 (wrap64 x + 6) + k) = wrap64 (x + (6 + k)) := by unfold wrap64; omega
theorem at_next (T L s k : Int) : wrap64 (wrap64 (atI T L s 0 + 6) + k) = atI T L s (6 + k) := by unfold atI; rw [w_six, Int.add_zero]
theorem at_wrap (T L s k : Int) : atI T L s (wrap64 k) = atI T L s k := by unfold atI; rw [add_r]
theorem first_of (T L s : Int) : wrap64 (wrap64 (rowI T 3 + L) + wrap64 (wrap64 (s - 1) * wrap64 (6 + L))) = atI T L s 0 := by
  unfold rowI atI
  rw [add_l, mul_l, mul_r, add_r, Int.add_assoc, add_l, Int.add_zero, ← Int.add_assoc]

theorem ref_row (T n t : Int) : wrap64 (wrap64 (4 + wrap64 (n * T)) + t) = ofI T n t := by unfold ofI; rw [add_r, add_l]
theorem w_sum (a L m k : Int) : wrap64 (wrap64 (wrap64 (wrap64 (4 + wrap64 a) + L) + wrap64 m) + k) = wrap64 (4 + a + L + m + k) := by unfold wrap64; omega
theorem ref_slot (T L s k : Int) : wrap64 (wrap64 (wrap64 (wrap64 (4 + wrap64 (3 * T)) + L) + wrap64 (wrap64 (s - 1) * wrap64 (6 + L))) + k) = atI T L s k := by
  unfold atI
  rw [mul_l, mul_r, w_sum]

/-- Whether a plan is right. -/
def rightB (T S L G : Int) : Bool := decide (1 ≤ T ∧ T ≤ 8 ∧ 1 ≤ S ∧ S ≤ 64 ∧ 1 ≤ L ∧ L ≤ 8 ∧ G ≤ 4294967295)
theorem right_is {T S L G : Int} (h : rightB T S L G = true) : 1 ≤ T ∧ T ≤ 8 ∧ 1 ≤ S ∧ S ≤ 64 ∧ 1 ≤ L ∧ L ≤ 8 ∧ G ≤ 4294967295 := of_decide_eq_true h
theorem right_not {T S L G : Int} (h : rightB T S L G = false) : ¬ (1 ≤ T ∧ T ≤ 8 ∧ 1 ≤ S ∧ S ≤ 64 ∧ 1 ≤ L ∧ L ≤ 8 ∧ G ≤ 4294967295) := of_decide_eq_false h
end Go.Proofs.YtlagghghbpbcbaaGreatDoor.PM

/- Plain arithmetic of keys: how two lie, how many of a list are less, whether a list rises, what sorting gives. No program is named. -/
namespace Go.Proofs.YtlagghghbpbcbaaGreatDoor.OM

abbrev Key := Int × Int

def cmpI (a b : Int) : Int := if a < b then -1 else if b < a then 1 else 0
def cmpK (x y : Key) : Int := if cmpI x.1 y.1 = 0 then cmpI x.2 y.2 else cmpI x.1 y.1
def ltK (x y : Key) : Bool := decide (x.1 < y.1) || (decide (x.1 = y.1) && decide (x.2 < y.2))

theorem cmpI_cases (a b : Int) : (a < b ∧ cmpI a b = -1) ∨ (b < a ∧ cmpI a b = 1) ∨ (a = b ∧ cmpI a b = 0) := by
  unfold cmpI
  by_cases h : a < b
  · exact .inl ⟨h, if_pos h⟩
  · by_cases h2 : b < a
    · exact .inr (.inl ⟨h2, by rw [if_neg h, if_pos h2]⟩)
    · exact .inr (.inr ⟨by omega, by rw [if_neg h, if_neg h2]⟩)
theorem ltK_iff (x y : Key) : ltK x y = true ↔ x.1 < y.1 ∨ (x.1 = y.1 ∧ x.2 < y.2) := by simp [ltK]
theorem cmpK_cases (x y : Key) : (ltK x y = true ∧ ltK y x = false ∧ cmpK x y = -1) ∨ (ltK x y = false ∧ ltK y x = true ∧ cmpK x y = 1) ∨ (x = y ∧ ltK x y = false ∧ ltK y x = false ∧ cmpK x y = 0) := by
  obtain ⟨a, b⟩ := x
  obtain ⟨c, d⟩ := y
  have h1 := ltK_iff (a, b) (c, d)
  have h2 := ltK_iff (c, d) (a, b)
  simp only at h1 h2
  have e : cmpK (a, b) (c, d) = if cmpI a c = 0 then cmpI b d else cmpI a c := rfl
  rw [e]
  cases g1 : ltK (a, b) (c, d) <;> cases g2 : ltK (c, d) (a, b) <;> rw [g1] at h1 <;> rw [g2] at h2 <;> simp only [Bool.false_eq_true, false_iff, true_iff] at h1 h2 <;>
    rcases cmpI_cases a c with ⟨p, q⟩ | ⟨p, q⟩ | ⟨p, q⟩ <;> rcases cmpI_cases b d with ⟨r, s⟩ | ⟨r, s⟩ | ⟨r, s⟩ <;> simp [q, s] <;> omega
theorem ltK_irrefl (x : Key) : ltK x x = false := by
  have := ltK_iff x x
  cases h : ltK x x
  · rfl
  · rw [h] at this; simp at this
theorem ltK_trans (x y z : Key) (h1 : ltK x y = true) (h2 : ltK y z = true) : ltK x z = true := by
  rw [ltK_iff] at *; omega
/-! How many of a list are less. -/
def placeK (l : List Key) (k : Key) : Nat := (l.filter fun x => ltK x k).length
/-! Whether a list rises. -/
def risesTo (l : List Key) (n : Nat) : Prop := ∀ j x y, j + 1 < n → l[j]? = some x → l[j + 1]? = some y → ltK x y = true
def risingK (l : List Key) : Bool := (List.range (l.length - 1)).all fun j => match l[j]?, l[j + 1]? with | some x, some y => ltK x y | _, _ => true
/-! Sorting. -/
def leK (x y : Key) : Bool := !ltK y x
def sortK (l : List Key) : List Key := l.mergeSort leK
/-! A key that is moved ahead in a list, step by step. -/
def insL (p : List Key) (j : Nat) (y : Key) : List Key := p.take j ++ y :: p.drop j
end Go.Proofs.YtlagghghbpbcbaaGreatDoor.OM

/- Seeking, in plain arithmetic: what a seeker asks for, and what it becomes. No program is named. -/
namespace Go.Proofs.YtlagghghbpbcbaaGreatDoor.KM
open DM PM CM Runs
open Go.RowKit (wrap64)

/-- The slot of a reference. -/
def idx (r : Int) : Int := r % 4294967296 / 2
/-- A seeker: its step (0 done, 1 a level begins, 2 looks, 3 cuts, 4 weighs, 5 numbers), its level, where it is, and what was found, from the highest level on. -/
structure St where
  st : Int
  lv : Int
  pr : Int
  cu : Int
  nx : Int
  ps : List Int
  ss : List Int
/-- On at the level below lv. -/
def desc (lv pr cu nx : Int) (ps ss : List Int) : St := if lv ≤ 0 then ⟨0, lv, pr, cu, nx, ps, ss⟩ else ⟨1, lv - 1, pr, cu, nx, ps, ss⟩
/-- Anew, of L levels. -/
def anew (L cu nx : Int) : St := desc L 0 cu nx [] []
def find (lv pr cu nx : Int) (ps ss : List Int) (x : Int) : St := desc lv pr cu nx (ps ++ [pr]) (ss ++ [x])
def reach (lv pr cu nx : Int) (ps ss : List Int) (r : Int) : St := if idx r = 0 then find lv pr cu nx ps ss 0 else ⟨2, lv, pr, r, nx, ps, ss⟩
def pass (lv pr cu nx : Int) (ps ss : List Int) (b : Bool) : St := if b then reach lv cu cu nx ps ss nx else find lv pr cu nx ps ss cu
def seekA (T L : Int) (s : St) : Option D :=
  if s.st = 1 then some (1, nextI T L (idx s.pr) s.lv, 0, 0, s.pr) else if s.st = 2 then some (1, nextI T L (idx s.cu) s.lv, 0, 0, s.cu) else if s.st = 3 then some (3, nextI T L (idx s.pr) s.lv, s.cu, s.nx, s.pr) else
  if s.st = 4 then some (1, atI T L (idx s.cu) 1, 0, 0, s.cu) else if s.st = 5 then some (1, atI T L (idx s.cu) 2, 0, 0, s.cu) else none
def seekT (L dl sq : Int) (s : St) (f : Int) : St :=
  if s.st = 1 then (if f % 2 = 1 then anew L s.cu s.nx else reach s.lv s.pr s.cu s.nx s.ps s.ss f) else
  if s.st = 2 then ⟨if f % 2 = 1 then 3 else 4, s.lv, s.pr, s.cu, f - f % 2, s.ps, s.ss⟩ else
  if s.st = 3 then (if f = s.cu then reach s.lv s.pr s.cu s.nx s.ps s.ss s.nx else anew L s.cu s.nx) else
  if s.st = 4 then (if wrap64 f = dl then ⟨5, s.lv, s.pr, s.cu, s.nx, s.ps, s.ss⟩ else pass s.lv s.pr s.cu s.nx s.ps s.ss (decide (wrap64 f < dl))) else
  if s.st = 5 then pass s.lv s.pr s.cu s.nx s.ps s.ss (decide (f < sq)) else s
/-- What it tells: ahead of the end nothing. -/
def predsL (s : St) : List Int := if s.st = 0 then s.ps.reverse else []
def succsL (s : St) : List Int := if s.st = 0 then s.ss.reverse else []

section
variable {T L dl sq lv pr cu nx f r : Int} {ps ss : List Int} {b : Bool}
theorem desc_end (h : lv ≤ 0) : desc lv pr cu nx ps ss = ⟨0, lv, pr, cu, nx, ps, ss⟩ := if_pos h
theorem desc_on (h : ¬ lv ≤ 0) : desc lv pr cu nx ps ss = ⟨1, lv - 1, pr, cu, nx, ps, ss⟩ := if_neg h
theorem reach_none (h : idx r = 0) : reach lv pr cu nx ps ss r = find lv pr cu nx ps ss 0 := if_pos h
theorem reach_some (h : ¬ idx r = 0) : reach lv pr cu nx ps ss r = ⟨2, lv, pr, r, nx, ps, ss⟩ := if_neg h
theorem pass_yes : pass lv pr cu nx ps ss true = reach lv cu cu nx ps ss nx := if_pos rfl
theorem pass_no : pass lv pr cu nx ps ss false = find lv pr cu nx ps ss cu := if_neg (by simp)
theorem seekA_0 : seekA T L ⟨0, lv, pr, cu, nx, ps, ss⟩ = none := by simp [seekA]
theorem seekA_1 : seekA T L ⟨1, lv, pr, cu, nx, ps, ss⟩ = some (1, nextI T L (idx pr) lv, 0, 0, pr) := by simp [seekA]
theorem seekA_2 : seekA T L ⟨2, lv, pr, cu, nx, ps, ss⟩ = some (1, nextI T L (idx cu) lv, 0, 0, cu) := by simp [seekA]
theorem seekA_3 : seekA T L ⟨3, lv, pr, cu, nx, ps, ss⟩ = some (3, nextI T L (idx pr) lv, cu, nx, pr) := by simp [seekA]
theorem seekA_4 : seekA T L ⟨4, lv, pr, cu, nx, ps, ss⟩ = some (1, atI T L (idx cu) 1, 0, 0, cu) := by simp [seekA]
theorem seekA_5 : seekA T L ⟨5, lv, pr, cu, nx, ps, ss⟩ = some (1, atI T L (idx cu) 2, 0, 0, cu) := by simp [seekA]
theorem seekT_0 : seekT L dl sq ⟨0, lv, pr, cu, nx, ps, ss⟩ f = ⟨0, lv, pr, cu, nx, ps, ss⟩ := by simp [seekT]
theorem seekT_1m (h : f % 2 = 1) : seekT L dl sq ⟨1, lv, pr, cu, nx, ps, ss⟩ f = anew L cu nx := by simp [seekT, h]
theorem seekT_1 (h : ¬ f % 2 = 1) : seekT L dl sq ⟨1, lv, pr, cu, nx, ps, ss⟩ f = reach lv pr cu nx ps ss f := by simp [seekT, h]
theorem seekT_2m (h : f % 2 = 1) : seekT L dl sq ⟨2, lv, pr, cu, nx, ps, ss⟩ f = ⟨3, lv, pr, cu, f - f % 2, ps, ss⟩ := by simp [seekT, h]
theorem seekT_2 (h : ¬ f % 2 = 1) : seekT L dl sq ⟨2, lv, pr, cu, nx, ps, ss⟩ f = ⟨4, lv, pr, cu, f - f % 2, ps, ss⟩ := by simp [seekT, h]
theorem seekT_3 : seekT L dl sq ⟨3, lv, pr, cu, nx, ps, ss⟩ cu = reach lv pr cu nx ps ss nx := by simp [seekT]
theorem seekT_3n (h : ¬ f = cu) : seekT L dl sq ⟨3, lv, pr, cu, nx, ps, ss⟩ f = anew L cu nx := by simp [seekT, h]
theorem seekT_4e (h : wrap64 f = dl) : seekT L dl sq ⟨4, lv, pr, cu, nx, ps, ss⟩ f = ⟨5, lv, pr, cu, nx, ps, ss⟩ := by simp [seekT, h]
theorem seekT_4 (h : ¬ wrap64 f = dl) (hb : b = decide (wrap64 f < dl)) : seekT L dl sq ⟨4, lv, pr, cu, nx, ps, ss⟩ f = pass lv pr cu nx ps ss b := by subst hb; simp [seekT, h]
theorem seekT_5 (hb : b = decide (f < sq)) : seekT L dl sq ⟨5, lv, pr, cu, nx, ps, ss⟩ f = pass lv pr cu nx ps ss b := by subst hb; simp [seekT]
end

/-- Such a seeker as there can be, told k words at most. -/
structure Ok (k : Nat) (s : St) : Prop where
  st : s.st = 0 ∨ s.st = 1 ∨ s.st = 2 ∨ s.st = 3 ∨ s.st = 4 ∨ s.st = 5
  lv : s.lv ≤ 9223372036854775807
  pr : 0 ≤ s.pr ∧ s.pr < 18446744073709551616
  cu : 0 ≤ s.cu ∧ s.cu < 18446744073709551616
  nx : 0 ≤ s.nx ∧ s.nx < 18446744073709551616
  len : s.ss.length = s.ps.length
  few : s.ps.length ≤ k
theorem Ok.up {k k' : Nat} {s : St} (h : Ok k s) (hk : k ≤ k') : Ok k' s := ⟨h.st, h.lv, h.pr, h.cu, h.nx, h.len, Nat.le_trans h.few hk⟩
section
variable {k : Nat} {lv pr cu nx r : Int} {ps ss : List Int} {b : Bool}
theorem desc_ok (hl : lv ≤ 9223372036854775807) (hp : 0 ≤ pr ∧ pr < 18446744073709551616) (hc : 0 ≤ cu ∧ cu < 18446744073709551616) (hn : 0 ≤ nx ∧ nx < 18446744073709551616) (he : ss.length = ps.length) (hk : ps.length ≤ k) : Ok k (desc lv pr cu nx ps ss) := by
  unfold desc
  split
  · exact ⟨.inl rfl, hl, hp, hc, hn, he, hk⟩
  · exact ⟨.inr (.inl rfl), by show lv - 1 ≤ _; omega, hp, hc, hn, he, hk⟩
theorem anew_ok {L : Int} (hl : L ≤ 9223372036854775807) (hc : 0 ≤ cu ∧ cu < 18446744073709551616) (hn : 0 ≤ nx ∧ nx < 18446744073709551616) : Ok k (anew L cu nx) :=
  desc_ok hl (by omega) hc hn rfl (Nat.zero_le _)
theorem find_ok {x : Int} (hl : lv ≤ 9223372036854775807) (hp : 0 ≤ pr ∧ pr < 18446744073709551616) (hc : 0 ≤ cu ∧ cu < 18446744073709551616) (hn : 0 ≤ nx ∧ nx < 18446744073709551616) (he : ss.length = ps.length) (hk : ps.length ≤ k) : Ok (k + 1) (find lv pr cu nx ps ss x) :=
  desc_ok hl hp hc hn (by simp [he]) (by simp; omega)
theorem reach_ok (hl : lv ≤ 9223372036854775807) (hp : 0 ≤ pr ∧ pr < 18446744073709551616) (hc : 0 ≤ cu ∧ cu < 18446744073709551616) (hn : 0 ≤ nx ∧ nx < 18446744073709551616) (he : ss.length = ps.length) (hk : ps.length ≤ k) (hr : 0 ≤ r ∧ r < 18446744073709551616) : Ok (k + 1) (reach lv pr cu nx ps ss r) := by
  unfold reach
  split
  · exact find_ok hl hp hc hn he hk
  · exact ⟨.inr (.inr (.inl rfl)), hl, hp, hr, hn, he, Nat.le_succ_of_le hk⟩
theorem pass_ok (hl : lv ≤ 9223372036854775807) (hp : 0 ≤ pr ∧ pr < 18446744073709551616) (hc : 0 ≤ cu ∧ cu < 18446744073709551616) (hn : 0 ≤ nx ∧ nx < 18446744073709551616) (he : ss.length = ps.length) (hk : ps.length ≤ k) : Ok (k + 1) (pass lv pr cu nx ps ss b) := by
  unfold pass
  split
  · exact reach_ok hl hc hc hn he hk hn
  · exact find_ok hl hp hc hn he hk
end
theorem seekT_ok {k : Nat} {L dl sq f : Int} {s : St} (h : Ok k s) (hL : L ≤ 9223372036854775807) (hf : 0 ≤ f ∧ f < 18446744073709551616) : Ok (k + 1) (seekT L dl sq s f) := by
  obtain ⟨h1, h2, h3, h4, h5, h6, h7⟩ := id h
  unfold seekT
  split
  · split
    · exact anew_ok hL h4 h5
    · exact reach_ok h2 h3 h4 h5 h6 h7 hf
  · split
    · exact ⟨by simp only; split <;> simp, h2, h3, h4, by simp only; omega, h6, Nat.le_succ_of_le h7⟩
    · split
      · split
        · exact reach_ok h2 h3 h4 h5 h6 h7 h5
        · exact anew_ok hL h4 h5
      · split
        · split
          · exact ⟨by simp, h2, h3, h4, h5, h6, Nat.le_succ_of_le h7⟩
          · exact pass_ok h2 h3 h4 h5 h6 h7
        · split
          · exact pass_ok h2 h3 h4 h5 h6 h7
          · exact h.up (Nat.le_succ _)
end Go.Proofs.YtlagghghbpbcbaaGreatDoor.KM

/- A seeker at its end has found one for each level, and all that it found are words. No program is named. -/
namespace Go.Proofs.YtlagghghbpbcbaaGreatDoor.KM
set_option maxRecDepth 20000
open DM PM CM Runs
open Go.RowKit (wrap64)
set_option linter.unusedVariables false
set_option linter.unusedSimpArgs false

def Word (x : Int) : Prop := 0 ≤ x ∧ x < 18446744073709551616
/-- How many it has found, of L levels. -/
structure Full (L : Int) (s : St) : Prop where
  lv : 0 ≤ s.lv
  amid : ¬ s.st = 0 → (s.ps.length : Int) + s.lv + 1 = L
  done : s.st = 0 → (s.ps.length : Int) = L
  ps : ∀ x ∈ s.ps, Word x
  ss : ∀ x ∈ s.ss, Word x
section
variable {L lv pr cu nx r : Int} {ps ss : List Int} {b : Bool}
theorem desc_full (hl : 0 ≤ lv) (he : (ps.length : Int) + lv = L) (h1 : ∀ x ∈ ps, Word x) (h2 : ∀ x ∈ ss, Word x) : Full L (desc lv pr cu nx ps ss) := by
  unfold desc
  split
  · exact ⟨hl, fun h => absurd rfl h, fun _ => (by show (ps.length : Int) = L; omega), h1, h2⟩
  · exact ⟨by show 0 ≤ lv - 1; omega, fun _ => (by show (ps.length : Int) + (lv - 1) + 1 = L; omega), fun h => (by cases h), h1, h2⟩
theorem anew_full (hL : 0 ≤ L) : Full L (anew L cu nx) := desc_full hL (by simp) (fun x h => (by cases h)) (fun x h => (by cases h))
theorem snoc_words {x : Int} (h : ∀ y ∈ ps, Word y) (hx : Word x) : ∀ y ∈ ps ++ [x], Word y := by
  intro y hy
  rw [List.mem_append, List.mem_singleton] at hy
  rcases hy with hy | rfl
  · exact h y hy
  · exact hx
theorem find_full {x : Int} (hl : 0 ≤ lv) (he : (ps.length : Int) + lv + 1 = L) (h1 : ∀ x ∈ ps, Word x) (h2 : ∀ x ∈ ss, Word x) (hp : Word pr) (hx : Word x) : Full L (find lv pr cu nx ps ss x) :=
  desc_full hl (by simp; omega) (snoc_words h1 hp) (snoc_words h2 hx)
theorem reach_full (hl : 0 ≤ lv) (he : (ps.length : Int) + lv + 1 = L) (h1 : ∀ x ∈ ps, Word x) (h2 : ∀ x ∈ ss, Word x) (hp : Word pr) : Full L (reach lv pr cu nx ps ss r) := by
  unfold reach
  split
  · exact find_full hl he h1 h2 hp (by unfold Word; omega)
  · exact ⟨hl, fun _ => he, fun h => (by cases h), h1, h2⟩
theorem pass_full (hl : 0 ≤ lv) (he : (ps.length : Int) + lv + 1 = L) (h1 : ∀ x ∈ ps, Word x) (h2 : ∀ x ∈ ss, Word x) (hp : Word pr) (hc : Word cu) : Full L (pass lv pr cu nx ps ss b) := by
  unfold pass
  split
  · exact reach_full hl he h1 h2 hc
  · exact find_full hl he h1 h2 hp hc
end
theorem seekT_full {k : Nat} {L dl sq f : Int} {s : St} (h : Ok k s) (hF : Full L s) (hL : 0 ≤ L) : Full L (seekT L dl sq s f) := by
  obtain ⟨h1, h2, h3, h4, h5, h6, h7⟩ := h
  by_cases h0 : s.st = 0
  · rw [show seekT L dl sq s f = s by simp [seekT, h0]]
    exact hF
  · obtain ⟨f1, f2, -, f4, f5⟩ := hF
    have f2 := f2 h0
    unfold seekT
    split
    · split
      · exact anew_full hL
      · exact reach_full f1 f2 f4 f5 h3
    · split
      · exact ⟨f1, fun _ => f2, fun h => (by simp only at h; split at h <;> cases h), f4, f5⟩
      · split
        · split
          · exact reach_full f1 f2 f4 f5 h3
          · exact anew_full hL
        · split
          · split
            · exact ⟨f1, fun _ => f2, fun h => (by cases h), f4, f5⟩
            · exact pass_full f1 f2 f4 f5 h3 h4
          · split
            · exact pass_full f1 f2 f4 f5 h3 h4
            · exact ⟨f1, fun _ => f2, fun h => absurd h h0, f4, f5⟩
theorem seekA_none {k : Nat} {T L : Int} {s : St} (h : Ok k s) : seekA T L s = none ↔ s.st = 0 := by
  constructor
  · intro h0
    unfold seekA at h0
    rcases h.st with e | e | e | e | e | e
    · exact e
    all_goals simp [e] at h0
  · intro e
    simp [seekA, e]
end Go.Proofs.YtlagghghbpbcbaaGreatDoor.KM

/- All words' places of a plan as a list: how many there are, that each is below that, and that no two are one. No program is named. -/
namespace Go.Proofs.YtlagghghbpbcbaaGreatDoor.PM
open Go.RowKit

/-- Where the k-th word of a slot is. -/
def atN (T L i k : Nat) : Nat := 4 + 3 * T + L + (i - 1) * (6 + L) + k
def nextN (T L i k : Nat) : Nat := if i = 0 then 4 + 3 * T + k else atN T L i (6 + k)
def thN (T t : Nat) : List Nat := [4 + t, 4 + T + t, 4 + 2 * T + t]
def waysN (T L i k : Nat) : List Nat := (List.range k).map (nextN T L i)
def ownN (T L i : Nat) : List Nat := if i = 0 then [] else [atN T L i 0, atN T L i 1, atN T L i 2, atN T L i 3, atN T L i 4, atN T L i 5]
def slN (T L i : Nat) : List Nat := waysN T L i L ++ ownN T L i
def headN (T t : Nat) : List Nat := [0, 1, 2, 3] ++ (List.range t).flatMap (thN T)
def sumN (T L i : Nat) : List Nat := headN T T ++ (List.range i).flatMap (slN T L)
def allN (T S L : Nat) : List Nat := sumN T L (S + 1)
def wordsN (T S L : Nat) : Nat := 4 + 3 * T + L + S * (6 + L)

/-! As the numbers that the program reckons. -/
theorem of_cast {T n t : Nat} (h1 : n * T ≤ 100000) (h2 : t ≤ 100000) : ofI (T : Int) (n : Int) (t : Int) = ((4 + n * T + t : Nat) : Int) := by
  unfold ofI
  rw [wrap_in (by have : ((n : Int) * (T : Int)) = ((n * T : Nat) : Int) := by simp
                  rw [this]; omega)]
  simp
theorem slot_small {L i : Nat} (hi : i ≤ 100) (hL : L ≤ 100) : (i - 1) * (6 + L) ≤ 10600 := by
  have := Nat.mul_le_mul (show i - 1 ≤ 100 by omega) (show 6 + L ≤ 106 by omega)
  omega
theorem at_cast {T L i k : Nat} (hT : T ≤ 100) (hL : L ≤ 100) (hi : i ≤ 100) (h1 : 1 ≤ i) (hk : k ≤ 1000) : atI (T : Int) (L : Int) (i : Int) (k : Int) = (atN T L i k : Int) := by
  have hs := slot_small hi hL
  have e : ((i : Int) - 1) * (6 + (L : Int)) = (((i - 1) * (6 + L) : Nat) : Int) := by
    rw [Int.natCast_mul, Int.natCast_add, Int.ofNat_sub h1]; rfl
  unfold atI atN
  rw [e, wrap_in (by omega)]
  omega
theorem next_cast {T L i k : Nat} (hT : T ≤ 100) (hL : L ≤ 100) (hi : i ≤ 100) (hk : k ≤ 900) : nextI (T : Int) (L : Int) (i : Int) (k : Int) = (nextN T L i k : Int) := by
  unfold nextI nextN
  by_cases h : i = 0
  · subst h
    rw [if_pos (by rfl), if_pos rfl]
    exact of_cast (n := 3) (by omega) (by omega)
  · rw [if_neg (by omega), if_neg h]
    have := at_cast hT hL hi (by omega) (show 6 + k ≤ 1000 by omega)
    rw [← this]
    rfl
theorem words_cast {T S L : Nat} (hT : T ≤ 100) (hL : L ≤ 100) (hS : S ≤ 99) : atI (T : Int) (L : Int) (wrap64 ((S : Int) + 1)) 0 = (wordsN T S L : Int) := by
  rw [wrap_in (by omega)]
  have h := at_cast (i := S + 1) (k := 0) hT hL (by omega) (by omega) (by omega)
  simp only [Int.natCast_add, Int.natCast_one] at h
  rw [show ((0 : Nat) : Int) = 0 from rfl] at h
  rw [h]
  simp [atN, wordsN]
theorem words_small {T S L : Nat} (hT : T ≤ 8) (hS : S ≤ 64) (hL : L ≤ 8) : wordsN T S L ≤ 4096 := by
  have := Nat.mul_le_mul hS (show 6 + L ≤ 14 by omega)
  unfold wordsN
  omega

/-- Which places have been met. -/
def seenL (l : List Nat) (m n : Nat) : List Bool := (List.range n).map fun v => decide (v ∈ l.take m)
end Go.Proofs.YtlagghghbpbcbaaGreatDoor.PM

/- The memory at the beginning, and the free slots that any words tell, in plain lists. No program is named. -/
namespace Go.Proofs.YtlagghghbpbcbaaGreatDoor.BM
open Go.RowKit PM CM

/-! Words. -/
theorem get_other {l : List Int} {i j v : Int} (h : i ≠ j) : getI (setI l i v) j = getI l j := by
  by_cases hi : there l i
  · by_cases hj : there l j
    · obtain ⟨a, rfl, ha⟩ := there_nat hi
      obtain ⟨b, rfl, hb⟩ := there_nat hj
      rw [setI_in ha, getI_some (List.getElem?_eq_getElem hb)]
      refine getI_some ?_
      rw [List.getElem?_set_ne (by omega)]
      exact List.getElem?_eq_getElem hb
    · rw [getI_out hj]
      refine getI_out fun h2 => hj ?_
      unfold there at h2 ⊢
      rwa [setI_length] at h2
  · rw [setI_out hi]

/-- All words are such as there can be. -/
def Fits (l : List Int) : Prop := ∀ x ∈ l, 0 ≤ x ∧ x < 18446744073709551616
theorem fits_get {l : List Int} (h : Fits l) (i : Int) : 0 ≤ getI l i ∧ getI l i < 18446744073709551616 := by
  by_cases hi : there l i
  · obtain ⟨a, rfl, ha⟩ := there_nat hi
    rw [getI_some (List.getElem?_eq_getElem ha)]
    exact h _ (List.getElem_mem ha)
  · rw [getI_out hi]
    omega
theorem fits_set {l : List Int} (h : Fits l) (i : Int) {v : Int} (hv : 0 ≤ v ∧ v < 18446744073709551616) : Fits (setI l i v) := by
  unfold setI
  split
  · intro x hx
    rcases List.mem_or_eq_of_mem_set hx with h1 | h1
    · exact h x h1
    · rw [h1]; exact hv
  · exact h

/-! Where a slot's words are. -/
theorem at_less {T L i j a b : Nat} (hi : 1 ≤ i) (h : i < j) (ha : a ≤ 5) : atN T L i a < atN T L j b := by
  have h1 := Nat.mul_le_mul_right (6 + L) (show i ≤ j - 1 by omega)
  have e : i * (6 + L) = (i - 1) * (6 + L) + (6 + L) := by rw [← Nat.succ_mul]; congr 1; omega
  unfold atN
  omega
theorem at_apart {T L i j a b : Nat} (hi : 1 ≤ i) (hj : 1 ≤ j) (ha : a ≤ 5) (hb : b ≤ 5) (h : ¬ (i = j ∧ a = b)) : atN T L i a ≠ atN T L j b := by
  by_cases e : i = j
  · subst e
    unfold atN
    omega
  · rcases Nat.lt_or_gt_of_ne e with h1 | h1
    · have := at_less (T := T) (L := L) (b := b) hi h1 ha
      omega
    · have := at_less (T := T) (L := L) (b := a) hj h1 hb
      omega
theorem at_in {T S L i a : Nat} (hi : 1 ≤ i) (h : i ≤ S) (ha : a ≤ 5) : 4 ≤ atN T L i a ∧ atN T L i a < wordsN T S L := by
  have h1 := Nat.mul_le_mul_right (6 + L) h
  have e : i * (6 + L) = (i - 1) * (6 + L) + (6 + L) := by rw [← Nat.succ_mul]; congr 1; omega
  unfold atN wordsN
  omega
theorem at_nat {T S L i a : Nat} (hT : T ≤ 8) (hS : S ≤ 64) (hL : L ≤ 8) (hi : 1 ≤ i) (h : i ≤ S) (ha : a ≤ 5) : ∃ n : Nat, atI (T : Int) (L : Int) (i : Int) (a : Int) = (n : Int) ∧ n = atN T L i a ∧ 4 ≤ n ∧ n < wordsN T S L :=
  ⟨_, at_cast (by omega) (by omega) (by omega) hi (by omega), rfl, at_in hi h ha⟩

/-! The memory at the beginning. -/
/-- What is below a slot of S. -/
def belowI (S i : Int) : Int := if i < S then i + 1 else 0
theorem below_some {S i : Int} (h : i < S) : belowI S i = i + 1 := if_pos h
theorem below_none {S i : Int} (h : ¬ i < S) : belowI S i = 0 := if_neg h
/-- All words 0, but for the epoch and the stack's head. -/
def headL (n : Nat) : List Int := setI (setI (List.replicate n 0) 0 1) 3 1
/-- So, with the first slots free. -/
def layL (n : Nat) (T S L g : Int) : Nat → List Int
  | 0 => headL n
  | k + 1 => setI (setI (layL n T S L g k) (atI T L ((k : Int) + 1) 0) g) (atI T L ((k : Int) + 1) 5) (belowI S ((k : Int) + 1))
theorem lay_zero (n : Nat) (T S L g : Int) : layL n T S L g 0 = headL n := rfl
theorem lay_succ (n : Nat) (T S L g : Int) (k : Nat) : layL n T S L g (k + 1) = setI (setI (layL n T S L g k) (atI T L ((k : Int) + 1) 0) g) (atI T L ((k : Int) + 1) 5) (belowI S ((k : Int) + 1)) := rfl
theorem head_len (n : Nat) : (headL n).length = n := by unfold headL; rw [setI_length, setI_length, List.length_replicate]
theorem lay_length (n : Nat) (T S L g : Int) : ∀ k, (layL n T S L g k).length = n
  | 0 => head_len n
  | k + 1 => by rw [lay_succ, setI_length, setI_length, lay_length n T S L g k]
theorem fits_head (n : Nat) : Fits (headL n) := by
  refine fits_set (fits_set ?_ _ (by omega)) _ (by omega)
  intro x hx
  rw [List.eq_of_mem_replicate hx]
  omega
theorem fits_lay {S g : Int} (n : Nat) (T L : Int) (hg : 0 ≤ g ∧ g < 18446744073709551616) (hS : S ≤ 64) : ∀ k, Fits (layL n T S L g k)
  | 0 => fits_head n
  | k + 1 => by
    rw [lay_succ]
    refine fits_set (fits_set (fits_lay n T L hg hS k) _ hg) _ ?_
    unfold belowI
    split <;> omega

/-! The free slots. -/
/-- From a list on, by what is below each slot. -/
def goF (S : Int) (nx : Int → Int) : Nat → List Int → Int → List Int
  | 0, out, _ => out
  | f + 1, out, b => if 1 ≤ b ∧ b ≤ S ∧ b ∉ out then goF S nx f (out ++ [b]) (nx b) else out
theorem go_zero (S : Int) (nx : Int → Int) (out : List Int) (b : Int) : goF S nx 0 out b = out := rfl
theorem go_stop {S : Int} {nx : Int → Int} {f : Nat} {out : List Int} {b : Int} (h : ¬ (1 ≤ b ∧ b ≤ S ∧ b ∉ out)) : goF S nx f out b = out := by
  cases f with
  | zero => rfl
  | succ f => exact if_neg h
theorem go_step {S : Int} {nx : Int → Int} {f : Nat} {out : List Int} {b : Int} (h : 1 ≤ b ∧ b ≤ S ∧ b ∉ out) : goF S nx (f + 1) out b = goF S nx f (out ++ [b]) (nx b) := if_pos h
theorem go_clip {S : Int} (hS : S ≤ 64) (nx : Int → Int) (f : Nat) (out : List Int) {b : Int} (h : ¬ b ≤ 64) : goF S nx f out b = goF S nx f out 0 := by
  rw [go_stop (by omega), go_stop (by omega)]

/-- Slots that there are, no two one. -/
def Good (S : Nat) (out : List Int) : Prop := out.Nodup ∧ ∀ x ∈ out, 1 ≤ x ∧ x ≤ (S : Int)
theorem good_nil (S : Nat) : Good S [] := ⟨List.nodup_nil, by simp⟩
theorem good_snoc {S : Nat} {out : List Int} {b : Int} (h : Good S out) (hb : 1 ≤ b ∧ b ≤ (S : Int) ∧ b ∉ out) : Good S (out ++ [b]) := by
  refine ⟨?_, ?_⟩
  · rw [List.nodup_append]
    refine ⟨h.1, by simp, ?_⟩
    intro x hx y hy e
    simp at hy
    subst hy
    subst e
    exact hb.2.2 hx
  · intro x hx
    rw [List.mem_append] at hx
    rcases hx with hx | hx
    · exact h.2 x hx
    · simp at hx
      subst hx
      exact ⟨hb.1, hb.2.1⟩
theorem good_len : ∀ (S : Nat) (out : List Int), Good S out → out.length ≤ S
  | 0, out, h => by
    cases out with
    | nil => simp
    | cons x l =>
      have := h.2 x (by simp)
      omega
  | S + 1, out, h => by
    have hg : Good S (out.erase ((S : Int) + 1)) := by
      refine ⟨h.1.erase _, fun x hx => ?_⟩
      have h1 := (h.1.mem_erase_iff).1 hx
      have h2 := h.2 x h1.2
      have h3 := h1.1
      omega
    have ih := good_len S _ hg
    by_cases hm : ((S : Int) + 1) ∈ out
    · rw [List.length_erase_of_mem hm] at ih
      omega
    · rw [List.erase_of_not_mem hm] at ih
      omega
/-- Where all stand already, none is left. -/
theorem good_full {S : Nat} {out : List Int} {b : Int} (h : Good S out) (hl : out.length = S) : ¬ (1 ≤ b ∧ b ≤ (S : Int) ∧ b ∉ out) := fun hb => by
  have := good_len S _ (good_snoc h hb)
  simp at this
  omega
theorem go_good {S : Nat} {nx : Int → Int} : ∀ (f : Nat) (out : List Int) (b : Int), Good S out → Good S (goF (S : Int) nx f out b)
  | 0, _, _, h => h
  | f + 1, out, b, h => by
    by_cases hb : 1 ≤ b ∧ b ≤ (S : Int) ∧ b ∉ out
    · rw [go_step hb]
      exact go_good f _ _ (good_snoc h hb)
    · rw [go_stop hb]
      exact h

/-- The free slots that the words tell. -/
def freeL (T : Int) (S : Nat) (L : Int) (l : List Int) : List Int := goF (S : Int) (fun i => getI l (atI T L i 5)) S [] (getI l 3 % 4294967296)
theorem free_length (T : Int) (S : Nat) (L : Int) (l : List Int) : (freeL T S L l).length ≤ S := good_len S _ (go_good _ _ _ (good_nil S))

/-- Slots 1 to k. -/
def firstL (k : Nat) : List Int := (List.range k).map fun i : Nat => (i : Int) + 1
end Go.Proofs.YtlagghghbpbcbaaGreatDoor.BM

/- Deeds whose numbers are those of Go's kinds. No program is named. -/
namespace Go.Proofs.YtlagghghbpbcbaaGreatDoor.DM
/-- What a deed's numbers are. -/
def Fits (x : D) : Prop := (-9223372036854775808 ≤ x.2.1 ∧ x.2.1 ≤ 9223372036854775807) ∧ (0 ≤ x.2.2.1 ∧ x.2.2.1 < 18446744073709551616) ∧ (0 ≤ x.2.2.2.1 ∧ x.2.2.2.1 < 18446744073709551616) ∧ 0 ≤ x.2.2.2.2 ∧ x.2.2.2.2 < 18446744073709551616
end Go.Proofs.YtlagghghbpbcbaaGreatDoor.DM

/- Deeds done to words such as there can be; the memory at the beginning, word by word. No program is named. -/
namespace Go.Proofs.YtlagghghbpbcbaaGreatDoor.MM
open DM PM CM BM

theorem fits_next {l : List Int} {d : D} (h : BM.Fits l) (hd : DM.Fits d) : BM.Fits (nextD l d) := by
  obtain ⟨kd, i, a, b, y⟩ := d
  obtain ⟨h1, h2, h3, h4⟩ := hd
  simp only at h2 h3
  by_cases e1 : kd = 1
  · subst e1; rw [nextD_1]; exact h
  by_cases e2 : kd = 2
  · subst e2; rw [nextD_2]; exact fits_set h _ h2
  by_cases e3 : kd = 3
  · subst e3; rw [nextD_3]; unfold swapI; split
    · exact fits_set h _ h3
    · exact h
  by_cases e4 : kd = 4
  · subst e4; rw [nextD_4]; unfold addI; exact fits_set h _ (by omega)
  rw [nextD_no (by simp only; omega)]
  exact h
theorem fits_found {l : List Int} (h : BM.Fits l) (d : D) : 0 ≤ foundD l d ∧ foundD l d < 18446744073709551616 := by
  unfold foundD
  split
  · exact fits_get h _
  · omega
theorem wrap_lo (z : Int) : -9223372036854775808 ≤ Go.RowKit.wrap64 z ∧ Go.RowKit.wrap64 z ≤ 9223372036854775807 := by unfold Go.RowKit.wrap64; omega
theorem at_fits (T L s k : Int) : -9223372036854775808 ≤ atI T L s k ∧ atI T L s k ≤ 9223372036854775807 := wrap_lo _
theorem of_fits (T n k : Int) : -9223372036854775808 ≤ ofI T n k ∧ ofI T n k ≤ 9223372036854775807 := wrap_lo _
theorem next_fits (T L s k : Int) : -9223372036854775808 ≤ PM.nextI T L s k ∧ PM.nextI T L s k ≤ 9223372036854775807 := by
  unfold PM.nextI
  split
  · exact of_fits _ _ _
  · exact at_fits _ _ _ _
theorem swap_is {l : List Int} (i b : Int) : swapI l i (getI l i) b = setI l i b := if_pos rfl
theorem swap_no {l : List Int} {i a b : Int} (h : ¬ getI l i = a) : swapI l i a b = l := if_neg h

/-- What stands outside of the slots at the beginning: nothing but the epoch and the stack's head. -/
theorem lay_low {T S L : Nat} (g : Int) (hT : T ≤ 8) (hS : S ≤ 64) (hL : L ≤ 8) {j : Nat} (h0 : j ≠ 0) (h3 : j ≠ 3) (hj : j < 4 + 3 * T + L) : ∀ k, k ≤ S → getI (layL (wordsN T S L) T S L g k) (j : Int) = 0
  | 0, _ => by
    rw [lay_zero]
    unfold headL
    rw [get_other (by omega), get_other (by omega)]
    exact getI_some (by rw [List.getElem?_replicate, if_pos (by unfold wordsN; omega)])
  | k + 1, hk => by
    obtain ⟨b, hb, eb, _, _⟩ := at_nat (a := 0) hT hS hL (show 1 ≤ k + 1 by omega) hk (by omega)
    obtain ⟨c, hc, ec, _, _⟩ := at_nat (a := 5) hT hS hL (show 1 ≤ k + 1 by omega) hk (by omega)
    simp only [Int.natCast_add, Int.natCast_one] at hb hc
    change atI T L ((k : Int) + 1) 0 = _ at hb
    change atI T L ((k : Int) + 1) 5 = _ at hc
    have b1 : 4 + 3 * T + L ≤ b := by rw [eb]; unfold atN; omega
    have c1 : 4 + 3 * T + L ≤ c := by rw [ec]; unfold atN; omega
    rw [lay_succ, hb, hc, get_other (by omega), get_other (by omega)]
    exact lay_low g hT hS hL h0 h3 hj k (by omega)
theorem there_in {l : List Int} {T S L j : Nat} (hl : l.length = wordsN T S L) (hj : j < wordsN T S L) : there l (j : Int) := by
  unfold there
  omega
end Go.Proofs.YtlagghghbpbcbaaGreatDoor.MM

/- Linking, in plain arithmetic: what a linker asks for, and what it becomes. No program is named. -/
namespace Go.Proofs.YtlagghghbpbcbaaGreatDoor.LiM
set_option maxRecDepth 20000
open DM PM CM KM Runs
open Go.RowKit (wrap64)
set_option linter.unusedVariables false
set_option linter.unusedSimpArgs false

/-- A linker: its step (0 done, 1 seeks, 2 stores, 3 swaps), the level at which it stores, its seeker, and what that found. -/
structure St where
  st : Int
  lv : Int
  sk : KM.St
  ps : List Int
  ss : List Int
/-- On to a level. -/
def goOn (tall L : Int) (sk : KM.St) (ps ss : List Int) (lv : Int) : St := ⟨if lv < min tall L then 2 else 3, lv, sk, ps, ss⟩
def begin (L lv : Int) : St := ⟨1, lv, anew L 0 0, [], []⟩
/-- The seeker was told a word. -/
def keep (tall L lv : Int) (sk : KM.St) (ps ss : List Int) : St := if sk.st = 0 then goOn tall L sk sk.ps.reverse sk.ss.reverse 0 else ⟨1, lv, sk, ps, ss⟩
def linkA (T L r : Int) (s : St) : Option D :=
  if s.st = 1 then seekA T L s.sk else if s.st = 2 then some (2, nextI T L (idx r) s.lv, s.ss.getD s.lv.toNat 0, 0, r) else if s.st = 3 then some (3, nextI T L (idx (s.ps.getD 0 0)) 0, s.ss.getD 0 0, r, s.ps.getD 0 0) else none
def linkT (L dl sq tall : Int) (s : St) (f : Int) : St :=
  if s.st = 1 then keep tall L s.lv (seekT L dl sq s.sk f) s.ps s.ss else if s.st = 2 then goOn tall L s.sk s.ps s.ss (s.lv + 1) else
  if s.st = 3 then (if f = s.ss.getD 0 0 then ⟨0, s.lv, s.sk, s.ps, s.ss⟩ else begin L s.lv) else s
section
variable {T L r dl sq tall lv f : Int} {sk : KM.St} {ps ss : List Int}
theorem linkA_0 : linkA T L r ⟨0, lv, sk, ps, ss⟩ = none := by simp [linkA]
theorem linkA_1 : linkA T L r ⟨1, lv, sk, ps, ss⟩ = seekA T L sk := by simp [linkA]
theorem linkA_2 : linkA T L r ⟨2, lv, sk, ps, ss⟩ = some (2, nextI T L (idx r) lv, ss.getD lv.toNat 0, 0, r) := by simp [linkA]
theorem linkA_3 : linkA T L r ⟨3, lv, sk, ps, ss⟩ = some (3, nextI T L (idx (ps.getD 0 0)) 0, ss.getD 0 0, r, ps.getD 0 0) := by simp [linkA]
theorem linkT_0 : linkT L dl sq tall ⟨0, lv, sk, ps, ss⟩ f = ⟨0, lv, sk, ps, ss⟩ := by simp [linkT]
theorem linkT_1 : linkT L dl sq tall ⟨1, lv, sk, ps, ss⟩ f = keep tall L lv (seekT L dl sq sk f) ps ss := by simp [linkT]
theorem linkT_2 : linkT L dl sq tall ⟨2, lv, sk, ps, ss⟩ f = goOn tall L sk ps ss (lv + 1) := by simp [linkT]
theorem linkT_3 (h : f = ss.getD 0 0) : linkT L dl sq tall ⟨3, lv, sk, ps, ss⟩ f = ⟨0, lv, sk, ps, ss⟩ := by simp [linkT, h]
theorem linkT_3n (h : ¬ f = ss.getD 0 0) : linkT L dl sq tall ⟨3, lv, sk, ps, ss⟩ f = begin L lv := by unfold linkT; rw [if_neg (show ¬ (3 : Int) = 1 by decide), if_neg (show ¬ (3 : Int) = 2 by decide), if_pos rfl]; exact if_neg h
theorem goOn_on (h : lv < min tall L) : goOn tall L sk ps ss lv = ⟨2, lv, sk, ps, ss⟩ := by unfold goOn; rw [if_pos h]
theorem goOn_end (h : ¬ lv < min tall L) : goOn tall L sk ps ss lv = ⟨3, lv, sk, ps, ss⟩ := by unfold goOn; rw [if_neg h]
theorem keep_done (h : sk.st = 0) : keep tall L lv sk ps ss = goOn tall L sk sk.ps.reverse sk.ss.reverse 0 := if_pos h
theorem keep_more (h : ¬ sk.st = 0) : keep tall L lv sk ps ss = ⟨1, lv, sk, ps, ss⟩ := if_neg h
end

/-- Such a linker as there can be, told k words at most. -/
structure Ok (L tall : Int) (k : Nat) (s : St) : Prop where
  st : s.st = 0 ∨ s.st = 1 ∨ s.st = 2 ∨ s.st = 3
  lv : 0 ≤ s.lv ∧ s.lv ≤ L
  ok : KM.Ok k s.sk
  full : Full L s.sk
  look : s.st = 1 → ¬ s.sk.st = 0 ∧ s.ps = [] ∧ s.ss = []
  lead : s.st = 2 → s.lv < tall ∧ s.lv < L
  len : ¬ s.st = 1 → (s.ps.length : Int) = L ∧ (s.ss.length : Int) = L
  few : s.ps.length ≤ k
  ps : ∀ x ∈ s.ps, Word x
  ss : ∀ x ∈ s.ss, Word x
section
variable {L tall : Int} {k : Nat}
theorem begin_ok {lv : Int} (h1 : 1 ≤ L) (h2 : L ≤ 9223372036854775807) (hl : 0 ≤ lv ∧ lv ≤ L) : Ok L tall k (begin L lv) := by
  refine ⟨.inr (.inl rfl), hl, (anew_ok (k := 0) h2 (by omega) (by omega)).up (Nat.zero_le _), anew_full (by omega), fun _ => ⟨?_, rfl, rfl⟩, fun h => (by cases h), fun h => absurd rfl h, Nat.zero_le _, fun x h => (by cases h), fun x h => (by cases h)⟩
  show ¬ (anew L 0 0).st = 0
  unfold anew
  rw [desc_on (by omega)]
  simp
theorem goOn_ok {lv : Int} {sk : KM.St} {ps ss : List Int} (hl : 0 ≤ lv ∧ lv ≤ L) (h1 : KM.Ok k sk) (h2 : Full L sk) (h3 : (ps.length : Int) = L) (h4 : (ss.length : Int) = L) (h5 : ps.length ≤ k) (h6 : ∀ x ∈ ps, Word x) (h7 : ∀ x ∈ ss, Word x) : Ok L tall k (goOn tall L sk ps ss lv) := by
  by_cases h : lv < min tall L
  · rw [goOn_on h]
    exact ⟨by simp, hl, h1, h2, fun h => (by cases h), fun _ => (by show lv < tall ∧ lv < L; omega), fun _ => ⟨h3, h4⟩, h5, h6, h7⟩
  · rw [goOn_end h]
    exact ⟨by simp, hl, h1, h2, fun h => (by cases h), fun h => (by cases h), fun _ => ⟨h3, h4⟩, h5, h6, h7⟩
theorem Ok.up {k' : Nat} {s : St} (h : Ok L tall k s) (hk : k ≤ k') : Ok L tall k' s := ⟨h.st, h.lv, h.ok.up hk, h.full, h.look, h.lead, h.len, Nat.le_trans h.few hk, h.ps, h.ss⟩
theorem rev_words {l : List Int} (h : ∀ x ∈ l, Word x) : ∀ x ∈ l.reverse, Word x := fun x hx => h x (List.mem_reverse.1 hx)
theorem linkT_ok {dl sq f : Int} {s : St} (h : Ok L tall k s) (h1 : 1 ≤ L) (h2 : L ≤ 9223372036854775807) (hf : Word f) : Ok L tall (k + 1) (linkT L dl sq tall s f) := by
  obtain ⟨st, lv, sk, ps, ss⟩ := s
  have hu := h.up (Nat.le_succ k)
  obtain ⟨q0, q1, q2, q3, q4, q5, q6, q7, q8, q9⟩ := h
  simp only at q0 q1 q2 q3 q4 q5 q6 q7 q8 q9
  rcases q0 with rfl | rfl | rfl | rfl
  · rw [linkT_0]; exact hu
  · rw [linkT_1]
    have k1 := seekT_ok (dl := dl) (sq := sq) q2 h2 hf
    have k2 := seekT_full (dl := dl) (sq := sq) (f := f) q2 q3 (by omega)
    obtain ⟨-, rfl, rfl⟩ := q4 rfl
    by_cases e : (seekT L dl sq sk f).st = 0
    · rw [keep_done e]
      have k3 := k2.done e
      exact goOn_ok (by omega) k1 k2 (by rw [List.length_reverse]; exact k3) (by rw [List.length_reverse, k1.len]; exact k3) (by rw [List.length_reverse]; exact k1.few) (rev_words k2.ps) (rev_words k2.ss)
    · rw [keep_more e]
      exact ⟨by simp, q1, k1, k2, fun _ => ⟨e, rfl, rfl⟩, fun h => (by cases h), fun h => absurd rfl h, Nat.zero_le _, fun x h => (by cases h), fun x h => (by cases h)⟩
  · rw [linkT_2]
    obtain ⟨a, b⟩ := q5 rfl
    obtain ⟨c, d⟩ := q6 (by decide)
    exact goOn_ok (by omega) hu.ok q3 c d (Nat.le_succ_of_le q7) q8 q9
  · obtain ⟨c, d⟩ := q6 (by decide)
    by_cases e : f = ss.getD 0 0
    · rw [linkT_3 e]
      exact ⟨by simp, q1, hu.ok, q3, fun h => (by cases h), fun h => (by cases h), fun _ => ⟨c, d⟩, Nat.le_succ_of_le q7, q8, q9⟩
    · rw [linkT_3n e]
      exact begin_ok h1 h2 q1
theorem word_getD {l : List Int} (h : ∀ x ∈ l, Word x) (i : Nat) : Word (l.getD i 0) := by
  rw [List.getD_eq_getElem?_getD]
  cases e : l[i]? with
  | none => exact ⟨by decide, by decide⟩
  | some x => exact h x (List.mem_of_getElem? e)
theorem link_fits {T r : Int} {s : St} (h : Ok L tall k s) (hr : Word r) {d : D} (hd : linkA T L r s = some d) : s.st = 1 ∨ DM.Fits d := by
  have q1 := MM.next_fits T L (idx r) s.lv
  have q2 := MM.next_fits T L (idx (s.ps.getD 0 0)) 0
  have q3 := word_getD h.ss s.lv.toNat
  have q4 := word_getD h.ss 0
  have q5 := word_getD h.ps 0
  unfold linkA at hd
  unfold DM.Fits
  unfold Word at hr q3 q4 q5
  split at hd
  · exact .inl ‹_›
  · split at hd
    · cases hd; right; simp only; omega
    · split at hd
      · cases hd; right; simp only; omega
      · cases hd
end
end Go.Proofs.YtlagghghbpbcbaaGreatDoor.LiM

/- Lifting, in plain arithmetic: what a lifter asks for, and what it becomes. No program is named. -/
namespace Go.Proofs.YtlagghghbpbcbaaGreatDoor.LfM
set_option maxRecDepth 20000
open DM PM CM KM Runs
open LiM (word_getD rev_words)
open Go.RowKit (wrap64)
set_option linter.unusedVariables false
set_option linter.unusedSimpArgs false

/-- A lifter: its step (0 done, 1 looks, 2 leads, 3 hangs), its level, the way on that it loaded, the seeker that is under way, and between what it hangs. -/
structure St where
  st : Int
  lv : Int
  wy : Int
  un : Option KM.St
  ps : List Int
  ss : List Int
/-- On to a level. -/
def reach (tall lv wy : Int) (ps ss : List Int) : St := ⟨if lv < min tall (min (ps.length : Int) ss.length) then 1 else 0, lv, wy, none, ps, ss⟩
/-- The seeker was told a word. -/
def keep (tall st lv wy : Int) (ps ss : List Int) (k : KM.St) : St := if k.st = 0 then reach tall lv wy k.ps.reverse k.ss.reverse else ⟨st, lv, wy, some k, ps, ss⟩
def askL (T L r : Int) (st lv wy : Int) (ps ss : List Int) : Option D :=
  if st = 1 then some (1, nextI T L (idx r) lv, 0, 0, r) else if st = 2 then some (3, nextI T L (idx r) lv, wy, ss.getD lv.toNat 0, r) else
  if st = 3 then some (3, nextI T L (idx (ps.getD lv.toNat 0)) lv, ss.getD lv.toNat 0, r, ps.getD lv.toNat 0) else none
def goOn (L tall f : Int) (st lv wy : Int) (ps ss : List Int) : St :=
  if st = 1 then ⟨if f % 2 = 1 then 0 else if f = ss.getD lv.toNat 0 then 3 else 2, lv, f, none, ps, ss⟩ else if st = 2 then ⟨if f = wy then 3 else 0, lv, wy, none, ps, ss⟩ else
  if st = 3 then (if f = ss.getD lv.toNat 0 then reach tall (lv + 1) wy ps ss else ⟨3, lv, wy, some (anew L 0 0), ps, ss⟩) else ⟨st, lv, wy, none, ps, ss⟩
def liftA (T L r : Int) (s : St) : Option D := match s.un with
  | some k => seekA T L k
  | none => askL T L r s.st s.lv s.wy s.ps s.ss
def liftT (L dl sq tall : Int) (s : St) (f : Int) : St := match s.un with
  | some k => keep tall s.st s.lv s.wy s.ps s.ss (seekT L dl sq k f)
  | none => goOn L tall f s.st s.lv s.wy s.ps s.ss
section
variable {T L r dl sq tall st lv wy f : Int} {k : KM.St} {ps ss : List Int}
theorem liftA_s : liftA T L r ⟨st, lv, wy, some k, ps, ss⟩ = seekA T L k := rfl
theorem liftA_0 : liftA T L r ⟨0, lv, wy, none, ps, ss⟩ = none := by simp [liftA, askL]
theorem liftA_1 : liftA T L r ⟨1, lv, wy, none, ps, ss⟩ = some (1, nextI T L (idx r) lv, 0, 0, r) := by simp [liftA, askL]
theorem liftA_2 : liftA T L r ⟨2, lv, wy, none, ps, ss⟩ = some (3, nextI T L (idx r) lv, wy, ss.getD lv.toNat 0, r) := by simp [liftA, askL]
theorem liftA_3 : liftA T L r ⟨3, lv, wy, none, ps, ss⟩ = some (3, nextI T L (idx (ps.getD lv.toNat 0)) lv, ss.getD lv.toNat 0, r, ps.getD lv.toNat 0) := by simp [liftA, askL]
theorem liftT_s : liftT L dl sq tall ⟨st, lv, wy, some k, ps, ss⟩ f = keep tall st lv wy ps ss (seekT L dl sq k f) := rfl
theorem liftT_0 : liftT L dl sq tall ⟨0, lv, wy, none, ps, ss⟩ f = ⟨0, lv, wy, none, ps, ss⟩ := by simp [liftT, goOn]
theorem liftT_1 : liftT L dl sq tall ⟨1, lv, wy, none, ps, ss⟩ f = ⟨if f % 2 = 1 then 0 else if f = ss.getD lv.toNat 0 then 3 else 2, lv, f, none, ps, ss⟩ := by simp [liftT, goOn]
theorem liftT_2 : liftT L dl sq tall ⟨2, lv, wy, none, ps, ss⟩ f = ⟨if f = wy then 3 else 0, lv, wy, none, ps, ss⟩ := by simp [liftT, goOn]
theorem liftT_3 (h : f = ss.getD lv.toNat 0) : liftT L dl sq tall ⟨3, lv, wy, none, ps, ss⟩ f = reach tall (lv + 1) wy ps ss := by
  unfold liftT goOn
  rw [if_neg (show ¬ (3 : Int) = 1 by decide), if_neg (show ¬ (3 : Int) = 2 by decide), if_pos rfl]
  exact if_pos h
theorem liftT_3n (h : ¬ f = ss.getD lv.toNat 0) : liftT L dl sq tall ⟨3, lv, wy, none, ps, ss⟩ f = ⟨3, lv, wy, some (anew L 0 0), ps, ss⟩ := by
  unfold liftT goOn
  rw [if_neg (show ¬ (3 : Int) = 1 by decide), if_neg (show ¬ (3 : Int) = 2 by decide), if_pos rfl]
  exact if_neg h
theorem reach_on (h : lv < min tall (min (ps.length : Int) ss.length)) : reach tall lv wy ps ss = ⟨1, lv, wy, none, ps, ss⟩ := by unfold reach; rw [if_pos h]
theorem reach_end (h : ¬ lv < min tall (min (ps.length : Int) ss.length)) : reach tall lv wy ps ss = ⟨0, lv, wy, none, ps, ss⟩ := by unfold reach; rw [if_neg h]
theorem keep_done (h : k.st = 0) : keep tall st lv wy ps ss k = reach tall lv wy k.ps.reverse k.ss.reverse := if_pos h
theorem keep_more (h : ¬ k.st = 0) : keep tall st lv wy ps ss k = ⟨st, lv, wy, some k, ps, ss⟩ := if_neg h
end

/-- Such a lifter as there can be, told k words at most, of rows of n0 words at most at the beginning. -/
structure Ok (L tall : Int) (k : Nat) (s : St) : Prop where
  st : s.st = 0 ∨ s.st = 1 ∨ s.st = 2 ∨ s.st = 3
  lv : 0 ≤ s.lv ∧ s.lv ≤ 4000000
  wy : Word s.wy
  un : ∀ q, s.un = some q → KM.Ok k q ∧ Full L q ∧ ¬ q.st = 0 ∧ s.st = 3
  amid : ¬ s.st = 0 → s.lv < tall ∧ s.lv < s.ps.length ∧ s.lv < s.ss.length
  ps : ∀ x ∈ s.ps, Word x
  ss : ∀ x ∈ s.ss, Word x
  fp : s.ps.length ≤ 2000000
  fs : s.ss.length ≤ 2000000
section
variable {L tall : Int} {k : Nat}
theorem Ok.up {k' : Nat} {s : St} (h : Ok L tall k s) (hk : k ≤ k') : Ok L tall k' s := ⟨h.st, h.lv, h.wy, fun q e => ⟨(h.un q e).1.up hk, (h.un q e).2⟩, h.amid, h.ps, h.ss, h.fp, h.fs⟩
theorem reach_ok {lv wy : Int} {ps ss : List Int} (hl : 0 ≤ lv ∧ lv ≤ 4000000) (hw : Word wy) (h1 : ∀ x ∈ ps, Word x) (h2 : ∀ x ∈ ss, Word x) (h3 : ps.length ≤ 2000000) (h4 : ss.length ≤ 2000000) : Ok L tall k (reach tall lv wy ps ss) := by
  by_cases h : lv < min tall (min (ps.length : Int) ss.length)
  · rw [reach_on h]
    exact ⟨by simp, hl, hw, fun q e => (by cases e), fun _ => ⟨by show lv < tall; omega, by show lv < ps.length; omega, by show lv < ss.length; omega⟩, h1, h2, h3, h4⟩
  · rw [reach_end h]
    exact ⟨by simp, hl, hw, fun q e => (by cases e), fun e => absurd rfl e, h1, h2, h3, h4⟩
theorem liftT_ok {dl sq f : Int} {s : St} (h : Ok L tall k s) (hL1 : 1 ≤ L) (hL : L ≤ 9223372036854775807) (hk : k + 1 ≤ 1000000) (hf : Word f) : Ok L tall (k + 1) (liftT L dl sq tall s f) := by
  obtain ⟨st, lv, wy, un, ps, ss⟩ := s
  have hu := h.up (Nat.le_succ k)
  obtain ⟨q0, q1, q2, q3, q4, q5, q6, q7, q8⟩ := h
  simp only at q0 q1 q2 q3 q4 q5 q6 q7 q8
  cases un with
  | some q =>
    obtain ⟨a, b, c, d⟩ := q3 q rfl
    subst d
    rw [liftT_s]
    have k1 := seekT_ok (dl := dl) (sq := sq) a hL hf
    have k2 := seekT_full (dl := dl) (sq := sq) (f := f) a b (by omega)
    by_cases e : (seekT L dl sq q f).st = 0
    · rw [keep_done e]
      have k3 := k1.len
      have k4 := k1.few
      exact reach_ok q1 q2 (rev_words k2.ps) (rev_words k2.ss) (by rw [List.length_reverse]; omega) (by rw [List.length_reverse]; omega)
    · rw [keep_more e]
      exact ⟨by simp, q1, q2, fun p hp => (by cases hp; exact ⟨k1, k2, e, rfl⟩), fun h => q4 (by decide), q5, q6, q7, q8⟩
  | none =>
    rcases q0 with rfl | rfl | rfl | rfl
    · rw [liftT_0]; exact hu
    · rw [liftT_1]
      have q4 := q4 (by decide)
      exact ⟨by simp only; split <;> (try split) <;> simp, q1, hf, fun q e => (by cases e), fun _ => q4, q5, q6, q7, q8⟩
    · rw [liftT_2]
      have q4 := q4 (by decide)
      exact ⟨by simp only; split <;> simp, q1, q2, fun q e => (by cases e), fun _ => q4, q5, q6, q7, q8⟩
    · have q4 := q4 (by decide)
      by_cases e : f = ss.getD lv.toNat 0
      · rw [liftT_3 e]
        exact reach_ok (by omega) q2 q5 q6 q7 q8
      · rw [liftT_3n e]
        refine ⟨by simp, q1, q2, fun q e => ?_, fun _ => q4, q5, q6, q7, q8⟩
        cases e
        refine ⟨(anew_ok (k := 0) hL (by omega) (by omega)).up (Nat.zero_le _), anew_full (by omega), ?_, rfl⟩
        unfold anew
        rw [desc_on (by omega)]
        simp
theorem lift_fits {T r : Int} {s : St} (h : Ok L tall k s) (hr : Word r) {d : D} (hd : liftA T L r s = some d) : (∃ q, s.un = some q ∧ seekA T L q = some d ∧ KM.Ok k q) ∨ DM.Fits d := by
  obtain ⟨st, lv, wy, un, ps, ss⟩ := s
  cases un with
  | some q => exact .inl ⟨q, rfl, hd, (h.un q rfl).1⟩
  | none =>
    right
    have q1 := MM.next_fits T L (idx r) lv
    have q2 := MM.next_fits T L (idx (ps.getD lv.toNat 0)) lv
    have q3 := word_getD h.ss lv.toNat
    have q5 := word_getD h.ps lv.toNat
    have q6 := h.wy
    simp only at q3 q5 q6
    change askL T L r st lv wy ps ss = some d at hd
    unfold askL at hd
    unfold DM.Fits
    unfold Word at hr q3 q5 q6
    split at hd
    · cases hd; simp only; omega
    · split at hd
      · cases hd; simp only; omega
      · split at hd
        · cases hd; simp only; omega
        · cases hd
end
end Go.Proofs.YtlagghghbpbcbaaGreatDoor.LfM

/- Letting go of a timer, in plain arithmetic: what a settler asks for, and what it becomes. No program is named. -/
namespace Go.Proofs.YtlagghghbpbcbaaGreatDoor.StM
set_option maxRecDepth 20000
open DM PM CM KM Runs
open Go.RowKit (wrap64)
set_option linter.unusedVariables false
set_option linter.unusedSimpArgs false

/-- A settler: its step (0 done, 1 lets go, 2 seeks, 3 dates), its seeker, the epoch that it found, and whether its slot waits. -/
structure St where
  st : Int
  sk : KM.St
  ep : Int
  wt : Bool
/-- A new one: its seeker is none yet. -/
def new : St := ⟨1, ⟨0, 0, 0, 0, 0, [], []⟩, 0, false⟩
/-- Where the seeker stands: amid its steps, or at its end. -/
def goOn (sk : KM.St) (ep : Int) (wt : Bool) : St := ⟨if sk.st = 0 then 3 else 2, sk, ep, wt⟩
def settleA (T L r : Int) (s : St) : Option D :=
  if s.st = 1 then some (4, atI T L (idx r) 4, 18446744073709551615, 0, r) else if s.st = 2 then seekA T L s.sk else if s.st = 3 then some (1, 0, 0, 0, 0) else none
def settleT (L dl sq : Int) (s : St) (f : Int) : St :=
  if s.st = 1 then (if f = 1 then goOn (anew L 0 0) s.ep s.wt else ⟨0, s.sk, s.ep, s.wt⟩) else if s.st = 2 then goOn (seekT L dl sq s.sk f) s.ep s.wt else
  if s.st = 3 then ⟨0, s.sk, f, true⟩ else s
section
variable {T L r dl sq f ep : Int} {wt : Bool} {sk : KM.St}
theorem settleA_0 : settleA T L r ⟨0, sk, ep, wt⟩ = none := by simp [settleA]
theorem settleA_1 : settleA T L r ⟨1, sk, ep, wt⟩ = some (4, atI T L (idx r) 4, 18446744073709551615, 0, r) := by simp [settleA]
theorem settleA_2 : settleA T L r ⟨2, sk, ep, wt⟩ = seekA T L sk := by simp [settleA]
theorem settleA_3 : settleA T L r ⟨3, sk, ep, wt⟩ = some (1, 0, 0, 0, 0) := by simp [settleA]
theorem settleT_0 : settleT L dl sq ⟨0, sk, ep, wt⟩ f = ⟨0, sk, ep, wt⟩ := by simp [settleT]
theorem settleT_1 (h : f = 1) : settleT L dl sq ⟨1, sk, ep, wt⟩ f = goOn (anew L 0 0) ep wt := by simp [settleT, h]
theorem settleT_1n (h : ¬ f = 1) : settleT L dl sq ⟨1, sk, ep, wt⟩ f = ⟨0, sk, ep, wt⟩ := by simp [settleT, h]
theorem settleT_2 : settleT L dl sq ⟨2, sk, ep, wt⟩ f = goOn (seekT L dl sq sk f) ep wt := by simp [settleT]
theorem settleT_3 : settleT L dl sq ⟨3, sk, ep, wt⟩ f = ⟨0, sk, f, true⟩ := by simp [settleT]
theorem goOn_done (h : sk.st = 0) : goOn sk ep wt = ⟨3, sk, ep, wt⟩ := by unfold goOn; rw [if_pos h]
theorem goOn_more (h : ¬ sk.st = 0) : goOn sk ep wt = ⟨2, sk, ep, wt⟩ := by unfold goOn; rw [if_neg h]
end

/-- Such a settler as there can be, told k words at most. -/
structure Ok (L : Int) (k : Nat) (s : St) : Prop where
  st : s.st = 0 ∨ s.st = 1 ∨ s.st = 2 ∨ s.st = 3
  look : s.st = 2 → ¬ s.sk.st = 0 ∧ KM.Ok k s.sk
  ep : Word s.ep
section
variable {L : Int} {k : Nat}
theorem new_ok : Ok L k new := ⟨.inr (.inl rfl), fun h => (by cases h), ⟨by decide, by decide⟩⟩
theorem Ok.up {k' : Nat} {s : St} (h : Ok L k s) (hk : k ≤ k') : Ok L k' s := ⟨h.st, fun e => ⟨(h.look e).1, (h.look e).2.up hk⟩, h.ep⟩
theorem goOn_ok {sk : KM.St} {ep : Int} {wt : Bool} (h : KM.Ok k sk) (he : Word ep) : Ok L k (goOn sk ep wt) := by
  by_cases e : sk.st = 0
  · rw [goOn_done e]; exact ⟨by simp, fun h => (by cases h), he⟩
  · rw [goOn_more e]; exact ⟨by simp, fun _ => ⟨e, h⟩, he⟩
theorem settleT_ok {dl sq f : Int} {s : St} (h : Ok L k s) (hL : L ≤ 9223372036854775807) (hf : Word f) : Ok L (k + 1) (settleT L dl sq s f) := by
  obtain ⟨st, sk, ep, wt⟩ := s
  have hu := h.up (Nat.le_succ k)
  obtain ⟨q0, q1, q2⟩ := h
  simp only at q0 q1 q2
  rcases q0 with rfl | rfl | rfl | rfl
  · rw [settleT_0]; exact hu
  · by_cases e : f = 1
    · rw [settleT_1 e]; exact goOn_ok (anew_ok hL (by omega) (by omega)) q2
    · rw [settleT_1n e]; exact ⟨by simp, fun h => (by cases h), q2⟩
  · rw [settleT_2]; exact goOn_ok (seekT_ok (q1 rfl).2 hL hf) q2
  · rw [settleT_3]; exact ⟨by simp, fun h => (by cases h), hf⟩
theorem settleA_fits {T r : Int} {s : St} (hr : Word r) {d : D} (hd : settleA T L r s = some d) : s.st = 2 ∨ DM.Fits d := by
  have q1 := MM.at_fits T L (idx r) 4
  unfold settleA at hd
  unfold DM.Fits
  unfold Word at hr
  split at hd
  · cases hd; right; simp only; omega
  · split at hd
    · exact .inl ‹_›
    · split at hd
      · cases hd; right; simp only; omega
      · cases hd
end
end Go.Proofs.YtlagghghbpbcbaaGreatDoor.StM

/- Who sleeps too long is woken, in plain arithmetic: what a waker asks for, and what it becomes. No program is named. -/
namespace Go.Proofs.YtlagghghbpbcbaaGreatDoor.WkM
set_option maxRecDepth 20000
open DM PM CM Runs
open Go.RowKit (wrap64)
set_option linter.unusedVariables false
set_option linter.unusedSimpArgs false

/-- A waker: the thread at which it stands, and whether its Add is next. -/
structure St where
  th : Int
  ad : Bool
def start : St := ⟨0, false⟩
/-- The word of the deadline and 1. -/
def dueW (dl : Int) : Int := (dl + 1) % 18446744073709551616
def wakeA (T : Int) (s : St) : Option D := if s.th < T then some (if s.ad = true then (4, ofI T 2 s.th, 1, 0, 0) else (1, ofI T 1 s.th, 0, 0, 0)) else none
def wakeT (T dl : Int) (s : St) (f : Int) : St := if s.th < T then (if s.ad = true then ⟨s.th + 1, false⟩ else if dueW dl < f then ⟨s.th, true⟩ else ⟨s.th + 1, false⟩) else s
section
variable {T dl t f : Int} {b : Bool}
theorem due_lo : 0 ≤ dueW dl ∧ dueW dl < 18446744073709551616 := by unfold dueW; omega
theorem wakeA_done (h : ¬ t < T) : wakeA T ⟨t, b⟩ = none := if_neg h
theorem wakeA_look (h : t < T) : wakeA T ⟨t, false⟩ = some (1, ofI T 1 t, 0, 0, 0) := by unfold wakeA; rw [if_pos h]; rfl
theorem wakeA_add (h : t < T) : wakeA T ⟨t, true⟩ = some (4, ofI T 2 t, 1, 0, 0) := by unfold wakeA; rw [if_pos h]; rfl
theorem wakeT_done (h : ¬ t < T) : wakeT T dl ⟨t, b⟩ f = ⟨t, b⟩ := if_neg h
theorem wakeT_add (h : t < T) : wakeT T dl ⟨t, true⟩ f = ⟨t + 1, false⟩ := by unfold wakeT; rw [if_pos h]; rfl
theorem wakeT_long (h : t < T) (hd : dueW dl < f) : wakeT T dl ⟨t, false⟩ f = ⟨t, true⟩ := by unfold wakeT; rw [if_pos h, if_neg (by simp), if_pos hd]
theorem wakeT_not (h : t < T) (hd : ¬ dueW dl < f) : wakeT T dl ⟨t, false⟩ f = ⟨t + 1, false⟩ := by unfold wakeT; rw [if_pos h, if_neg (by simp), if_neg hd]
end
/-- Such a waker as there can be. -/
structure Ok (T : Int) (s : St) : Prop where
  lo : 0 ≤ s.th
  hi : s.th ≤ T ∨ s.th = 0
  ad : s.ad = true → s.th < T
theorem start_ok (T : Int) : Ok T start := ⟨Int.le_refl _, .inr rfl, fun h => by cases h⟩
theorem wakeT_ok {T dl f : Int} {s : St} (h : Ok T s) : Ok T (wakeT T dl s f) := by
  obtain ⟨t, b⟩ := s
  have hu := h
  obtain ⟨h1, h2, h3⟩ := h
  simp only at h1 h2 h3
  by_cases e : t < T
  · cases b with
    | true => rw [wakeT_add e]; exact ⟨by simp only; omega, .inl (by simp only; omega), fun z => by cases z⟩
    | false =>
      by_cases q : dueW dl < f
      · rw [wakeT_long e q]; exact ⟨h1, h2, fun _ => e⟩
      · rw [wakeT_not e q]; exact ⟨by simp only; omega, .inl (by simp only; omega), fun z => by cases z⟩
  · rw [wakeT_done e]; exact hu
theorem wakeA_fits {T : Int} {s : St} {d : D} (hd : wakeA T s = some d) : DM.Fits d := by
  obtain ⟨t, b⟩ := s
  have h1 := MM.of_fits T 1 t
  have h2 := MM.of_fits T 2 t
  by_cases e : t < T
  · cases b with
    | true => rw [wakeA_add e] at hd; cases hd; unfold DM.Fits; simp only; omega
    | false => rw [wakeA_look e] at hd; cases hd; unfold DM.Fits; simp only; omega
  · rw [wakeA_done e] at hd; cases hd
end Go.Proofs.YtlagghghbpbcbaaGreatDoor.WkM

/- Threads pinned in an epoch, in plain arithmetic. No program is named. -/
namespace Go.Proofs.YtlagghghbpbcbaaGreatDoor.PiM
open DM PM CM Runs

/-- A task that writes a thread's word Pin: its step (0 done, 1 looks, 2 writes), where the word is, what is written. -/
structure St where
  st : Int
  pl : Int
  word : Int
def Ok (s : St) : Prop := (s.st = 0 ∨ s.st = 1 ∨ s.st = 2) ∧ 0 ≤ s.word ∧ s.word < 18446744073709551616
def pinA (s : St) : Option D := if s.st = 1 then some (1, 0, 0, 0, 0) else if s.st = 2 then some (2, s.pl, s.word, 0, 0) else none
def pinT (s : St) (f : Int) : St := if s.st = 1 then ⟨2, s.pl, f⟩ else ⟨0, s.pl, s.word⟩
def pinE (s : St) : Int := if s.st = 0 then s.word else 0

theorem pinA_0 (a w : Int) : pinA ⟨0, a, w⟩ = none := by simp [pinA]
theorem pinA_1 (a w : Int) : pinA ⟨1, a, w⟩ = some (1, 0, 0, 0, 0) := by simp [pinA]
theorem pinA_2 (a w : Int) : pinA ⟨2, a, w⟩ = some (2, a, w, 0, 0) := by simp [pinA]
theorem pinT_0 (a w f : Int) : pinT ⟨0, a, w⟩ f = ⟨0, a, w⟩ := by simp [pinT]
theorem pinT_1 (a w f : Int) : pinT ⟨1, a, w⟩ f = ⟨2, a, f⟩ := by simp [pinT]
theorem pinT_2 (a w f : Int) : pinT ⟨2, a, w⟩ f = ⟨0, a, w⟩ := by simp [pinT]
theorem ok_1 (a : Int) : Ok ⟨1, a, 0⟩ := ⟨.inr (.inl rfl), by show (0 : Int) ≤ 0; omega, by show (0 : Int) < _; omega⟩
theorem ok_2 (a : Int) : Ok ⟨2, a, 0⟩ := ⟨.inr (.inr rfl), by show (0 : Int) ≤ 0; omega, by show (0 : Int) < _; omega⟩
theorem pinT_ok {s : St} (h : Ok s) {f : Int} (hf : 0 ≤ f ∧ f < 18446744073709551616) : Ok (pinT s f) := by
  obtain ⟨h1, h2⟩ := h
  unfold pinT
  split
  · exact ⟨.inr (.inr rfl), hf⟩
  · exact ⟨.inl rfl, h2⟩
end Go.Proofs.YtlagghghbpbcbaaGreatDoor.PiM

/- Slots taken and given back, in plain arithmetic. No program is named. -/
namespace Go.Proofs.YtlagghghbpbcbaaGreatDoor.PoM
open DM PM CM Runs

/-- A task of the stack's: its step (0 done, 1 looks, 2 links, 3 turns), the head it found, what is below. -/
structure St where
  st : Int
  was : Int
  low : Int
def Ok (s : St) : Prop := (s.st = 0 ∨ s.st = 1 ∨ s.st = 2 ∨ s.st = 3) ∧ (0 ≤ s.was ∧ s.was < 18446744073709551616) ∧ 0 ≤ s.low ∧ s.low < 18446744073709551616
/-- The head that comes behind w, with v on top. -/
def turnI (w v : Int) : Int := (w / 4294967296 + 1) % 4294967296 * 4294967296 + v % 4294967296
theorem turn_lo (w v : Int) : 0 ≤ turnI w v ∧ turnI w v < 18446744073709551616 := by unfold turnI; omega
theorem turn_half (w v : Int) : turnI w (v % 4294967296) = turnI w v := by unfold turnI; omega

/-- Taking a slot. -/
def popA (T L : Int) (s : St) : Option D :=
  if s.st = 1 then some (1, 3, 0, 0, 0) else if s.st = 2 then some (1, atI T L (s.was % 4294967296) 5, 0, 0, 0) else if s.st = 3 then some (3, 3, s.was, turnI s.was s.low, 0) else none
def popT (s : St) (f : Int) : St :=
  if s.st = 1 then ⟨if f % 4294967296 = 0 then 0 else 2, f, s.low⟩ else if s.st = 2 then ⟨3, s.was, f⟩ else if s.st = 3 then ⟨if f = s.was then 0 else 1, s.was, s.low⟩ else ⟨0, s.was, s.low⟩
def popI (s : St) : Int := if s.st = 0 then s.was % 4294967296 else 0
/-- Giving one back. -/
def pushA (T L i : Int) (s : St) : Option D :=
  if s.st = 1 then some (1, 3, 0, 0, 0) else if s.st = 2 then some (2, atI T L i 5, s.was % 4294967296, 0, 0) else if s.st = 3 then some (3, 3, s.was, turnI s.was i, 0) else none
def pushT (s : St) (f : Int) : St :=
  if s.st = 1 then ⟨2, f, s.low⟩ else if s.st = 2 then ⟨3, s.was, s.low⟩ else if s.st = 3 then ⟨if f = s.was then 0 else 1, s.was, s.low⟩ else ⟨0, s.was, s.low⟩

theorem popA_0 (T L w b : Int) : popA T L ⟨0, w, b⟩ = none := by simp [popA]
theorem popA_1 (T L w b : Int) : popA T L ⟨1, w, b⟩ = some (1, 3, 0, 0, 0) := by simp [popA]
theorem popA_2 (T L w b : Int) : popA T L ⟨2, w, b⟩ = some (1, atI T L (w % 4294967296) 5, 0, 0, 0) := by simp [popA]
theorem popA_3 (T L w b : Int) : popA T L ⟨3, w, b⟩ = some (3, 3, w, turnI w b, 0) := by simp [popA]
theorem popT_0 (w b f : Int) : popT ⟨0, w, b⟩ f = ⟨0, w, b⟩ := by simp [popT]
theorem popT_1n {w b f : Int} (h : f % 4294967296 = 0) : popT ⟨1, w, b⟩ f = ⟨0, f, b⟩ := by simp [popT, h]
theorem popT_1 {w b f : Int} (h : ¬ f % 4294967296 = 0) : popT ⟨1, w, b⟩ f = ⟨2, f, b⟩ := by simp [popT, h]
theorem popT_2 (w b f : Int) : popT ⟨2, w, b⟩ f = ⟨3, w, f⟩ := by simp [popT]
theorem popT_3 (w b : Int) : popT ⟨3, w, b⟩ w = ⟨0, w, b⟩ := by simp [popT]
theorem popT_3n {w b f : Int} (h : ¬ f = w) : popT ⟨3, w, b⟩ f = ⟨1, w, b⟩ := by simp [popT, h]
theorem popI_0 (w b : Int) : popI ⟨0, w, b⟩ = w % 4294967296 := by simp [popI]
theorem popI_n {s : St} (h : ¬ s.st = 0) : popI s = 0 := if_neg h
theorem pushT_0 (w b f : Int) : pushT ⟨0, w, b⟩ f = ⟨0, w, b⟩ := by simp [pushT]
theorem pushT_1 (w b f : Int) : pushT ⟨1, w, b⟩ f = ⟨2, f, b⟩ := by simp [pushT]
theorem pushT_2 (w b f : Int) : pushT ⟨2, w, b⟩ f = ⟨3, w, b⟩ := by simp [pushT]
theorem pushT_3 (w b : Int) : pushT ⟨3, w, b⟩ w = ⟨0, w, b⟩ := by simp [pushT]
theorem pushT_3n {w b f : Int} (h : ¬ f = w) : pushT ⟨3, w, b⟩ f = ⟨1, w, b⟩ := by simp [pushT, h]
theorem popT_ok {s : St} (h : Ok s) {f : Int} (hf : 0 ≤ f ∧ f < 18446744073709551616) : Ok (popT s f) := by
  obtain ⟨h1, h2, h3⟩ := h
  unfold popT
  split
  · refine ⟨?_, hf, h3⟩
    show (if f % 4294967296 = 0 then (0 : Int) else 2) = 0 ∨ _
    split <;> simp
  · split
    · exact ⟨by simp, h2, hf⟩
    · split
      · refine ⟨?_, h2, h3⟩
        show (if f = s.was then (0 : Int) else 1) = 0 ∨ (if f = s.was then (0 : Int) else 1) = 1 ∨ _
        split <;> simp
      · exact ⟨by simp, h2, h3⟩
end Go.Proofs.YtlagghghbpbcbaaGreatDoor.PoM

/- The chains that words tell, in plain lists: which references each has, which of them have no mark, what there is to find for a key. No program is named. -/
namespace Go.Proofs.YtlagghghbpbcbaaGreatDoor.KM
open DM PM CM BM OM Runs
open Go.RowKit (wrap64)
set_option linter.unusedVariables false
set_option linter.unusedSimpArgs false

theorem idx_lo (r : Int) : 0 ≤ idx r := by unfold idx; omega
theorem idx_zero : idx 0 = 0 := rfl
def plainI (r : Int) : Int := r - r % 2
theorem plain_even (r : Int) : plainI r % 2 = 0 := by unfold plainI; omega

/-! Words. -/
/-- A way on. -/
def wayI (T L : Int) (m : List Int) (r h : Int) : Int := getI m (nextI T L (idx r) h)
/-- A timer's place in the order. -/
def keyI (T L : Int) (m : List Int) (r : Int) : Key := (wrap64 (getI m (atI T L (idx r) 1)), getI m (atI T L (idx r) 2))
theorem key_same {T L : Int} {m : List Int} {a b : Int} (h : idx a = idx b) : keyI T L m a = keyI T L m b := by unfold keyI; rw [h]
theorem way_same {T L : Int} {m : List Int} {a b h : Int} (e : idx a = idx b) : wayI T L m a h = wayI T L m b h := by unfold wayI; rw [e]

section
variable (nx : Int → Int) (key : Int → Key) (N : Int)
/-- Does a chain stop ahead of r? -/
def bars (out : List Int) (r : Int) : Bool := decide (N < idx r) || (match out.getLast? with
  | none => false
  | some q => !ltK (key q) (key r))
def chainF : Nat → List Int → Int → List Int × Bool
  | 0, out, _ => (out, false)
  | f + 1, out, r => if idx r = 0 then (out, decide (r = 0)) else if bars key N out r = true then (out, false) else chainF f (out ++ [r]) (plainI (nx r))
/-- A chain, from a reference on. -/
def Path : Int → List Int → Prop
  | r, [] => r = 0
  | r, c :: cs => r = c ∧ c % 2 = 0 ∧ 1 ≤ idx c ∧ idx c ≤ N ∧ Path (plainI (nx c)) cs
def Rises (l : List Int) : Prop := l.Pairwise fun a b => ltK (key a) (key b) = true
end
theorem rises_snoc {key : Int → Key} {out : List Int} {r : Int} (h : Rises key out) (hl : ∀ q, out.getLast? = some q → ltK (key q) (key r) = true) : Rises key (out ++ [r]) := by
  rw [Rises, List.pairwise_append]
  refine ⟨h, by simp, fun a ha b hb => ?_⟩
  simp only [List.mem_singleton] at hb
  subst hb
  cases hq : out.getLast? with
  | none => rw [List.getLast?_eq_none_iff] at hq; subst hq; cases ha
  | some q =>
    have h1 := hl q hq
    obtain ⟨ys, rfl⟩ := List.getLast?_eq_some_iff.1 hq
    rw [Rises, List.pairwise_append] at h
    rw [List.mem_append, List.mem_singleton] at ha
    rcases ha with ha | rfl
    · exact ltK_trans _ _ _ (h.2.2 a ha q (by simp)) h1
    · exact h1
theorem bars_no {key : Int → Key} {N : Int} {out : List Int} {r : Int} (h : bars key N out r = false) : idx r ≤ N ∧ ∀ q, out.getLast? = some q → ltK (key q) (key r) = true := by
  unfold bars at h
  rw [Bool.or_eq_false_iff, decide_eq_false_iff_not] at h
  refine ⟨by omega, fun q hq => ?_⟩
  have h2 := h.2
  rw [hq] at h2
  simpa using h2
theorem bars_is {key : Int → Key} {N : Int} {out : List Int} {r : Int} (h1 : idx r ≤ N) (h2 : ∀ q, out.getLast? = some q → ltK (key q) (key r) = true) : bars key N out r = false := by
  unfold bars
  rw [Bool.or_eq_false_iff, decide_eq_false_iff_not]
  refine ⟨by omega, ?_⟩
  cases hq : out.getLast? with
  | none => rfl
  | some q => simp [h2 q hq]
theorem chain_path {nx : Int → Int} {key : Int → Key} {N : Int} : ∀ (f : Nat) (out : List Int) (r : Int) (res : List Int), chainF nx key N f out r = (res, true) → r % 2 = 0 → Rises key out → ∃ cs, res = out ++ cs ∧ Path nx N r cs ∧ Rises key (out ++ cs)
  | 0, out, r, res, h, _, _ => by simp [chainF] at h
  | f + 1, out, r, res, h, he, hr => by
    unfold chainF at h
    split at h
    · simp only [Prod.mk.injEq, decide_eq_true_eq] at h
      exact ⟨[], by rw [List.append_nil, h.1], h.2, by rw [List.append_nil]; exact hr⟩
    · split at h
      · simp at h
      · obtain ⟨h1, h2⟩ := bars_no (by simpa using ‹¬ bars key N out r = true›)
        obtain ⟨cs, e1, e2, e3⟩ := chain_path f _ _ _ h (plain_even _) (rises_snoc hr h2)
        have := idx_lo r
        exact ⟨r :: cs, by rw [e1, List.append_assoc]; rfl, ⟨rfl, he, by omega, h1, e2⟩, by rw [List.append_assoc] at e3; exact e3⟩
theorem path_chain {nx : Int → Int} {key : Int → Key} {N : Int} : ∀ (cs : List Int) (f : Nat) (out : List Int) (r : Int), Path nx N r cs → Rises key (out ++ cs) → cs.length < f → chainF nx key N f out r = (out ++ cs, true)
  | [], f, out, r, hp, hr, hf => by
    obtain ⟨f, rfl⟩ : ∃ f', f = f' + 1 := ⟨f - 1, by simp at hf; omega⟩
    have hp : r = 0 := hp
    subst hp
    unfold chainF
    rw [if_pos idx_zero, List.append_nil]
    rfl
  | c :: cs, f, out, r, hp, hr, hf => by
    obtain ⟨f, rfl⟩ : ∃ f', f = f' + 1 := ⟨f - 1, by simp at hf; omega⟩
    obtain ⟨rfl, h1, h2, h3, h4⟩ := hp
    unfold chainF
    have e : out ++ r :: cs = (out ++ [r]) ++ cs := by rw [List.append_assoc]; rfl
    rw [if_neg (by omega), if_neg, e]
    · rw [e] at hr
      exact path_chain cs f (out ++ [r]) _ h4 hr (by simp at hf; omega)
    · rw [bars_is h3]
      · simp
      · intro q hq
        obtain ⟨ys, rfl⟩ := List.getLast?_eq_some_iff.1 hq
        rw [Rises, List.pairwise_append] at hr
        exact hr.2.2 q (by simp) r (by simp)
theorem path_in {nx : Int → Int} {N : Int} : ∀ (cs : List Int) (r : Int), Path nx N r cs → ∀ c ∈ cs, 1 ≤ idx c ∧ idx c ≤ N ∧ c % 2 = 0
  | [], _, _, c, hc => by cases hc
  | x :: cs, r, hp, c, hc => by
    obtain ⟨rfl, h1, h2, h3, h4⟩ := hp
    rcases List.mem_cons.1 hc with rfl | hc
    · exact ⟨h2, h3, h1⟩
    · exact path_in cs _ h4 c hc
/-- Ways that read the same along it. -/
theorem path_cong {nx nx' : Int → Int} {N : Int} : ∀ (cs : List Int) (r : Int), Path nx N r cs → (∀ c ∈ cs, nx' c = nx c) → Path nx' N r cs
  | [], _, hp, _ => hp
  | x :: cs, r, hp, he => by
    obtain ⟨rfl, h1, h2, h3, h4⟩ := hp
    refine ⟨rfl, h1, h2, h3, ?_⟩
    rw [he r (by simp)]
    exact path_cong cs _ h4 fun c hc => he c (by simp [hc])
/-- A member, and what is behind it. -/
theorem path_split {nx : Int → Int} {N : Int} : ∀ (A : List Int) (r p : Int) (cs : List Int), Path nx N r (A ++ p :: cs) → Path nx N (plainI (nx p)) cs
  | [], r, p, cs, hp => hp.2.2.2.2
  | x :: A, r, p, cs, hp => path_split A _ p cs hp.2.2.2.2
/-- In what rises no slot is twice. -/
theorem rises_apart {key : Int → Key} {l : List Int} (h : Rises key l) (hk : ∀ a b, idx a = idx b → key a = key b) : l.Pairwise fun a b => idx a ≠ idx b :=
  List.Pairwise.imp (fun {a b} hab e => by rw [hk a b e, ltK_irrefl] at hab; cases hab) h
theorem rises_few {key : Int → Key} {N : Nat} {l : List Int} (h : Rises key l) (hk : ∀ a b, idx a = idx b → key a = key b) (hl : ∀ c ∈ l, 1 ≤ idx c ∧ idx c ≤ (N : Int)) : l.length ≤ N := by
  have hg : BM.Good N (l.map idx) := by
    refine ⟨?_, fun x hx => ?_⟩
    · rw [List.Nodup, List.pairwise_map]
      exact rises_apart h hk
    · obtain ⟨c, hc, rfl⟩ := List.mem_map.1 hx
      exact hl c hc
  have := good_len N _ hg
  rwa [List.length_map] at this

/-- The chain of a level; does it rise, of slots that there are, to its end? -/
def chainI (T L N : Int) (m : List Int) (h : Int) : List Int × Bool := if wayI T L m 0 h % 2 = 1 then ([], false) else chainF (fun r => wayI T L m r h) (keyI T L m) N (N.toNat + 1) [] (wayI T L m 0 h)
/-- Those of it without a mark. -/
def freeB (T L : Int) (m : List Int) (h r : Int) : Bool := !decide (wayI T L m r h % 2 = 1)
def keptL (T L N : Int) (m : List Int) (h : Int) : List Int := (chainI T L N m h).1.filter (freeB T L m h)
/-- What there is to find in a list: the last one that is less, the first one that is not. -/
def findL (lt : Int → Bool) : List Int → Int → Int × Int
  | [], p => (p, 0)
  | c :: cs, p => if lt c = true then findL lt cs c else (p, c)
/-- All chains rise, and whoever is in one without a mark is so in the one below. -/
def GoodW (T L N : Int) (m : List Int) : Prop := ∀ h : Nat, (h : Int) < L → (chainI T L N m h).2 = true ∧ ∀ g : Nat, h = g + 1 → ∀ r ∈ (chainI T L N m h).1, freeB T L m h r = true → r ∈ (chainI T L N m g).1 ∧ freeB T L m g r = true
def Chain (T L N : Int) (m : List Int) (h : Int) (cs : List Int) : Prop := wayI T L m 0 h % 2 = 0 ∧ Path (fun r => wayI T L m r h) N (wayI T L m 0 h) cs ∧ Rises (keyI T L m) cs
theorem chain_of {T L N : Int} {m : List Int} {h : Int} {cs : List Int} (e : chainI T L N m h = (cs, true)) : Chain T L N m h cs := by
  unfold chainI at e
  split at e
  · simp at e
  · obtain ⟨cs', e1, e2, e3⟩ := chain_path _ _ _ _ e (by omega) List.Pairwise.nil
    rw [List.nil_append] at e1 e3
    subst e1
    exact ⟨by omega, e2, e3⟩
theorem chain_is {T L : Int} {N : Nat} {m : List Int} {h : Int} {cs : List Int} (hN : N ≤ 64) (hc : Chain T L N m h cs) : chainI T L N m h = (cs, true) := by
  obtain ⟨h1, h2, h3⟩ := hc
  unfold chainI
  rw [if_neg (by omega)]
  have := rises_few h3 (fun a b e => key_same e) (fun c hc => ⟨(path_in _ _ h2 c hc).1, (path_in _ _ h2 c hc).2.1⟩)
  have e := path_chain cs ((N : Int).toNat + 1) [] _ h2 (by simpa using h3) (by omega)
  rwa [List.nil_append] at e

/-! Where the ways on are. -/
theorem mul_step {L i j : Nat} (h : i < j) (hi : 1 ≤ i) : (i - 1) * (6 + L) + (6 + L) ≤ (j - 1) * (6 + L) := by
  have h1 := Nat.mul_le_mul_right (6 + L) (show i ≤ j - 1 by omega)
  have e : i * (6 + L) = (i - 1) * (6 + L) + (6 + L) := by rw [← Nat.succ_mul]; congr 1; omega
  omega
theorem next_inj {T L i j h g : Nat} (hh : h < L) (hg : g < L) (e : nextN T L i h = nextN T L j g) : i = j ∧ h = g := by
  unfold nextN atN at e
  split at e <;> split at e
  · omega
  · have := Nat.zero_le ((j - 1) * (6 + L)); omega
  · have := Nat.zero_le ((i - 1) * (6 + L)); omega
  · rcases Nat.lt_trichotomy i j with h1 | h1 | h1
    · have := mul_step (L := L) h1 (by omega); omega
    · subst h1; omega
    · have := mul_step (L := L) h1 (by omega); omega
theorem next_at {T L i j h a : Nat} (hh : h < L) (hj : 1 ≤ j) (ha : a ≤ 5) : nextN T L i h ≠ atN T L j a := by
  intro e
  unfold nextN at e
  split at e
  · unfold atN at e; have := Nat.zero_le ((j - 1) * (6 + L)); omega
  · unfold atN at e
    rcases Nat.lt_trichotomy i j with h1 | h1 | h1
    · have := mul_step (L := L) h1 (by omega); omega
    · subst h1; omega
    · have := mul_step (L := L) h1 (by omega); omega
theorem next_in {T N L i h : Nat} (hi : i ≤ N) (hh : h < L) : nextN T L i h < wordsN T N L := by
  unfold nextN wordsN
  split
  · have := Nat.zero_le (N * (6 + L)); omega
  · unfold atN
    have h1 := Nat.mul_le_mul_right (6 + L) hi
    have e : i * (6 + L) = (i - 1) * (6 + L) + (6 + L) := by rw [← Nat.succ_mul]; congr 1; omega
    omega
section
variable {T N L : Nat}
theorem way_nat (hT : T ≤ 8) (hN : N ≤ 64) (hL : L ≤ 8) {r : Int} {h : Nat} (hr : idx r ≤ (N : Int)) (hh : h < L) : nextI (T : Int) (L : Int) (idx r) (h : Int) = ((nextN T L (idx r).toNat h : Nat) : Int) ∧ nextN T L (idx r).toNat h < wordsN T N L := by
  have h0 := idx_lo r
  refine ⟨?_, next_in (by omega) hh⟩
  have := next_cast (T := T) (L := L) (i := (idx r).toNat) (k := h) (by omega) (by omega) (by omega) (by omega)
  rwa [Int.toNat_of_nonneg h0] at this
theorem key_nat (hT : T ≤ 8) (hN : N ≤ 64) (hL : L ≤ 8) {r : Int} {a : Nat} (h1 : 1 ≤ idx r) (hr : idx r ≤ (N : Int)) (ha : a ≤ 5) : atI (T : Int) (L : Int) (idx r) (a : Int) = ((atN T L (idx r).toNat a : Nat) : Int) := by
  have h0 := idx_lo r
  have := at_cast (T := T) (L := L) (i := (idx r).toNat) (k := a) (by omega) (by omega) (by omega) (by omega) (by omega)
  rwa [Int.toNat_of_nonneg h0] at this
/-- A way on is turned. -/
theorem set_way (hT : T ≤ 8) (hN : N ≤ 64) (hL : L ≤ 8) {m : List Int} (hm : m.length = wordsN T N L) {p r v : Int} {h g : Nat} (hp : idx p ≤ (N : Int)) (hr : idx r ≤ (N : Int)) (hh : h < L) (hg : g < L) :
    wayI T L (setI m (nextI T L (idx p) h) v) r g = if idx r = idx p ∧ g = h then v else wayI T L m r g := by
  obtain ⟨e1, b1⟩ := way_nat hT hN hL hp hh
  obtain ⟨e2, b2⟩ := way_nat hT hN hL hr hg
  unfold wayI
  split
  · obtain ⟨q1, q2⟩ := ‹_›
    subst q2
    rw [q1]
    exact get_set (by rw [e1]; exact MM.there_in hm b1) v
  · refine get_other fun e => ?_
    rw [e1, e2] at e
    have := next_inj hh hg (show nextN T L (idx p).toNat h = nextN T L (idx r).toNat g by omega)
    have z1 := idx_lo r
    have z2 := idx_lo p
    exact absurd (show idx r = idx p ∧ g = h from ⟨by omega, by omega⟩) ‹¬ (idx r = idx p ∧ g = h)›
theorem set_key (hT : T ≤ 8) (hN : N ≤ 64) (hL : L ≤ 8) {m : List Int} {p r v : Int} {h : Nat} (hp : idx p ≤ (N : Int)) (h1 : 1 ≤ idx r) (hr : idx r ≤ (N : Int)) (hh : h < L) :
    keyI T L (setI m (nextI T L (idx p) h) v) r = keyI T L m r := by
  obtain ⟨e1, b1⟩ := way_nat hT hN hL hp hh
  have a1 := key_nat hT hN hL (a := 1) h1 hr (by omega)
  have a2 := key_nat hT hN hL (a := 2) h1 hr (by omega)
  have z1 := idx_lo r
  unfold keyI
  change atI _ _ _ 1 = _ at a1
  change atI _ _ _ 2 = _ at a2
  rw [get_other, get_other]
  · rw [e1, a2]; intro e; exact next_at hh (by omega) (by omega) (show nextN T L (idx p).toNat h = atN T L (idx r).toNat 2 by omega)
  · rw [e1, a1]; intro e; exact next_at hh (by omega) (by omega) (show nextN T L (idx p).toNat h = atN T L (idx r).toNat 1 by omega)
end
theorem find_past (lt : Int → Bool) : ∀ (A : List Int) (p : Int) (B : List Int) (q : Int), (∀ a ∈ A, lt a = true) → lt q = true → findL lt (A ++ q :: B) p = findL lt B q
  | [], p, B, q, _, hq => by rw [List.nil_append]; exact if_pos hq
  | a :: A, p, B, q, hA, hq => by
    show (if lt a = true then _ else _) = _
    rw [if_pos (hA a (by simp))]
    exact find_past lt A a B q (fun x hx => hA x (by simp [hx])) hq
/-- Where it is found. -/
theorem find_where (lt : Int → Bool) : ∀ (l : List Int) (p : Int), (findL lt l p).1 = p ∨ ((findL lt l p).1 ∈ l ∧ lt (findL lt l p).1 = true)
  | [], _ => .inl rfl
  | c :: cs, p => by
    show (if lt c = true then findL lt cs c else (p, c)).1 = p ∨ _
    by_cases h : lt c = true
    · have e : findL lt (c :: cs) p = findL lt cs c := if_pos h
      rw [e]
      rcases find_where lt cs c with h1 | ⟨h1, h2⟩
      · exact .inr (by rw [h1]; exact ⟨by simp, h⟩)
      · exact .inr ⟨by simp [h1], h2⟩
    · exact .inl (by rw [if_neg h])
end Go.Proofs.YtlagghghbpbcbaaGreatDoor.KM

/- A claimer, in plain arithmetic: what it asks for, and what it becomes. No program is named. -/
namespace Go.Proofs.YtlagghghbpbcbaaGreatDoor.ClM
set_option maxRecDepth 20000
open DM PM CM KM Runs
set_option linter.unusedVariables false
set_option linter.unusedSimpArgs false

/-- A claimer: whether it is done, whether it was it that took the timer. -/
structure St where
  dn : Bool
  wn : Bool
/-- The generation of a reference. -/
def genI (r : Int) : Int := r / 4294967296
def claimA (T L r : Int) (s : St) : Option D := if s.dn = true then none else some (3, atI T L (idx r) 0, SM.stI (genI r) 2, SM.stI (genI r) 3, 0)
def claimT (r : Int) (s : St) (f : Int) : St := if s.dn = true then s else ⟨true, decide (f = SM.stI (genI r) 2)⟩
/-- Such a claimer as there can be: none has won that is not done. -/
def Ok (s : St) : Prop := s.dn = false → s.wn = false
theorem new_ok : Ok ⟨false, false⟩ := fun _ => rfl
end Go.Proofs.YtlagghghbpbcbaaGreatDoor.ClM

/- What is due is taken, in plain arithmetic: what a walker asks for, and what it becomes. No program is named. -/
namespace Go.Proofs.YtlagghghbpbcbaaGreatDoor.WaM
set_option maxRecDepth 20000
open DM PM CM KM Runs
open ClM (genI)
open Go.RowKit (wrap64)
set_option linter.unusedVariables false
set_option linter.unusedSimpArgs false

/-- A timer that was taken: its handle, its deadline, its number. -/
abbrev Du := Int × Int × Int
def never : Int := 1152921504606846977
def handI (r : Int) : Int := genI r * 4294967296 + idx r
/-- The last one's number is known. -/
def fillS : List Du → Int → List Du
  | [], _ => []
  | [x], f => [(x.1, x.2.1, f)]
  | x :: y :: l, f => x :: fillS (y :: l) f
/-- A walker: its step (0 done, else as the chapter counts them), the time, the timer that it is at, that one's deadline, by which deadline it was stopped, what was taken. -/
structure St where
  st : Int
  nw : Int
  cu : Int
  dd : Int
  sp : Int
  out : List Du
def start : St := ⟨1, 0, 0, 0, never, []⟩
/-- Step 3. -/
def arrive (count : Int) (s : St) (w : Int) : St := if count ≤ (s.out.length : Int) ∨ idx w = 0 then ⟨0, s.nw, s.cu, s.dd, s.sp, s.out⟩ else ⟨4, s.nw, plainI w, s.dd, s.sp, s.out⟩
def walkA (T L : Int) (s : St) : Option D :=
  if s.st = 1 then some (1, 1, 0, 0, 0) else if s.st = 2 then some (1, nextI T L 0 0, 0, 0, 0) else if s.st = 4 then some (1, atI T L (idx s.cu) 1, 0, 0, s.cu) else
  if s.st = 5 then some (1, atI T L (idx s.cu) 0, 0, 0, 0) else if s.st = 6 then some (3, atI T L (idx s.cu) 0, SM.stI (genI s.cu) 2, SM.stI (genI s.cu) 3, 0) else
  if s.st = 7 then some (1, atI T L (idx s.cu) 2, 0, 0, s.cu) else if s.st = 8 then some (1, nextI T L (idx s.cu) 0, 0, 0, s.cu) else none
def walkT (count : Int) (s : St) (f : Int) : St :=
  if s.st = 1 then ⟨2, wrap64 f, s.cu, s.dd, s.sp, s.out⟩ else if s.st = 2 then arrive count s f else
  if s.st = 4 then (if s.nw < wrap64 f then ⟨0, s.nw, s.cu, wrap64 f, wrap64 f, s.out⟩ else ⟨5, s.nw, s.cu, wrap64 f, s.sp, s.out⟩) else
  if s.st = 5 then (if f = SM.stI (genI s.cu) 2 then ⟨6, s.nw, s.cu, s.dd, s.sp, s.out⟩ else ⟨8, s.nw, s.cu, s.dd, s.sp, s.out⟩) else
  if s.st = 6 then (if f = SM.stI (genI s.cu) 2 then ⟨7, s.nw, s.cu, s.dd, s.sp, s.out ++ [(handI s.cu, s.dd, 0)]⟩ else ⟨8, s.nw, s.cu, s.dd, s.sp, s.out⟩) else
  if s.st = 7 then ⟨8, s.nw, s.cu, s.dd, s.sp, fillS s.out f⟩ else if s.st = 8 then arrive count s f else s
section
variable {T L count nw cu dd sp f w : Int} {out : List Du}
end
/-- A timer such as can have been taken. -/
def DuOk (x : Du) : Prop := (0 ≤ x.1 ∧ x.1 < 18446744073709551616) ∧ (-9223372036854775808 ≤ x.2.1 ∧ x.2.1 ≤ 9223372036854775807) ∧ 0 ≤ x.2.2 ∧ x.2.2 < 18446744073709551616
/-- Such a walker as there can be, told k words at most. -/
structure Ok (k : Nat) (s : St) : Prop where
  st : s.st = 0 ∨ s.st = 1 ∨ s.st = 2 ∨ s.st = 4 ∨ s.st = 5 ∨ s.st = 6 ∨ s.st = 7 ∨ s.st = 8
  nw : -9223372036854775808 ≤ s.nw ∧ s.nw ≤ 9223372036854775807
  cu : (0 ≤ s.cu ∧ s.cu < 18446744073709551616) ∧ s.cu % 2 = 0
  dd : -9223372036854775808 ≤ s.dd ∧ s.dd ≤ 9223372036854775807
  sp : -9223372036854775808 ≤ s.sp ∧ s.sp ≤ 9223372036854775807
  out : ∀ x ∈ s.out, DuOk x
  len : s.out.length ≤ k
  some : s.st = 7 → s.out ≠ []
theorem start_ok : Ok 0 start := ⟨.inr (.inl rfl), ⟨by decide, by decide⟩, ⟨⟨by decide, by decide⟩, rfl⟩, ⟨by decide, by decide⟩, ⟨by decide, by decide⟩, fun x h => (by cases h), Nat.le_refl _, fun h => (by cases h)⟩
theorem Ok.up {k k' : Nat} {s : St} (h : Ok k s) (hk : k ≤ k') : Ok k' s := ⟨h.st, h.nw, h.cu, h.dd, h.sp, h.out, Nat.le_trans h.len hk, h.some⟩
end Go.Proofs.YtlagghghbpbcbaaGreatDoor.WaM

/- Heights of towers, in plain arithmetic: how many of the lowest bits are 1, the height that a number draws, those that a list draws, how many draw each. No program is named. -/
namespace Go.Proofs.YtlagghghbpbcbaaGreatDoor.DM

/-- How many of the lowest bits are 1, one behind the other. -/
def ones (n : Nat) : Nat := if n % 2 = 1 then ones (n / 2) + 1 else 0
decreasing_by omega
theorem ones_odd {n : Nat} (h : n % 2 = 1) : ones n = ones (n / 2) + 1 := by rw [ones, if_pos h]
theorem ones_even {n : Nat} (h : ¬ n % 2 = 1) : ones n = 0 := by rw [ones, if_neg h]
theorem ones_le : ∀ (k n : Nat), n < 2 ^ k → ones n ≤ k
  | 0, n, h => by
    obtain rfl : n = 0 := by simpa using h
    rw [ones_even (by decide)]
    exact Nat.le_refl _
  | k + 1, n, h => by
    by_cases hn : n % 2 = 1
    · rw [ones_odd hn]
      have := ones_le k (n / 2) (by rw [Nat.pow_succ] at h; omega)
      omega
    · rw [ones_even hn]
      omega

def onesI (v : Int) : Nat := ones v.toNat
theorem onesI_odd {v : Int} (h0 : 0 ≤ v) (h : v % 2 = 1) : onesI v = onesI (v / 2) + 1 := by
  unfold onesI
  rw [ones_odd (by omega), show (v / 2).toNat = v.toNat / 2 by omega]
theorem onesI_even {v : Int} (h : ¬ v % 2 = 1) : onesI v = 0 := by
  have hn : ¬ v.toNat % 2 = 1 := by omega
  exact ones_even hn
theorem onesI_le {v : Int} (h0 : 0 ≤ v) (h1 : v < 18446744073709551616) : onesI v ≤ 64 := ones_le 64 _ (by
  have : (2 : Nat) ^ 64 = 18446744073709551616 := by decide
  rw [this]; omega)

/-- The number without its lowest k bits. -/
def tailI (v : Int) (k : Nat) : Int := v / 2 ^ k
theorem tail_zero (v : Int) : tailI v 0 = v := by simp [tailI]
theorem tail_succ (v : Int) (k : Nat) : tailI v (k + 1) = tailI v k / 2 := by
  unfold tailI
  rw [Int.pow_succ, Int.ediv_ediv_of_nonneg (by exact Int.le_of_lt (Int.pow_pos (by decide)))]
theorem tail_lo {v : Int} (h : 0 ≤ v) (k : Nat) : 0 ≤ tailI v k := Int.ediv_nonneg h (Int.le_of_lt (Int.pow_pos (by decide)))
theorem tail_le {v : Int} (h : 0 ≤ v) : ∀ k, tailI v k ≤ v
  | 0 => by rw [tail_zero]; exact Int.le_refl _
  | k + 1 => by rw [tail_succ]; have := tail_le h k; have := tail_lo h k; omega
theorem tail_end {v : Int} (h0 : 0 ≤ v) (h1 : v < 18446744073709551616) : tailI v 64 = 0 := by
  unfold tailI
  rw [show (2 : Int) ^ 64 = 18446744073709551616 by decide]
  omega
theorem tail_odd {v : Int} (h0 : 0 ≤ v) {k : Nat} (he : onesI v = k + onesI (tailI v k)) (h : tailI v k % 2 = 1) : onesI v = (k + 1) + onesI (tailI v (k + 1)) := by
  rw [tail_succ]
  have := onesI_odd (tail_lo h0 k) h
  omega
theorem tail_even {v : Int} {k : Nat} (he : onesI v = k + onesI (tailI v k)) (h : ¬ tailI v k % 2 = 1) : onesI v = k := by
  have := onesI_even h
  omega
theorem tail_done {v : Int} (h0 : 0 ≤ v) (h1 : v < 18446744073709551616) (he : onesI v = 64 + onesI (tailI v 64)) : onesI v = 64 := by
  have hz : onesI 0 = 0 := onesI_even (v := 0) (by decide)
  rw [tail_end h0 h1, hz] at he
  exact he

/-- The height that v draws, of so many levels. -/
def heightI (v lv : Int) : Int := if lv < 1 then 0 else if lv ≤ (onesI v : Int) + 1 then lv else (onesI v : Int) + 1
theorem height_none {v lv : Int} (h : lv < 1) : heightI v lv = 0 := if_pos h
theorem height_all {v lv : Int} (h : ¬ lv < 1) (h2 : lv ≤ (onesI v : Int) + 1) : heightI v lv = lv := by unfold heightI; rw [if_neg h, if_pos h2]
theorem height_some {v lv : Int} (h : ¬ lv < 1) (h2 : ¬ lv ≤ (onesI v : Int) + 1) : heightI v lv = (onesI v : Int) + 1 := by unfold heightI; rw [if_neg h, if_neg h2]
/-- How many of l draw h, of so many levels. -/
def drawn (l : List Int) (lv h : Int) : Nat := l.countP fun v => heightI v lv == h
/-- How many draw 1, 2, .., m. -/
def counts (l : List Int) (lv : Int) (m : Nat) : List Int := (List.range m).map fun j : Nat => ((drawn l lv ((j : Int) + 1) : Nat) : Int)
/-- So many heights are counted: levels below 0 as 0, above 64 as 64. -/
def levelsN (lv : Int) : Nat := (min (max lv 0) 64).toNat
/-- A row half filled with heights. -/
def filled (l : List Int) (lv : Int) (k : Nat) : List Int := (l.take k).map (heightI · lv) ++ List.replicate (l.length - k) 0
end Go.Proofs.YtlagghghbpbcbaaGreatDoor.DM

/- A seeker done alone where all chains rise, and whoever is in one without a mark is so in the one below, in plain lists: what it finds, and what it leaves. No program is named. -/
namespace Go.Proofs.YtlagghghbpbcbaaGreatDoor.KM
open DM PM CM BM OM Runs
open Go.RowKit (wrap64)
set_option linter.unusedVariables false
set_option linter.unusedSimpArgs false

theorem steps_then {σ : Type} {ask : σ → Option D} {tell : σ → Int → σ} : ∀ (a b : Nat) (l l1 : List Int) (s s1 : σ) (r : List Int × σ), steps ask tell a l s = some (l1, s1) → steps ask tell b l1 s1 = some r → steps ask tell (a + b) l s = some r
  | 0, b, l, l1, s, s1, r, h1, h2 => by
    simp only [steps, Option.some.injEq, Prod.mk.injEq] at h1
    obtain ⟨rfl, rfl⟩ := h1
    rw [Nat.zero_add]; exact h2
  | a + 1, b, l, l1, s, s1, r, h1, h2 => by
    obtain ⟨d, hd, h3⟩ := steps_amid h1
    rw [show a + 1 + b = (a + b) + 1 by omega, steps_more hd]
    exact steps_then a b _ _ _ _ r h3 h2
/-- At one level ways on have been turned, but not their marks. -/
structure Cut (T N L : Nat) (h : Nat) (m m' : List Int) : Prop where
  len : m'.length = m.length
  fit : BM.Fits m → BM.Fits m'
  off : ∀ (r : Int) (g : Nat), idx r ≤ (N : Int) → g < L → g ≠ h → wayI T L m' r g = wayI T L m r g
  key : ∀ r : Int, 1 ≤ idx r → idx r ≤ (N : Int) → keyI T L m' r = keyI T L m r
  par : ∀ r : Int, idx r ≤ (N : Int) → wayI T L m' r h % 2 = wayI T L m r h % 2
  odd : ∀ r : Int, idx r ≤ (N : Int) → wayI T L m r h % 2 = 1 → wayI T L m' r h = wayI T L m r h
  oth : ∀ i : Int, (∀ (r : Int) (g : Nat), idx r ≤ (N : Int) → g < L → i ≠ nextI T L (idx r) g) → getI m' i = getI m i
section
variable {T N L h : Nat} {m m' m2 : List Int}
theorem Cut.refl (m : List Int) : Cut T N L h m m := ⟨rfl, id, fun _ _ _ _ _ => rfl, fun _ _ _ => rfl, fun _ _ => rfl, fun _ _ _ => rfl, fun _ _ => rfl⟩
theorem Cut.trans (a : Cut T N L h m m') (b : Cut T N L h m' m2) : Cut T N L h m m2 :=
  ⟨b.len.trans a.len, fun f => b.fit (a.fit f), fun r g h1 h2 h3 => (b.off r g h1 h2 h3).trans (a.off r g h1 h2 h3), fun r h1 h2 => (b.key r h1 h2).trans (a.key r h1 h2), fun r h1 => (b.par r h1).trans (a.par r h1), fun r h1 h2 => (b.odd r h1 (by rw [a.par r h1]; exact h2)).trans (a.odd r h1 h2), fun i hi => (b.oth i hi).trans (a.oth i hi)⟩
theorem Cut.free (a : Cut T N L h m m') {r : Int} (hr : idx r ≤ (N : Int)) : freeB T L m' h r = freeB T L m h r := by unfold freeB; rw [a.par r hr]
theorem cut_one (hT : T ≤ 8) (hN : N ≤ 64) (hL : L ≤ 8) (hh : h < L) (hm : m.length = wordsN T N L) {p v : Int} (hp : idx p ≤ (N : Int)) (hv : 0 ≤ v ∧ v < 18446744073709551616) (he : v % 2 = wayI T L m p h % 2) (h0 : v % 2 = 0) : Cut T N L h m (setI m (nextI T L (idx p) h) v) := by
  refine ⟨setI_length _ _ _, fun f => fits_set f _ hv, fun r g h1 h2 h3 => ?_, fun r h1 h2 => set_key hT hN hL hp h1 h2 hh, fun r h1 => ?_, fun r h1 h2 => ?_, fun i hi => get_other (Ne.symm (hi p h hp hh))⟩
  · rw [set_way hT hN hL hm hp h1 hh h2, if_neg fun q => h3 q.2]
  · rw [set_way hT hN hL hm hp h1 hh hh]
    split
    · obtain ⟨e, -⟩ := ‹_ ∧ _›
      rw [he, way_same e]
    · rfl
  · rw [set_way hT hN hL hm hp h1 hh hh, if_neg]
    rintro ⟨e, -⟩
    rw [way_same e] at h2
    omega
end

theorem less_is {d n dl sq : Int} : ltK (wrap64 d, n) (dl, sq) = if wrap64 d = dl then decide (n < sq) else decide (wrap64 d < dl) := by
  unfold ltK
  simp only
  split
  · simp [*]
  · simp [*]

/-- One level: from pr on. -/
theorem level_run {T N L : Nat} {dl sq : Int} {ps ss : List Int} (hT : T ≤ 8) (hN : N ≤ 64) (hL : L ≤ 8) {h : Nat} (hh : h < L) {lt : Int → Bool} : ∀ (cs m : List Int) (pr cu nx : Int), m.length = wordsN T N L → BM.Fits m → idx pr ≤ (N : Int) →
    Path (fun r => wayI T L m r h) N (wayI T L m pr h) cs → Rises (keyI T L m) cs → (∀ c ∈ cs, idx c ≠ idx pr) → (∀ c ∈ cs, ltK (keyI T L m c) (dl, sq) = lt c) →
    ∃ k m' cs' cu' nx', k ≤ 3 * cs.length ∧
      steps (seekA T L) (seekT L dl sq) k m (reach h pr cu nx ps ss (wayI T L m pr h)) = some (m', find h (findL lt (cs.filter (freeB T L m h)) pr).1 cu' nx' ps ss (findL lt (cs.filter (freeB T L m h)) pr).2) ∧
      Cut T N L h m m' ∧ Path (fun r => wayI T L m' r h) N (wayI T L m' pr h) cs' ∧ cs'.Sublist cs ∧ cs'.filter (freeB T L m' h) = cs.filter (freeB T L m h) ∧
      wayI T L m' (findL lt (cs.filter (freeB T L m h)) pr).1 h = (findL lt (cs.filter (freeB T L m h)) pr).2 ∧
      ∀ r : Int, idx r ≤ (N : Int) → idx r ≠ idx pr → (∀ c ∈ cs, idx c ≠ idx r) → wayI T L m' r h = wayI T L m r h
  | [], m, pr, cu, nx, hm, hf, hp, hpath, _, _, _ => by
    have e : wayI T L m pr h = 0 := hpath
    refine ⟨0, m, [], cu, nx, Nat.le_refl _, ?_, Cut.refl m, hpath, List.Sublist.refl _, rfl, e, fun _ _ _ _ => rfl⟩
    rw [e, reach_none idx_zero]
    rfl
  | c :: cs, m, pr, cu, nx, hm, hf, hp, hpath, hr, hd, hlt => by
    obtain ⟨e, h1, h2, h3, h4⟩ := hpath
    have hc0 : ¬ idx c = 0 := by omega
    have hr2 : Rises (keyI T L m) cs := (List.pairwise_cons.1 hr).2
    have hdc : ∀ x ∈ cs, idx x ≠ idx c := fun x hx q => by
      have := (List.pairwise_cons.1 (rises_apart hr fun a b e => key_same e)).1 x hx
      exact this q.symm
    have hcp : idx c ≠ idx pr := hd c (by simp)
    have hw := fits_get hf (nextI T L (idx c) h)
    rw [e, reach_some hc0]
    by_cases hmk : wayI T L m c h % 2 = 1
    · -- it goes out
      have hset := fun {r : Int} {g : Nat} (a : idx r ≤ (N : Int)) (b : g < L) => set_way hT hN hL hm (v := plainI (wayI T L m c h)) hp a hh b
      obtain ⟨m1, hm1⟩ : ∃ m1, m1 = setI m (nextI T L (idx pr) h) (plainI (wayI T L m c h)) := ⟨_, rfl⟩
      rw [← hm1] at hset
      have hcut : Cut T N L h m m1 := hm1 ▸ cut_one hT hN hL hh hm hp (by unfold plainI wayI; omega) (by rw [plain_even, e, h1]) (plain_even _)
      have e1 : wayI T L m1 pr h = plainI (wayI T L m c h) := by rw [hset hp hh, if_pos ⟨rfl, rfl⟩]
      have hin := path_in _ _ h4
      have hsame : ∀ x : Int, idx x ≤ (N : Int) → idx x ≠ idx pr → wayI T L m1 x h = wayI T L m x h := fun x a b => by rw [hset a hh, if_neg fun q => b q.1]
      have hdp : ∀ x ∈ cs, idx x ≠ idx pr := fun x hx => hd x (by simp [hx])
      obtain ⟨k, m', cs', cu', nx', k1, k2, k3, k4, k5, k6, k7, k8⟩ := level_run hT hN hL hh (lt := lt) (dl := dl) (sq := sq) (ps := ps) (ss := ss) cs m1 pr c (plainI (wayI T L m c h)) (hcut.len.trans hm) (hcut.fit hf) hp
        (by rw [e1]; exact path_cong cs _ h4 fun x hx => hsame x (hin x hx).2.1 (hdp x hx)) (by
          refine List.Pairwise.imp_of_mem (fun {a b} ha hb hab => ?_) hr2
          rw [hcut.key a (hin a ha).1 (hin a ha).2.1, hcut.key b (hin b hb).1 (hin b hb).2.1]; exact hab) hdp
        (fun x hx => by rw [hcut.key x (hin x hx).1 (hin x hx).2.1]; exact hlt x (by simp [hx]))
      have hfil : cs.filter (freeB T L m1 h) = (c :: cs).filter (freeB T L m h) := by
        rw [List.filter_cons_of_neg (by unfold freeB; simp [hmk])]
        exact List.filter_congr fun x hx => hcut.free (hin x hx).2.1
      rw [hfil] at k2 k6 k7
      refine ⟨2 + k, m', cs', cu', nx', by simp; omega, ?_, hcut.trans k3, k4, k5.trans (List.sublist_cons_self _ _), k6, k7, fun r a b d => ?_⟩
      · refine steps_then 2 k _ m1 _ _ _ ?_ k2
        rw [steps_more (k := 1) seekA_2, nextD_1, foundD_yes (by simp)]
        change steps _ _ 1 m (seekT L dl sq ⟨2, h, pr, c, nx, ps, ss⟩ (wayI T L m c h)) = _
        rw [seekT_2m hmk, steps_more (k := 0) seekA_3, nextD_3, foundD_yes (by simp)]
        change steps _ _ 0 (swapI m (nextI T L (idx pr) h) c (plainI (wayI T L m c h))) (seekT L dl sq ⟨3, h, pr, c, plainI (wayI T L m c h), ps, ss⟩ (wayI T L m pr h)) = _
        rw [e, seekT_3, e1, hm1]
        unfold swapI
        rw [if_pos (show getI m (nextI T L (idx pr) h) = c from e)]
        rfl
      · rw [k8 r a b fun x hx => d x (by simp [hx]), hsame r a b]
    · -- it stays
      have hn : wayI T L m c h - wayI T L m c h % 2 = wayI T L m c h := by unfold wayI at hmk ⊢; omega
      have hev : plainI (wayI T L m c h) = wayI T L m c h := hn
      rw [hev] at h4
      have hfc : (c :: cs).filter (freeB T L m h) = c :: cs.filter (freeB T L m h) := List.filter_cons_of_pos (by unfold freeB; simp [hmk])
      -- the steps up to the weighing's end
      have hweigh : ∃ j, 2 ≤ j ∧ j ≤ 3 ∧ steps (seekA T L) (seekT L dl sq) j m ⟨2, h, pr, c, nx, ps, ss⟩ = some (m, pass h pr c (wayI T L m c h) ps ss (lt c)) := by
        rw [← hlt c (by simp)]
        unfold keyI
        rw [less_is]
        by_cases hq : wrap64 (getI m (atI T L (idx c) 1)) = dl
        · refine ⟨3, by omega, by omega, ?_⟩
          rw [steps_more (k := 2) seekA_2, nextD_1, foundD_yes (by simp)]
          change steps _ _ 2 m (seekT L dl sq ⟨2, h, pr, c, nx, ps, ss⟩ (wayI T L m c h)) = _
          rw [seekT_2 hmk, hn, steps_more (k := 1) seekA_4, nextD_1, foundD_yes (by simp)]
          simp only
          rw [seekT_4e hq, steps_more (k := 0) seekA_5, nextD_1, foundD_yes (by simp)]
          simp only
          rw [seekT_5 rfl, if_pos hq]
          rfl
        · refine ⟨2, by omega, by omega, ?_⟩
          rw [steps_more (k := 1) seekA_2, nextD_1, foundD_yes (by simp)]
          change steps _ _ 1 m (seekT L dl sq ⟨2, h, pr, c, nx, ps, ss⟩ (wayI T L m c h)) = _
          rw [seekT_2 hmk, hn, steps_more (k := 0) seekA_4, nextD_1, foundD_yes (by simp)]
          simp only
          rw [seekT_4 hq rfl, if_neg hq]
          rfl
      obtain ⟨j, j1, j2, hj⟩ := hweigh
      by_cases hc : lt c = true
      · -- it is less
        obtain ⟨k, m', cs', cu', nx', k1, k2, k3, k4, k5, k6, k7, k8⟩ := level_run hT hN hL hh (lt := lt) (dl := dl) (sq := sq) (ps := ps) (ss := ss) cs m c c (wayI T L m c h) hm hf h3 h4 hr2 hdc (fun x hx => hlt x (by simp [hx]))
        have hfind : findL lt ((c :: cs).filter (freeB T L m h)) pr = findL lt (cs.filter (freeB T L m h)) c := by
          rw [hfc]; exact if_pos hc
        rw [hfind]
        have hwp : wayI T L m' pr h = wayI T L m pr h := k8 pr hp (fun q => hcp q.symm) fun x hx => hd x (by simp [hx])
        have hev' : wayI T L m' c h % 2 = 0 := by rw [k3.par c h3]; omega
        refine ⟨j + k, m', c :: cs', cu', nx', by simp; omega, ?_, k3, ?_, k5.cons_cons c, ?_, k7, fun r a b d => ?_⟩
        · refine steps_then j k _ m _ _ _ hj ?_
          rw [hc, pass_yes]
          exact k2
        · rw [hwp, e]
          refine ⟨rfl, h1, h2, h3, ?_⟩
          rw [show plainI (wayI T L m' c h) = wayI T L m' c h by unfold plainI; omega]
          exact k4
        · rw [hfc, List.filter_cons_of_pos (by unfold freeB; simp [hev']), k6]
        · exact k8 r a (fun q => d c (by simp) q.symm) fun x hx => d x (by simp [hx])
      · -- it is not
        have hfind : findL lt ((c :: cs).filter (freeB T L m h)) pr = (pr, c) := by
          rw [hfc]; exact if_neg hc
        rw [hfind]
        refine ⟨j, m, c :: cs, c, wayI T L m c h, by simp; omega, ?_, Cut.refl m, ?_, List.Sublist.refl _, rfl, e, fun _ _ _ _ => rfl⟩
        · rw [hj, show lt c = false by simpa using hc, pass_no]
        · rw [e]
          exact ⟨rfl, h1, h2, h3, by rw [hev]; exact h4⟩
theorem path_pre {nx nx' : Int → Int} {N : Int} : ∀ (A : List Int) (r p : Int) (cs cs' : List Int), Path nx N r (A ++ p :: cs) → (∀ a ∈ A, nx' a = nx a) → Path nx' N (plainI (nx' p)) cs' → Path nx' N r (A ++ p :: cs')
  | [], r, p, cs, cs', hp, _, hq => ⟨hp.1, hp.2.1, hp.2.2.1, hp.2.2.2.1, hq⟩
  | x :: A, r, p, cs, cs', hp, ha, hq => ⟨hp.1, hp.2.1, hp.2.2.1, hp.2.2.2.1, by rw [ha x (by simp)]; exact path_pre A _ p cs cs' hp.2.2.2.2 (fun a h => ha a (by simp [h])) hq⟩
theorem rises_cut {T N L h : Nat} {m m' l l' : List Int} (hc : Cut T N L h m m') (hr : Rises (keyI T L m) l) (hs : l'.Sublist l) (hin : ∀ c ∈ l, 1 ≤ idx c ∧ idx c ≤ (N : Int)) : Rises (keyI T L m') l' := by
  refine List.Pairwise.imp_of_mem (fun {a b} ha hb hab => ?_) (List.Pairwise.sublist hs hr)
  have za := hin a (hs.subset ha)
  have zb := hin b (hs.subset hb)
  rw [hc.key a za.1 za.2, hc.key b zb.1 zb.2]
  exact hab
/-- One level, from its head on, or from one of its own without a mark that is less. -/
theorem level_all {T N L : Nat} {dl sq : Int} {ps ss : List Int} (hT : T ≤ 8) (hN : N ≤ 64) (hL : L ≤ 8) {h : Nat} (hh : h < L) {lt : Int → Bool} {cl m : List Int} {pr cu nx : Int} (hm : m.length = wordsN T N L) (hf : BM.Fits m) (hcl : Chain T L N m h cl)
    (hlt : ∀ c : Int, 1 ≤ idx c → idx c ≤ (N : Int) → ltK (keyI T L m c) (dl, sq) = lt c) (hpr : pr = 0 ∨ (pr ∈ cl ∧ freeB T L m h pr = true ∧ lt pr = true)) :
    ∃ k m' cl' cu' nx', k ≤ 192 ∧
      steps (seekA T L) (seekT L dl sq) k m (reach h pr cu nx ps ss (wayI T L m pr h)) = some (m', find h (findL lt (cl.filter (freeB T L m h)) 0).1 cu' nx' ps ss (findL lt (cl.filter (freeB T L m h)) 0).2) ∧
      Cut T N L h m m' ∧ Chain T L N m' h cl' ∧ cl'.filter (freeB T L m' h) = cl.filter (freeB T L m h) ∧ wayI T L m' (findL lt (cl.filter (freeB T L m h)) 0).1 h = (findL lt (cl.filter (freeB T L m h)) 0).2 ∧
      cl'.Sublist cl ∧ ∀ r : Int, 1 ≤ idx r → idx r ≤ (N : Int) → (∀ c ∈ cl, idx c ≠ idx r) → wayI T L m' r h = wayI T L m r h := by
  obtain ⟨he, hp, hr⟩ := hcl
  have hin := path_in _ _ hp
  have hlen := rises_few hr (fun a b e => key_same e) (fun c hc => ⟨(hin c hc).1, (hin c hc).2.1⟩)
  rcases hpr with rfl | ⟨hpm, hpf, hpl⟩
  · obtain ⟨k, m', cs', cu', nx', k1, k2, k3, k4, k5, k6, k7, k8⟩ := level_run hT hN hL hh (lt := lt) (dl := dl) (sq := sq) (ps := ps) (ss := ss) cl m 0 cu nx hm hf (by rw [idx_zero]; omega) hp hr (fun c hc q => by rw [idx_zero] at q; have := (hin c hc).1; omega) (fun c hc => hlt c (hin c hc).1 (hin c hc).2.1)
    exact ⟨k, m', cs', cu', nx', by omega, k2, k3, ⟨by rw [k3.par 0 (by rw [idx_zero]; omega)]; exact he, k4, rises_cut k3 hr k5 fun c hc => ⟨(hin c hc).1, (hin c hc).2.1⟩⟩, k6, k7, k5, fun r a b d => k8 r b (by rw [idx_zero]; omega) d⟩
  · obtain ⟨A, cs, rfl⟩ := List.append_of_mem hpm
    have hpi := hin pr hpm
    have hev : wayI T L m pr h % 2 = 0 := by unfold freeB at hpf; simp at hpf; omega
    have hpl2 : plainI (wayI T L m pr h) = wayI T L m pr h := by unfold plainI; omega
    have hpath := path_split A _ pr cs hp
    rw [hpl2] at hpath
    have hap := rises_apart hr fun a b e => key_same e
    have hr0 := hr
    rw [Rises, List.pairwise_append, List.pairwise_cons] at hr0
    rw [List.pairwise_append, List.pairwise_cons] at hap
    obtain ⟨k, m', cs', cu', nx', k1, k2, k3, k4, k5, k6, k7, k8⟩ := level_run hT hN hL hh (lt := lt) (dl := dl) (sq := sq) (ps := ps) (ss := ss) cs m pr cu nx hm hf hpi.2.1 hpath hr0.2.1.2 (fun c hc q => hap.2.1.1 c hc q.symm) (fun c hc => hlt c (hin c (by simp [hc])).1 (hin c (by simp [hc])).2.1)
    have hfil : (A ++ pr :: cs).filter (freeB T L m h) = A.filter (freeB T L m h) ++ pr :: cs.filter (freeB T L m h) := by rw [List.filter_append, List.filter_cons_of_pos hpf]
    have hfind : findL lt ((A ++ pr :: cs).filter (freeB T L m h)) 0 = findL lt (cs.filter (freeB T L m h)) pr := by
      rw [hfil]
      refine find_past lt _ 0 _ pr (fun a ha => ?_) hpl
      have ha2 := (List.mem_filter.1 ha).1
      have hab := hr0.2.2 a ha2 pr (by simp)
      have h1 := hin a (by simp [ha2])
      rw [← hlt a h1.1 h1.2.1]
      refine ltK_trans _ _ _ hab ?_
      rw [hlt pr hpi.1 hpi.2.1]
      exact hpl
    rw [hfind]
    have hsub : (A ++ pr :: cs').Sublist (A ++ pr :: cs) := (List.Sublist.refl A).append (k5.cons_cons pr)
    have hA : ∀ a ∈ A, wayI T L m' a h = wayI T L m a h := fun a ha => k8 a (hin a (by simp [ha])).2.1 (hap.2.2 a ha pr (by simp)) fun c hc q => hap.2.2 a ha c (by simp [hc]) q.symm
    have hz : wayI T L m' 0 h = wayI T L m 0 h := k8 0 (by rw [idx_zero]; omega) (by rw [idx_zero]; omega) fun c hc q => by rw [idx_zero] at q; have := (hin c (by simp [hc])).1; omega
    have hev' : wayI T L m' pr h % 2 = 0 := by rw [k3.par pr hpi.2.1]; exact hev
    refine ⟨k, m', A ++ pr :: cs', cu', nx', by simp at hlen; omega, k2, k3, ⟨by rw [hz]; exact he, ?_, rises_cut k3 hr hsub fun c hc => ⟨(hin c hc).1, (hin c hc).2.1⟩⟩, ?_, k7, hsub, fun r a b d => k8 r b (fun q => d pr (by simp) q.symm) fun c hc => d c (by simp [hc])⟩
    · rw [hz]
      exact path_pre A _ pr cs cs' hp hA (by rw [show plainI (wayI T L m' pr h) = wayI T L m' pr h by unfold plainI; omega]; exact k4)
    · rw [hfil, List.filter_append, List.filter_cons_of_pos (by unfold freeB; simp [hev']), k6]
      congr 1
      exact List.filter_congr fun a ha => k3.free (hin a (by simp [ha])).2.1

/-- What there is to find for a level. -/
def resL (T L N : Int) (lt : Int → Bool) (l : List Int) (h : Nat) : Int × Int := findL lt (keptL T L N l h) 0
/-- One level has been sought: what its chain is then. -/
def Sought (T N L : Nat) (lt : Int → Bool) (l m : List Int) (g : Nat) : Prop :=
  ∃ cl, Chain T L N m g cl ∧ cl.Sublist (chainI T L N l g).1 ∧ cl.filter (freeB T L m g) = keptL T L N l g ∧ wayI T L m (resL T L N lt l g).1 g = (resL T L N lt l g).2 ∧ (∀ r : Int, idx r ≤ (N : Int) → wayI T L m r g % 2 = wayI T L l r g % 2) ∧
    (∀ r : Int, idx r ≤ (N : Int) → wayI T L l r g % 2 = 1 → wayI T L m r g = wayI T L l r g) ∧ ∀ r : Int, 1 ≤ idx r → idx r ≤ (N : Int) → (∀ c ∈ (chainI T L N l g).1, idx c ≠ idx r) → wayI T L m r g = wayI T L l r g
/-- A memory whose levels below n are those of l. -/
structure Below_ (T N L n : Nat) (l m : List Int) : Prop where
  len : m.length = wordsN T N L
  fit : BM.Fits m
  way : ∀ (r : Int) (g : Nat), idx r ≤ (N : Int) → g < n → wayI T L m r g = wayI T L l r g
  key : ∀ r : Int, 1 ≤ idx r → idx r ≤ (N : Int) → keyI T L m r = keyI T L l r
  oth : ∀ i : Int, (∀ (r : Int) (g : Nat), idx r ≤ (N : Int) → g < L → i ≠ nextI T L (idx r) g) → getI m i = getI l i
theorem chain_cong {T N L h : Nat} {l m cl : List Int} (hw : ∀ r : Int, idx r ≤ (N : Int) → wayI T L m r h = wayI T L l r h) (hk : ∀ r : Int, 1 ≤ idx r → idx r ≤ (N : Int) → keyI T L m r = keyI T L l r) (hc : Chain T L N l h cl) : Chain T L N m h cl := by
  obtain ⟨he, hp, hr⟩ := hc
  have hin := path_in _ _ hp
  have h0 := hw 0 (by rw [idx_zero]; omega)
  refine ⟨by rw [h0]; exact he, ?_, List.Pairwise.imp_of_mem (fun {a b} ha hb hab => ?_) hr⟩
  · rw [h0]
    exact path_cong cl _ hp fun c hc => hw c (hin c hc).2.1
  · rw [hk a (hin a ha).1 (hin a ha).2.1, hk b (hin b hb).1 (hin b hb).2.1]; exact hab
theorem kept_of {T L : Int} {N : Nat} {m cl : List Int} {h : Int} (hN : N ≤ 64) (hc : Chain T L N m h cl) : keptL T L N m h = cl.filter (freeB T L m h) := by unfold keptL; rw [chain_is hN hc]

theorem Sought.finds {T N L g : Nat} {lt : Int → Bool} {l m : List Int} (hN : N ≤ 64) (h : Sought T N L lt l m g) : wayI T L m (resL T L N lt l g).1 g = (resL T L N lt l g).2 ∧ keptL T L N m g = keptL T L N l g := by
  obtain ⟨cl, h1, -, h3, h4, -⟩ := h
  exact ⟨h4, by rw [kept_of hN h1]; exact h3⟩
theorem pair_yes {α : Type} : ∀ {p : α × Bool}, p.2 = true → ∃ a, p = (a, true)
  | (a, _), rfl => ⟨a, rfl⟩
theorem all_run {T N L Q : Nat} {dl sq : Int} (hQ : 193 ≤ Q) (hT : T ≤ 8) (hN : N ≤ 64) (hL : L ≤ 8) {lt : Int → Bool} {l : List Int} (hg : GoodW T L N l) (hlt : ∀ c : Int, 1 ≤ idx c → idx c ≤ (N : Int) → ltK (keyI T L l c) (dl, sq) = lt c) :
    ∀ (n : Nat) (m : List Int) (pr cu nx : Int) (ps ss : List Int), n ≤ L → Below_ T N L n l m → (∀ g : Nat, n = g + 1 → pr = 0 ∨ (pr ∈ (chainI T L N l g).1 ∧ freeB T L l g pr = true ∧ lt pr = true)) →
    ∃ k m' lv' pr' cu' nx', k ≤ n * Q ∧ steps (seekA T L) (seekT L dl sq) k m (desc n pr cu nx ps ss) = some (m', ⟨0, lv', pr', cu', nx', ps ++ (List.range n).reverse.map fun h => (resL T L N lt l h).1, ss ++ (List.range n).reverse.map fun h => (resL T L N lt l h).2⟩) ∧
      m'.length = wordsN T N L ∧ BM.Fits m' ∧ (∀ g, g < n → Sought T N L lt l m' g) ∧
      (∀ (r : Int) (g : Nat), idx r ≤ (N : Int) → n ≤ g → g < L → wayI T L m' r g = wayI T L m r g) ∧ (∀ r : Int, 1 ≤ idx r → idx r ≤ (N : Int) → keyI T L m' r = keyI T L l r) ∧
      ∀ i : Int, (∀ (r : Int) (g : Nat), idx r ≤ (N : Int) → g < L → i ≠ nextI T L (idx r) g) → getI m' i = getI l i := by
  intro n
  induction n with
  | zero =>
    intro m pr cu nx ps ss _ hb _
    refine ⟨0, m, 0, pr, cu, nx, Nat.zero_le _, ?_, hb.len, hb.fit, fun g h => by omega, fun r g _ _ _ => rfl, hb.key, hb.oth⟩
    show some (m, desc 0 pr cu nx ps ss) = _
    rw [desc_end (Int.le_refl _)]
    simp
  | succ h ih =>
    intro m pr cu nx ps ss hn hb hpr
    have hh : h < L := by omega
    obtain ⟨hok, hsub⟩ := hg h (by omega)
    obtain ⟨cl, hcl⟩ : ∃ cl, chainI T L N l h = (cl, true) := pair_yes hok
    have hc := chain_of hcl
    have hcm := chain_cong (m := m) (fun r a => hb.way r h a (by omega)) hb.key hc
    have hin := path_in _ _ hc.2.1
    have hpr := hpr h rfl
    rw [hcl] at hpr
    have hfr : ∀ c : Int, idx c ≤ (N : Int) → freeB T L m h c = freeB T L l h c := fun c a => by unfold freeB; rw [hb.way c h a (by omega)]
    have hpi : idx pr ≤ (N : Int) := by
      rcases hpr with rfl | ⟨q, -⟩
      · rw [idx_zero]; omega
      · exact (hin pr q).2.1
    have hev : ¬ wayI T L m pr h % 2 = 1 := by
      rcases hpr with rfl | ⟨q1, q2, -⟩
      · have := hcm.1; omega
      · rw [← hfr pr hpi] at q2; unfold freeB at q2; simpa using q2
    have hfilm : cl.filter (freeB T L m h) = keptL T L N l h := by
      rw [kept_of hN hc]
      exact List.filter_congr fun c a => hfr c (hin c a).2.1
    obtain ⟨k, m1, cl', cu', nx', k1, k2, k3, k4, k5, k6, k7, k8⟩ := level_all hT hN hL hh (ps := ps) (ss := ss) (cu := cu) (nx := nx) (dl := dl) (sq := sq) (lt := lt) hb.len hb.fit hcm (fun c a b => by rw [hb.key c a b]; exact hlt c a b)
      (hpr.imp id fun q => ⟨q.1, by rw [hfr pr hpi]; exact q.2.1, q.2.2⟩)
    rw [hfilm] at k2 k5 k6
    change _ = some (m1, find h (resL T L N lt l h).1 cu' nx' ps ss (resL T L N lt l h).2) at k2
    change wayI T L m1 (resL T L N lt l h).1 h = (resL T L N lt l h).2 at k6
    have hb1 : Below_ T N L h l m1 := ⟨k3.len.trans hb.len, k3.fit hb.fit, fun r g a b => by rw [k3.off r g a (by omega) (by omega)]; exact hb.way r g a (by omega), fun r a b => by rw [k3.key r a b]; exact hb.key r a b, fun i hi => (k3.oth i hi).trans (hb.oth i hi)⟩
    obtain ⟨k', m', lv', pr', cu2, nx2, j1, j2, j3, j4, j5, j6, j7, j8⟩ := ih m1 (resL T L N lt l h).1 cu' nx' (ps ++ [(resL T L N lt l h).1]) (ss ++ [(resL T L N lt l h).2]) (by omega) hb1 (fun g e => by
      rcases find_where lt (keptL T L N l h) 0 with q | ⟨q1, q2⟩
      · exact .inl q
      · have q3 := List.mem_filter.1 q1
        obtain ⟨z1, z2⟩ := hsub g e _ q3.1 q3.2
        exact .inr ⟨z1, z2, q2⟩)
    have hidx : idx (resL T L N lt l h).1 ≤ (N : Int) := by
      rcases find_where lt (keptL T L N l h) 0 with q | ⟨q1, q2⟩
      · show idx (findL lt (keptL T L N l h) 0).1 ≤ _
        rw [q, idx_zero]; omega
      · have q3 := (List.mem_filter.1 q1).1
        rw [hcl] at q3
        exact (hin _ q3).2.1
    refine ⟨1 + (k + k'), m', lv', pr', cu2, nx2, by rw [Nat.succ_mul]; omega, ?_, j3, j4, fun g hg1 => ?_, fun r g a b c => ?_, j7, j8⟩
    · refine steps_then 1 (k + k') _ m _ (reach h pr cu nx ps ss (wayI T L m pr h)) _ ?_ (steps_then k k' _ m1 _ _ _ k2 ?_)
      · rw [desc_on (by omega), show ((h + 1 : Nat) : Int) - 1 = (h : Int) by omega, steps_more (k := 0) seekA_1, nextD_1, foundD_yes (by simp)]
        show some (m, seekT L dl sq ⟨1, h, pr, cu, nx, ps, ss⟩ (wayI T L m pr h)) = _
        rw [seekT_1 hev]
      · show steps _ _ k' m1 (desc h (resL T L N lt l h).1 cu' nx' (ps ++ [(resL T L N lt l h).1]) (ss ++ [(resL T L N lt l h).2])) = _
        rw [j2, List.range_succ]
        simp
    · by_cases hgh : g = h
      · subst hgh
        have hsame : ∀ r : Int, idx r ≤ (N : Int) → wayI T L m' r g = wayI T L m1 r g := fun r a => j6 r g a (Nat.le_refl _) hh
        have hc' := chain_cong (m := m') hsame (fun r a b => by rw [j7 r a b, hb1.key r a b]) k4
        have hfm : cl'.filter (freeB T L m' g) = keptL T L N l g := by
          rw [← k5]
          exact List.filter_congr fun c a => by
            unfold freeB
            rw [hsame c (path_in _ _ k4.2.1 c a).2.1]
        have hml : ∀ r : Int, idx r ≤ (N : Int) → wayI T L m r g = wayI T L l r g := fun r a => hb.way r g a (by omega)
        rw [Sought, hcl]
        exact ⟨cl', hc', k7, hfm, by rw [hsame _ hidx]; exact k6, fun r a => by rw [hsame r a, k3.par r a, hml r a], fun r a b => by rw [hsame r a, k3.odd r a (by rw [hml r a]; exact b), hml r a], fun r a b d => by rw [hsame r b, k8 r a b d, hml r b]⟩
      · exact j5 g (by omega)
    · rw [j6 r g a (by omega) c]
      exact k3.off r g a c (by omega)
theorem seek_fits {k : Nat} {T L : Int} {s : St} (h : Ok k s) {d : D} (hd : seekA T L s = some d) : DM.Fits d := by
  obtain ⟨-, -, h3, h4, h5, -, -⟩ := h
  have q1 := MM.next_fits T L (idx s.pr) s.lv
  have q2 := MM.next_fits T L (idx s.cu) s.lv
  have q3 := MM.at_fits T L (idx s.cu) 1
  have q4 := MM.at_fits T L (idx s.cu) 2
  unfold seekA at hd
  unfold DM.Fits
  split at hd
  · cases hd; simp only; omega
  · split at hd
    · cases hd; simp only; omega
    · split at hd
      · cases hd; simp only; omega
      · split at hd
        · cases hd; simp only; omega
        · split at hd
          · cases hd; simp only; omega
          · cases hd
end Go.Proofs.YtlagghghbpbcbaaGreatDoor.KM

/- A timer that is brought into a chain, in plain lists: behind the last one that is less, ahead of the first one that is not. No program is named. -/
namespace Go.Proofs.YtlagghghbpbcbaaGreatDoor.KM
set_option maxRecDepth 20000
open DM PM CM BM OM Runs
open Go.RowKit (wrap64)
set_option linter.unusedVariables false
set_option linter.unusedSimpArgs false

def lastD (A : List Int) (p : Int) : Int := A.getLast?.getD p
def headD (B : List Int) : Int := B.head?.getD 0
theorem last_snoc (A : List Int) (p q : Int) : lastD (A ++ [p]) q = p := by simp [lastD]
theorem last_cases (A : List Int) : A = [] ∨ ∃ A' p, A = A' ++ [p] := by
  rcases List.eq_nil_or_concat A with h | ⟨A', p, h⟩
  · exact .inl h
  · exact .inr ⟨A', p, by rw [h, List.concat_eq_append]⟩
theorem find_next (lt : Int → Bool) : ∀ (l : List Int) (p : Int), (findL lt l p).2 = 0 ∨ ((findL lt l p).2 ∈ l ∧ lt (findL lt l p).2 = false)
  | [], _ => .inl rfl
  | c :: cs, p => by
    by_cases h : lt c = true
    · have e : findL lt (c :: cs) p = findL lt cs c := if_pos h
      rw [e]
      exact (find_next lt cs c).imp id fun q => ⟨by simp [q.1], q.2⟩
    · have e : findL lt (c :: cs) p = (p, c) := if_neg h
      rw [e]
      exact .inr ⟨by simp, by simpa using h⟩
theorem path_head {nx : Int → Int} {N : Int} : ∀ {cs : List Int} {r : Int}, Path nx N r cs → r = headD cs
  | [], _, h => h
  | _ :: _, _, h => h.1
theorem head_even {nx : Int → Int} {N : Int} {cs : List Int} {r : Int} (h : Path nx N r cs) : r % 2 = 0 := by
  cases cs with
  | nil => rw [show r = 0 from h]; rfl
  | cons c cs => rw [h.1]; exact h.2.1
/-- What is behind the first one that is not less is not less. -/
theorem behind_not {T N L : Nat} {m : List Int} {h : Int} {B : List Int} {sc : Int} {lt : Int → Bool} {K : Key} (hp : Path (fun r => wayI T L m r h) N sc B) (hr : Rises (keyI T L m) B) (hlt : ∀ b ∈ B, ltK (keyI T L m b) K = lt b) (hs : sc = 0 ∨ lt sc = false) : ∀ b ∈ B, lt b = false := by
  cases B with
  | nil => intro b hb; cases hb
  | cons c cs =>
    obtain ⟨rfl, h1, h2, -, -⟩ := hp
    have hc : lt sc = false := hs.elim (fun e => by rw [e, idx_zero] at h2; omega) id
    intro b hb
    rcases List.mem_cons.1 hb with rfl | hb
    · exact hc
    · cases e : lt b with
      | false => rfl
      | true =>
        have h3 := ltK_trans _ _ _ ((List.pairwise_cons.1 hr).1 b hb) (by rw [hlt b (by simp [hb])]; exact e)
        rw [hlt sc (by simp)] at h3
        rw [h3] at hc
        cases hc
/-- A level that was sought: the last one that is less, and the first one that is not, stand side by side. -/
theorem Sought.split {T N L g : Nat} {lt : Int → Bool} {l m : List Int} {K : Key} (h : Sought T N L lt l m g) (hlt : ∀ c : Int, 1 ≤ idx c → idx c ≤ (N : Int) → ltK (keyI T L m c) K = lt c) :
    ∃ A B, Chain T L N m g (A ++ B) ∧ (A ++ B).Sublist (chainI T L N l g).1 ∧ (A ++ B).filter (freeB T L m g) = keptL T L N l g ∧ (∀ a ∈ A, lt a = true) ∧ (∀ b ∈ B, lt b = false) ∧ lastD A 0 = (resL T L N lt l g).1 ∧ headD B = (resL T L N lt l g).2 ∧ wayI T L m (lastD A 0) g = headD B := by
  obtain ⟨cl, h1, h2, h3, h4, -⟩ := h
  have hin := path_in _ _ h1.2.1
  have hw := find_where lt (keptL T L N l g) 0
  have hn := find_next lt (keptL T L N l g) 0
  change (resL T L N lt l g).1 = 0 ∨ ((resL T L N lt l g).1 ∈ _ ∧ lt (resL T L N lt l g).1 = true) at hw
  change (resL T L N lt l g).2 = 0 ∨ ((resL T L N lt l g).2 ∈ _ ∧ lt (resL T L N lt l g).2 = false) at hn
  generalize (resL T L N lt l g).1 = p at h4 hw ⊢
  generalize (resL T L N lt l g).2 = s at h4 hn ⊢
  have hs := hn.imp id And.right
  rcases hw with rfl | ⟨hp, hpl⟩
  · have hq := h1.2.1
    rw [h4] at hq
    have hB := behind_not (lt := lt) (K := K) hq h1.2.2 (fun b hb => hlt b (hin b hb).1 (hin b hb).2.1) hs
    exact ⟨[], cl, h1, h2, h3, fun a ha => (by cases ha), hB, rfl, (path_head hq).symm, by rw [← path_head hq]; exact h4⟩
  · rw [← h3] at hp
    obtain ⟨hpc, hpf⟩ := List.mem_filter.1 hp
    obtain ⟨A, B, rfl⟩ := List.append_of_mem hpc
    have hpath := path_split A _ p B h1.2.1
    have hev : plainI (wayI T L m p g) = s := by
      unfold freeB at hpf
      simp at hpf
      rw [← h4]
      unfold plainI
      omega
    rw [hev] at hpath
    have hr := h1.2.2
    rw [Rises, List.pairwise_append, List.pairwise_cons] at hr
    have hB := behind_not (lt := lt) (K := K) hpath hr.2.1.2 (fun b hb => hlt b (hin b (by simp [hb])).1 (hin b (by simp [hb])).2.1) hs
    have e : (A ++ [p]) ++ B = A ++ p :: B := by simp
    refine ⟨A ++ [p], B, e ▸ h1, e ▸ h2, by rw [e]; exact h3, fun a ha => ?_, hB, last_snoc A p 0, (path_head hpath).symm, by rw [last_snoc, ← path_head hpath]; exact h4⟩
    rw [List.mem_append, List.mem_singleton] at ha
    rcases ha with ha | rfl
    · have h5 := hin a (by simp [ha])
      rw [← hlt a h5.1 h5.2.1]
      refine ltK_trans _ _ _ (hr.2.2 a ha p (by simp)) ?_
      rw [hlt p (hin p (by simp)).1 (hin p (by simp)).2.1]
      exact hpl
    · exact hpl
/-- It hangs there. -/
theorem hang {T N L h : Nat} (hT : T ≤ 8) (hN : N ≤ 64) (hL : L ≤ 8) (hh : h < L) {m A B : List Int} {r : Int} (hm : m.length = wordsN T N L) (hc : Chain T L N m h (A ++ B)) (h1 : 1 ≤ idx r) (h2 : idx r ≤ (N : Int)) (he : r % 2 = 0) (hap : ∀ c ∈ A ++ B, idx c ≠ idx r)
    (hw : wayI T L m r h = headD B) (hp : wayI T L m (lastD A 0) h = headD B) (hA : ∀ a ∈ A, ltK (keyI T L m a) (keyI T L m r) = true) (hB : ∀ b ∈ B, ltK (keyI T L m r) (keyI T L m b) = true) :
    Chain T L N (setI m (nextI T L (idx (lastD A 0)) h) r) h (A ++ r :: B) ∧ (A ++ r :: B).filter (freeB T L (setI m (nextI T L (idx (lastD A 0)) h) r) h) = A.filter (freeB T L m h) ++ r :: B.filter (freeB T L m h) := by
  have hin := path_in _ _ hc.2.1
  have hli : idx (lastD A 0) ≤ (N : Int) ∧ idx r ≠ idx (lastD A 0) ∧ ∀ b ∈ B, idx b ≠ idx (lastD A 0) := by
    rcases last_cases A with rfl | ⟨A', p, rfl⟩
    · have e : lastD [] 0 = 0 := rfl
      rw [e, idx_zero]
      exact ⟨by omega, by omega, fun b hb => by have := (hin b (by simpa using hb)).1; omega⟩
    · rw [last_snoc]
      refine ⟨(hin p (by simp)).2.1, fun e => hap p (by simp) e.symm, fun b hb e => ?_⟩
      have := rises_apart hc.2.2 fun a b e => key_same e
      rw [List.pairwise_append] at this
      exact this.2.2 p (by simp) b hb e.symm
  have hset := fun {x : Int} {g : Nat} (a : idx x ≤ (N : Int)) (b : g < L) => set_way (v := r) hT hN hL hm hli.1 a hh b
  have hkey := fun {x : Int} (a : 1 ≤ idx x) (b : idx x ≤ (N : Int)) => set_key (m := m) (v := r) hT hN hL hli.1 a b hh
  obtain ⟨m', hm'⟩ : ∃ m', m' = setI m (nextI T L (idx (lastD A 0)) h) r := ⟨_, rfl⟩
  rw [← hm'] at hset hkey ⊢
  clear hm'
  have hsame : ∀ x : Int, idx x ≤ (N : Int) → idx x ≠ idx (lastD A 0) → wayI T L m' x h = wayI T L m x h := fun x a b => by rw [hset a hh, if_neg fun q => b q.1]
  have hlast : wayI T L m' (lastD A 0) h = r := by rw [hset hli.1 hh, if_pos ⟨rfl, rfl⟩]
  have hwr : wayI T L m' r h = headD B := by rw [hsame r h2 hli.2.1]; exact hw
  have hpB : Path (fun x => wayI T L m x h) N (headD B) B := by
    rcases last_cases A with rfl | ⟨A', p, rfl⟩
    · have := hc.2.1
      rwa [path_head this] at this
    · have e : (A' ++ [p]) ++ B = A' ++ p :: B := by simp
      have := path_split A' _ p B (e ▸ hc.2.1)
      rwa [path_head this] at this
  have hev := head_even hpB
  have hpB' : Path (fun x => wayI T L m' x h) N (headD B) B := path_cong B _ hpB fun b hb => hsame b (hin b (by simp [hb])).2.1 (hli.2.2 b hb)
  have hpr : Path (fun x => wayI T L m' x h) N r (r :: B) := ⟨rfl, he, h1, h2, by
    show Path _ _ (plainI (wayI T L m' r h)) B
    rw [hwr, show plainI (headD B) = headD B by unfold plainI; omega]
    exact hpB'⟩
  have hfree : ∀ x : Int, idx x ≤ (N : Int) → freeB T L m' h x = freeB T L m h x := fun x a => by
    unfold freeB
    by_cases e : idx x = idx (lastD A 0)
    · rw [way_same (m := m') e, way_same (m := m) e, hlast, hp, he, hev]
    · rw [hsame x a e]
  refine ⟨⟨?_, ?_, ?_⟩, ?_⟩
  · have h0 := hc.1
    by_cases e : idx 0 = idx (lastD A 0)
    · rw [way_same (m := m') e, hlast]; exact he
    · rw [hsame 0 (by rw [idx_zero]; omega) e]; exact h0
  · rcases last_cases A with rfl | ⟨A', p, rfl⟩
    · show Path _ _ (wayI T L m' 0 h) (r :: B)
      rw [show wayI T L m' 0 h = r from hlast]
      exact hpr
    · have e : (A' ++ [p]) ++ r :: B = A' ++ p :: (r :: B) := by simp
      have e2 : (A' ++ [p]) ++ B = A' ++ p :: B := by simp
      rw [last_snoc] at hlast hsame hli
      have hap2 := rises_apart hc.2.2 fun a b e => key_same e
      rw [e2, List.pairwise_append] at hap2
      have h0 : wayI T L m' 0 h = wayI T L m 0 h := hsame 0 (by rw [idx_zero]; omega) (by rw [idx_zero]; have := (hin p (by simp)).1; omega)
      rw [e, h0]
      have hc2 := hc.2.1
      rw [e2] at hc2
      refine path_pre A' _ p B (r :: B) hc2 (fun a ha => hsame a (hin a (by simp [ha])).2.1 (hap2.2.2 a ha p (by simp))) ?_
      show Path _ _ (plainI (wayI T L m' p h)) (r :: B)
      rw [hlast, show plainI r = r by unfold plainI; omega]
      exact hpr
  · have hr := hc.2.2
    rw [Rises, List.pairwise_append] at hr ⊢
    have hkA := fun a (ha : a ∈ A) => hkey (hin a (by simp [ha])).1 (hin a (by simp [ha])).2.1
    have hkB := fun b (hb : b ∈ B) => hkey (hin b (by simp [hb])).1 (hin b (by simp [hb])).2.1
    have hkr := hkey h1 h2
    refine ⟨List.Pairwise.imp_of_mem (fun {a b} ha hb hab => by rw [hkA a ha, hkA b hb]; exact hab) hr.1, List.pairwise_cons.2 ⟨fun b hb => by rw [hkr, hkB b hb]; exact hB b hb, List.Pairwise.imp_of_mem (fun {a b} ha hb hab => by rw [hkB a ha, hkB b hb]; exact hab) hr.2.1⟩, fun a ha b hb => ?_⟩
    rcases List.mem_cons.1 hb with rfl | hb
    · rw [hkA a ha, hkr]; exact hA a ha
    · rw [hkA a ha, hkB b hb]; exact hr.2.2 a ha b hb
  · rw [List.filter_append, List.filter_cons_of_pos (by unfold freeB; rw [hwr, hev]; rfl)]
    congr 1
    · exact List.filter_congr fun a ha => hfree a (hin a (by simp [ha])).2.1
    · congr 1
      exact List.filter_congr fun b hb => hfree b (hin b (by simp [hb])).2.1
end Go.Proofs.YtlagghghbpbcbaaGreatDoor.KM

/- The free slots as a stack, in plain lists: taken off, put back, told by Free. No program is named. -/
namespace Go.Proofs.YtlagghghbpbcbaaGreatDoor.PoM
open DM PM CM BM Runs

theorem swap_is {l : List Int} (i b : Int) : swapI l i (getI l i) b = setI l i b := if_pos rfl

/-- The words behind a slot's taking. -/
def popL (T L : Int) (l : List Int) : List Int := setI l 3 (turnI (getI l 3) (getI l (atI T L (getI l 3 % 4294967296) 5)))
/-- The words behind a giving back. -/
def pushL (T L i : Int) (l : List Int) : List Int := setI (setI l (atI T L i 5) (getI l 3 % 4294967296)) 3 (turnI (getI l 3) i)
/-! The stack. -/
/-- From b on the words lead through just these. -/
def Chain (nx : Int → Int) : Int → List Int → Prop
  | b, [] => b = 0
  | b, x :: r => b = x ∧ Chain nx (nx x) r
/-- The words lead from the head through just these slots. -/
def Stack (T L : Int) (l : List Int) (r : List Int) : Prop := Chain (fun i => getI l (atI T L i 5)) (getI l 3 % 4294967296) r
/-! Deeds whose numbers are such as there can be. -/
theorem fits_next {l : List Int} {d : D} (h : BM.Fits l) (hd : DM.Fits d) : BM.Fits (nextD l d) := by
  obtain ⟨kd, i, a, b, y⟩ := d
  obtain ⟨h1, h2, h3, h4⟩ := hd
  simp only at h2 h3
  by_cases e1 : kd = 1
  · subst e1; rw [nextD_1]; exact h
  by_cases e2 : kd = 2
  · subst e2; rw [nextD_2]; exact fits_set h _ h2
  by_cases e3 : kd = 3
  · subst e3; rw [nextD_3]; unfold swapI; split
    · exact fits_set h _ h3
    · exact h
  by_cases e4 : kd = 4
  · subst e4; rw [nextD_4]; unfold addI; exact fits_set h _ (by omega)
  rw [nextD_no (by simp only; omega)]
  exact h
theorem fits_found {l : List Int} (h : BM.Fits l) (d : D) : 0 ≤ foundD l d ∧ foundD l d < 18446744073709551616 := by
  unfold foundD
  split
  · exact fits_get h _
  · omega
theorem at_fits (T L s k : Int) : -9223372036854775808 ≤ atI T L s k ∧ atI T L s k ≤ 9223372036854775807 := by unfold atI; generalize 4 + 3 * T + L + (s - 1) * (6 + L) + k = z; unfold Go.RowKit.wrap64; omega
/-- The free ones, the last one first, as far as they are listed. -/
def downL (S k : Nat) : List Int := ((firstL S).drop k).reverse
end Go.Proofs.YtlagghghbpbcbaaGreatDoor.PoM
