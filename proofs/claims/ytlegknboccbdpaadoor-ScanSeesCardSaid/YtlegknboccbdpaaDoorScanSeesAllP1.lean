import Derived.Lib.Hide
import Derived.Lib.ItoaNum
import Derived.Lib.ItoaLen
import Derived.Lib.Join
import Derived.IntWalk
/- A list of words as a memory, in plain arithmetic: what is found at a place, what stands there behind each access. No program is named. -/
namespace Go.Proofs.YtlegknboccbdpaaDoor.CM

/-- Is there a word at that place? -/
def there (l : List Int) (i : Int) : Prop := 0 ≤ i ∧ i < l.length
instance (l : List Int) (i : Int) : Decidable (there l i) := inferInstanceAs (Decidable (_ ∧ _))
theorem there_nat {l : List Int} {i : Int} (h : there l i) : ∃ j : Nat, i = (j : Int) ∧ j < l.length := by
  obtain ⟨h0, h1⟩ := h
  exact ⟨i.toNat, by omega, by omega⟩

def getI (l : List Int) (i : Int) : Int := if there l i then l.getD i.toNat 0 else 0
def setI (l : List Int) (i v : Int) : List Int := if there l i then l.set i.toNat v else l
def swapI (l : List Int) (i a b : Int) : List Int := if getI l i = a then setI l i b else l
def addI (l : List Int) (i a : Int) : List Int := setI l i ((getI l i + a) % 18446744073709551616)

theorem getI_some {l : List Int} {j : Nat} {x : Int} (h : l[j]? = some x) : getI l (j : Int) = x := by
  have hj := (List.getElem?_eq_some_iff.1 h).1
  unfold getI
  rw [if_pos (show there l (j : Int) from ⟨by omega, by omega⟩)]
  simp [List.getD, h]
theorem getI_out {l : List Int} {i : Int} (h : ¬ there l i) : getI l i = 0 := if_neg h
theorem setI_in {l : List Int} {j : Nat} (h : j < l.length) (v : Int) : setI l (j : Int) v = l.set j v := by
  unfold setI
  rw [if_pos (show there l (j : Int) from ⟨by omega, by omega⟩)]
  simp
theorem setI_out {l : List Int} {i : Int} (h : ¬ there l i) (v : Int) : setI l i v = l := if_neg h
theorem setI_length (l : List Int) (i v : Int) : (setI l i v).length = l.length := by
  unfold setI
  split <;> simp
theorem swapI_length (l : List Int) (i a b : Int) : (swapI l i a b).length = l.length := by
  unfold swapI
  split
  · exact setI_length _ _ _
  · rfl
theorem addI_length (l : List Int) (i a : Int) : (addI l i a).length = l.length := setI_length _ _ _

/-- What stands behind an access (2 a store, 3 a swap, 4 an addition, else a load). -/
def nextI (l : List Int) (x : Int × Int × Int × Int) : List Int :=
  if x.1 = 2 then setI l x.2.1 x.2.2.1 else if x.1 = 3 then swapI l x.2.1 x.2.2.1 x.2.2.2 else if x.1 = 4 then addI l x.2.1 x.2.2.1 else l
theorem nextI_length (l : List Int) (x : Int × Int × Int × Int) : (nextI l x).length = l.length := by
  unfold nextI
  split
  · exact setI_length _ _ _
  · split
    · exact swapI_length _ _ _ _
    · split
      · exact addI_length _ _ _
      · rfl
theorem nextI_out {l : List Int} {x : Int × Int × Int × Int} (h : ¬ there l x.2.1) : nextI l x = l := by
  unfold nextI swapI addI
  simp [setI_out h]

theorem get_set {l : List Int} {i : Int} (h : there l i) (v : Int) : getI (setI l i v) i = v := by
  obtain ⟨j, rfl, hj⟩ := there_nat h
  rw [setI_in hj]
  exact getI_some (by simp [hj])
theorem set_set {l : List Int} (i u v : Int) : setI (setI l i u) i v = setI l i v := by
  by_cases h : there l i
  · obtain ⟨j, rfl, hj⟩ := there_nat h
    rw [setI_in hj, setI_in hj, setI_in (by simpa using hj)]
    simp
  · rw [setI_out h u]
theorem set_get (l : List Int) (i : Int) : setI l i (getI l i) = l := by
  by_cases h : there l i
  · obtain ⟨j, rfl, hj⟩ := there_nat h
    rw [setI_in hj, getI_some (List.getElem?_eq_getElem hj)]
    simp
  · exact setI_out h _
theorem there_set {l : List Int} {i v : Int} (h : there l i) : there (setI l i v) i := by
  unfold there
  rw [setI_length]
  exact h
end Go.Proofs.YtlegknboccbdpaaDoor.CM

/- States of slots in plain arithmetic: the word of a generation and a status, the next one, its text. Nothing of the program is named here. -/
namespace SM
/-- The word of which the halves are the lowest 32 bits of both. -/
def stI (g s : Int) : Int := g % 4294967296 * 4294967296 + s % 4294967296
def isI (v g s : Int) : Bool := decide (g ≤ 4294967295 ∧ 0 ≤ s ∧ s ≤ 4 ∧ v = stI g s)
def nextI (v : Int) : Int := if v / 4294967296 = 4294967295 then stI 4294967295 4 else stI (v / 4294967296 + 1) 0
theorem stI_lo (g s : Int) : 0 ≤ stI g s := by unfold stI; omega
theorem stI_hi (g s : Int) : stI g s < 18446744073709551616 := by unfold stI; omega
theorem nextI_lo (v : Int) : 0 ≤ nextI v := by unfold nextI; split <;> exact stI_lo _ _
theorem nextI_hi (v : Int) : nextI v < 18446744073709551616 := by unfold nextI; split <;> exact stI_hi _ _
theorem stI_gen {g s : Int} (h0 : 0 ≤ g) (h1 : g ≤ 4294967295) : stI g s / 4294967296 = g := by unfold stI; omega
theorem stI_status {g s : Int} (h0 : 0 ≤ s) (h1 : s ≤ 4294967295) : stI g s % 4294967296 = s := by unfold stI; omega
theorem is_parts {v g s : Int} (h0 : 0 ≤ v) (h1 : v < 18446744073709551616) (g0 : 0 ≤ g) (hg : g ≤ 4294967295) (s0 : 0 ≤ s) (s1 : s ≤ 4) : (v = stI g s) ↔ (v / 4294967296 = g ∧ v % 4294967296 = s) := by
  unfold stI; omega

/-- A number's digits. -/
def decI (u : Int) : List UInt8 := Go.Lib.decDigits u.toNat
theorem decI_nat (u : Nat) : decI u = Go.Lib.decDigits u := rfl
/-- What a status is called. -/
def calledI (s : Int) : List UInt8 := if s = 0 then [102, 114, 101, 101] else if s = 1 then [109, 97, 107, 105, 110, 103] else if s = 2 then [108, 105, 118, 101] else if s = 3 then [116, 97, 107, 101, 110] else if s = 4 then [103, 111, 110, 101] else decI s
def wordsL : List (List UInt8) := [[102, 114, 101, 101], [109, 97, 107, 105, 110, 103], [108, 105, 118, 101], [116, 97, 107, 101, 110], [103, 111, 110, 101]]
def textI (v : Int) : List UInt8 := decI (v / 4294967296) ++ [32] ++ calledI (v % 4294967296)
theorem called_digits {s : Int} (h : 4 < s) : calledI s = decI s := by
  unfold calledI
  rw [if_neg (by omega), if_neg (by omega), if_neg (by omega), if_neg (by omega), if_neg (by omega)]
theorem words_at (s : Nat) (h : s < 5) : wordsL[s]? = some (calledI s) := by
  match s, h with
  | 0, _ => rfl
  | 1, _ => rfl
  | 2, _ => rfl
  | 3, _ => rfl
  | 4, _ => rfl
end SM
namespace SM
theorem is_st {g s og os : Int} (g0 : 0 ≤ g) (g1 : g ≤ 4294967295) (s0 : 0 ≤ s) (s1 : s ≤ 4) (h0 : 0 ≤ og) : isI (stI g s) og os = decide (g = og ∧ s = os) := by
  unfold isI
  by_cases h : og ≤ 4294967295 ∧ 0 ≤ os ∧ os ≤ 4
  · obtain ⟨h1, h2, h3⟩ := h
    have : (stI g s = stI og os) ↔ (g = og ∧ s = os) := by unfold stI; omega
    rw [Bool.eq_iff_iff]
    simp only [decide_eq_true_eq, this]
    omega
  · rw [Bool.eq_iff_iff]
    simp only [decide_eq_true_eq]
    omega
theorem is_out {v g s : Int} (h : ¬ (g ≤ 4294967295 ∧ 0 ≤ s ∧ s ≤ 4)) : isI v g s = false := by
  unfold isI
  rw [decide_eq_false]
  exact fun x => h ⟨x.1, x.2.1, x.2.2.1⟩
theorem next_last {v : Int} (h : v / 4294967296 = 4294967295) : nextI v = stI 4294967295 4 := if_pos h
theorem next_gen {v : Int} (h0 : 0 ≤ v) (h1 : v < 18446744073709551616) (h : v / 4294967296 ≠ 4294967295) : nextI v / 4294967296 = v / 4294967296 + 1 := by
  rw [nextI, if_neg h]; unfold stI; omega
theorem next_status {v : Int} (h : v / 4294967296 ≠ 4294967295) : nextI v % 4294967296 = 0 := by
  rw [nextI, if_neg h]; unfold stI; omega
end SM

/- Deeds in plain arithmetic: what a word becomes by one, what one finds in a list of words, what stands there behind it, its text. No program is named. -/
namespace Go.Proofs.YtlegknboccbdpaaDoor.DM
open CM
open SM (decI)

/-- A deed: its kind, place, two numbers, and by which reference. -/
abbrev D := Int × Int × Int × Int × Int

def afterI (w : Int) (x : D) : Int :=
  if x.1 = 2 then x.2.2.1 else if x.1 = 3 then (if w = x.2.2.1 then x.2.2.2.1 else w) else if x.1 = 4 then (w + x.2.2.1) % 18446744073709551616 else w
def foundD (l : List Int) (x : D) : Int := if 1 ≤ x.1 ∧ x.1 ≤ 4 then getI l x.2.1 else 0
def nextD (l : List Int) (x : D) : List Int := nextI l (x.1, x.2.1, x.2.2.1, x.2.2.2.1)
theorem nextD_length (l : List Int) (x : D) : (nextD l x).length = l.length := nextI_length _ _

theorem nextD_1 (l : List Int) (i a b y : Int) : nextD l (1, i, a, b, y) = l := by unfold nextD nextI; simp
theorem nextD_2 (l : List Int) (i a b y : Int) : nextD l (2, i, a, b, y) = setI l i a := by unfold nextD nextI; simp
theorem nextD_3 (l : List Int) (i a b y : Int) : nextD l (3, i, a, b, y) = swapI l i a b := by unfold nextD nextI; simp
theorem nextD_4 (l : List Int) (i a b y : Int) : nextD l (4, i, a, b, y) = addI l i a := by unfold nextD nextI; simp
theorem nextD_no {l : List Int} {x : D} (h : ¬ (1 ≤ x.1 ∧ x.1 ≤ 4)) : nextD l x = l := by
  unfold nextD nextI
  rw [if_neg (show ¬ x.1 = 2 by omega), if_neg (show ¬ x.1 = 3 by omega), if_neg (show ¬ x.1 = 4 by omega)]
theorem foundD_no {l : List Int} {x : D} (h : ¬ (1 ≤ x.1 ∧ x.1 ≤ 4)) : foundD l x = 0 := if_neg h
theorem foundD_yes {l : List Int} {x : D} (h : 1 ≤ x.1 ∧ x.1 ≤ 4) : foundD l x = getI l x.2.1 := if_pos h
theorem afterI_1 (w i a b y : Int) : afterI w (1, i, a, b, y) = w := by unfold afterI; simp
theorem afterI_2 (w i a b y : Int) : afterI w (2, i, a, b, y) = a := by unfold afterI; simp
theorem afterI_3 (w i a b y : Int) : afterI w (3, i, a, b, y) = if w = a then b else w := by unfold afterI; simp
theorem afterI_4 (w i a b y : Int) : afterI w (4, i, a, b, y) = (w + a) % 18446744073709551616 := by unfold afterI; simp
theorem afterI_no {w : Int} {x : D} (h : ¬ (1 ≤ x.1 ∧ x.1 ≤ 4)) : afterI w x = w := by
  unfold afterI
  rw [if_neg (show ¬ x.1 = 2 by omega), if_neg (show ¬ x.1 = 3 by omega), if_neg (show ¬ x.1 = 4 by omega)]

/-- What stands at a place behind a deed. -/
theorem nextD_at {l : List Int} {x : D} (h : 1 ≤ x.1 ∧ x.1 ≤ 4) {j : Nat} {v : Int} (hj : l[j]? = some v) : (nextD l x)[j]? = some (if (j : Int) = x.2.1 then afterI v x else v) := by
  obtain ⟨k, i, a, b, y⟩ := x
  have hjl := (List.getElem?_eq_some_iff.1 hj).1
  simp only at h ⊢
  have set_at : ∀ u : Int, (setI l i u)[j]? = some (if (j : Int) = i then u else v) := fun u => by
    by_cases hi : there l i
    · obtain ⟨m, rfl, hm⟩ := there_nat hi
      rw [setI_in hm, List.getElem?_set]
      by_cases e : m = j
      · subst e
        simp [hjl]
      · rw [if_neg e, if_neg (by omega), hj]
    · rw [setI_out hi, hj]
      unfold there at hi
      rw [if_neg (by omega)]
  have get_at : (j : Int) = i → getI l i = v := fun e => by rw [← e]; exact getI_some hj
  rcases (show k = 1 ∨ k = 2 ∨ k = 3 ∨ k = 4 by omega) with rfl | rfl | rfl | rfl
  · rw [nextD_1, afterI_1, hj]
    simp
  · rw [nextD_2, afterI_2]
    exact set_at a
  · rw [nextD_3, afterI_3]
    unfold swapI
    by_cases e : (j : Int) = i
    · rw [get_at e, if_pos e]
      by_cases g : v = a
      · rw [if_pos g, if_pos g, set_at, if_pos e]
      · rw [if_neg g, if_neg g, hj]
    · rw [if_neg e]
      by_cases g : getI l i = a
      · rw [if_pos g, set_at, if_neg e]
      · rw [if_neg g, hj]
  · rw [nextD_4, afterI_4]
    unfold addI
    rw [set_at]
    by_cases e : (j : Int) = i
    · rw [if_pos e, if_pos e, get_at e]
    · rw [if_neg e, if_neg e]

/-! The text. -/
def nameL (k : Int) : List UInt8 := if k = 1 then [108, 111, 97, 100] else if k = 2 then [115, 116, 111, 114, 101] else if k = 3 then [115, 119, 97, 112] else [97, 100, 100]
def numsL (k a b : Int) : List Int := if k = 1 then [] else if k = 3 then [a, b] else [a]
def byL (y : Int) : List (List UInt8) := if y = 0 then [] else [[98, 121], decI y]
def partsL (name : List UInt8) (i : Int) (ns : List Int) (y : Int) : List (List UInt8) := name :: Go.Lib.itoa i :: (ns.map decI ++ byL y)
def lineL (name : List UInt8) (i : Int) (ns : List Int) (y : Int) : List UInt8 := Go.Lib.join (partsL name i ns y) [32]
def textI (x : D) : List UInt8 := if 1 ≤ x.1 ∧ x.1 ≤ 4 then lineL (nameL x.1) x.2.1 (numsL x.1 x.2.2.1 x.2.2.2.1) x.2.2.2.2 else [110, 111, 110, 101]

theorem textI_no {x : D} (h : ¬ (1 ≤ x.1 ∧ x.1 ≤ 4)) : textI x = [110, 111, 110, 101] := if_neg h
theorem textI_1 (i a b y : Int) : textI (1, i, a, b, y) = lineL [108, 111, 97, 100] i [] y := by unfold textI nameL numsL; simp
theorem textI_2 (i a b y : Int) : textI (2, i, a, b, y) = lineL [115, 116, 111, 114, 101] i [a] y := by unfold textI nameL numsL; simp
theorem textI_3 (i a b y : Int) : textI (3, i, a, b, y) = lineL [115, 119, 97, 112] i [a, b] y := by unfold textI nameL numsL; simp
theorem textI_4 (i a b y : Int) : textI (4, i, a, b, y) = lineL [97, 100, 100] i [a] y := by unfold textI nameL numsL; simp

def endL (y : Int) : List UInt8 := if y = 0 then [] else [32, 98, 121, 32] ++ decI y
/-- A text as the document builds it, from the left. -/
theorem line_is (name : List UInt8) (i : Int) (ns : List Int) (y : Int) : lineL name i ns y = name ++ [32] ++ Go.Lib.itoa i ++ (ns.map fun n => [32] ++ decI n).flatten ++ endL y := by
  unfold lineL partsL byL endL
  rw [Go.Lib.join_cons]
  unfold Go.Lib.joinTail
  by_cases h : y = 0
  · rw [if_pos h, if_pos h]
    simp [List.map_map, Function.comp_def]
  · rw [if_neg h, if_neg h]
    simp [List.map_map, Function.comp_def]

theorem dec_len (u : Int) (h : u < 18446744073709551616) : (decI u).length ≤ 20 := by unfold decI; rw [Go.Lib.decDigits_length]; exact Go.Lib.nDigits_le20 _ (by omega)
theorem flat_len (ns : List Int) (h : ∀ n ∈ ns, n < 18446744073709551616) : ((ns.map fun n => [32] ++ decI n).flatten).length ≤ 21 * ns.length := by
  induction ns with
  | nil => simp
  | cons n ns ih =>
    have h1 := ih fun m hm => h m (List.mem_cons_of_mem _ hm)
    have h2 := dec_len n (h n List.mem_cons_self)
    simp at h1 ⊢
    omega
theorem end_len (y : Int) (h : y < 18446744073709551616) : (endL y).length ≤ 24 := by
  unfold endL
  split
  · simp
  · have := dec_len y h
    simp
    omega
theorem line_len {name : List UInt8} {i : Int} {ns : List Int} {y : Int} (hn : name.length ≤ 100) (h0 : -9223372036854775808 ≤ i) (h1 : i ≤ 9223372036854775807) (hs : ns.length ≤ 100) (hw : ∀ n ∈ ns, n < 18446744073709551616) (hy : y < 18446744073709551616) : (lineL name i ns y).length ≤ 100000 := by
  have a1 := Go.Lib.itoa_length_le i h0 h1
  have a2 := flat_len ns hw
  have a3 := end_len y hy
  rw [line_is]
  simp only [List.length_append, List.length_cons, List.length_nil]
  omega
theorem example_text : textI (3, 3, 5, 6, 0) = [115, 119, 97, 112, 32, 51, 32, 53, 32, 54] := by
  rw [textI_3, line_is]
  have e3 : Go.Lib.itoa 3 = [51] := by unfold Go.Lib.itoa; rw [if_neg (by omega), show ((3 : Int).toNat) = 3 from rfl, Go.Lib.decDigits_one (by omega)]; rfl
  have e5 : decI 5 = [53] := by unfold decI; rw [show ((5 : Int).toNat) = 5 from rfl, Go.Lib.decDigits_one (by omega)]; rfl
  have e6 : decI 6 = [54] := by unfold decI; rw [show ((6 : Int).toNat) = 6 from rfl, Go.Lib.decDigits_one (by omega)]; rfl
  rw [e3]
  simp [e5, e6, endL]
end Go.Proofs.YtlegknboccbdpaaDoor.DM

/- Tasks in plain lists: what one asks for, told words from a list, and where it is then; done alone to a memory. No program is named. -/
namespace Go.Proofs.YtlegknboccbdpaaDoor.Runs
open DM

section
variable {σ : Type} (ask : σ → Option D) (tell : σ → Int → σ)

/-- All deeds that are asked for, up to the one behind the last word. -/
def askL : List Int → σ → List D
  | [], s => (ask s).toList
  | f :: fs, s => match ask s with
    | none => []
    | some d => d :: askL fs (tell s f)
/-- Where the task is then. -/
def endL : List Int → σ → σ
  | [], s => s
  | f :: fs, s => match ask s with
    | none => s
    | some _ => endL fs (tell s f)

/-- Amid a run: out was asked for and told, s is next. -/
def Mid (fs : List Int) (s0 : σ) (out : List D) (s : σ) : Prop :=
  out.length ≤ fs.length ∧ askL ask tell fs s0 = out ++ askL ask tell (fs.drop out.length) s ∧ endL ask tell fs s0 = endL ask tell (fs.drop out.length) s
/-- At its end. -/
def Fin (fs : List Int) (s0 : σ) (out : List D) (s : σ) : Prop := askL ask tell fs s0 = out ∧ endL ask tell fs s0 = s

variable {ask tell} {fs : List Int} {s0 s : σ} {out : List D} {d : D} {f : Int}
theorem Mid.start (fs : List Int) (s0 : σ) : Mid ask tell fs s0 [] s0 := ⟨Nat.zero_le _, rfl, rfl⟩
theorem Mid.len (h : Mid ask tell fs s0 out s) : out.length ≤ fs.length := h.1
theorem Mid.more (h : Mid ask tell fs s0 out s) (ha : ask s = some d) (hf : fs[out.length]? = some f) : Mid ask tell fs s0 (out ++ [d]) (tell s f) := by
  obtain ⟨hlt, rfl⟩ := List.getElem?_eq_some_iff.1 hf
  obtain ⟨_, h1, h2⟩ := h
  rw [List.drop_eq_getElem_cons hlt] at h1 h2
  simp only [askL, endL, ha] at h1 h2
  refine ⟨by simp; omega, ?_, ?_⟩
  · rw [h1, List.length_append, List.length_singleton, List.append_assoc]; rfl
  · rw [h2, List.length_append, List.length_singleton]
theorem Mid.last (h : Mid ask tell fs s0 out s) (ha : ask s = some d) (hl : fs.length ≤ out.length) : Fin ask tell fs s0 (out ++ [d]) s := by
  obtain ⟨_, h1, h2⟩ := h
  rw [List.drop_eq_nil_of_le hl] at h1 h2
  simp only [askL, endL, ha] at h1 h2
  exact ⟨h1, h2⟩
theorem Mid.done (h : Mid ask tell fs s0 out s) (ha : ask s = none) : Fin ask tell fs s0 out s := by
  obtain ⟨_, h1, h2⟩ := h
  cases hd : fs.drop out.length with
  | nil =>
    rw [hd] at h1 h2
    simp only [askL, endL, ha] at h1 h2
    exact ⟨by simpa using h1, h2⟩
  | cons x xs =>
    rw [hd] at h1 h2
    simp only [askL, endL, ha] at h1 h2
    exact ⟨by simpa using h1, h2⟩
theorem Fin.one {out' : List D} {s' : σ} (h : Fin ask tell fs s0 out s) (h' : Fin ask tell fs s0 out' s') : out = out' ∧ s = s' := ⟨h.1.symm.trans h'.1, h.2.symm.trans h'.2⟩

variable (ask tell) in
/-- All that is asked for behind pre, which was asked for (and told) ahead; where the task is then. -/
def Fins (fs : List Int) (pre : List D) (s0 : σ) (out : List D) (s : σ) : Prop := pre ++ askL ask tell (fs.drop pre.length) s0 = out ∧ endL ask tell (fs.drop pre.length) s0 = s
variable (ask tell) in
/-- Amid such a run: out, of which pre is a part, was asked for and told, s is next. -/
def Amid (fs : List Int) (pre : List D) (s0 : σ) (out : List D) (s : σ) : Prop :=
  out.length ≤ fs.length ∧ pre ++ askL ask tell (fs.drop pre.length) s0 = out ++ askL ask tell (fs.drop out.length) s ∧ endL ask tell (fs.drop pre.length) s0 = endL ask tell (fs.drop out.length) s
variable {pre : List D}
theorem Amid.start {fs : List Int} {pre : List D} (h : pre.length ≤ fs.length) (s0 : σ) : Amid ask tell fs pre s0 pre s0 := ⟨h, rfl, rfl⟩
theorem Amid.len (h : Amid ask tell fs pre s0 out s) : out.length ≤ fs.length := h.1
theorem Amid.more (h : Amid ask tell fs pre s0 out s) (ha : ask s = some d) (hf : fs[out.length]? = some f) : Amid ask tell fs pre s0 (out ++ [d]) (tell s f) := by
  obtain ⟨hlt, rfl⟩ := List.getElem?_eq_some_iff.1 hf
  obtain ⟨_, h1, h2⟩ := h
  rw [List.drop_eq_getElem_cons hlt] at h1 h2
  simp only [askL, endL, ha] at h1 h2
  refine ⟨by simp; omega, ?_, ?_⟩
  · rw [h1, List.length_append, List.length_singleton, List.append_assoc]; rfl
  · rw [h2, List.length_append, List.length_singleton]
theorem Amid.last (h : Amid ask tell fs pre s0 out s) (ha : ask s = some d) (hl : fs.length ≤ out.length) : Fins ask tell fs pre s0 (out ++ [d]) s := by
  obtain ⟨_, h1, h2⟩ := h
  rw [List.drop_eq_nil_of_le hl] at h1 h2
  simp only [askL, endL, ha] at h1 h2
  exact ⟨h1, h2⟩
theorem Amid.done (h : Amid ask tell fs pre s0 out s) (ha : ask s = none) : Fins ask tell fs pre s0 out s := by
  obtain ⟨_, h1, h2⟩ := h
  cases hd : fs.drop out.length with
  | nil =>
    rw [hd] at h1 h2
    simp only [askL, endL, ha] at h1 h2
    exact ⟨by simpa using h1, h2⟩
  | cons x xs =>
    rw [hd] at h1 h2
    simp only [askL, endL, ha] at h1 h2
    exact ⟨by simpa using h1, h2⟩
theorem Fins.start (h : Fins ask tell fs [] s0 out s) : Fin ask tell fs s0 out s := h
theorem Fins.one {out' : List D} {s' : σ} (h : Fins ask tell fs pre s0 out s) (h' : Fins ask tell fs pre s0 out' s') : out = out' ∧ s = s' := ⟨h.1.symm.trans h'.1, h.2.symm.trans h'.2⟩

/-! A task that goes the steps of another one, as long as that has some. -/
section
variable {τ : Type} {askS : τ → Option D} {tellS : τ → Int → τ} {ι : τ → σ}
/-- Each step of the inner one is one of the outer one. -/
def Holds (ask : σ → Option D) (tell : σ → Int → σ) (askS : τ → Option D) (tellS : τ → Int → τ) (ι : τ → σ) : Prop := ∀ t d, askS t = some d → ask (ι t) = some d ∧ ∀ f, tell (ι t) f = ι (tellS t f)
theorem askL_in (h : Holds ask tell askS tellS ι) : ∀ (fs : List Int) (t : τ),
    (∃ d, askS (endL askS tellS fs t) = some d ∧ askL ask tell fs (ι t) = askL askS tellS fs t ∧ endL ask tell fs (ι t) = ι (endL askS tellS fs t)) ∨
    (askS (endL askS tellS fs t) = none ∧ (askL askS tellS fs t).length ≤ fs.length ∧ askL ask tell fs (ι t) = askL askS tellS fs t ++ askL ask tell (fs.drop (askL askS tellS fs t).length) (ι (endL askS tellS fs t)) ∧
      endL ask tell fs (ι t) = endL ask tell (fs.drop (askL askS tellS fs t).length) (ι (endL askS tellS fs t)))
  | [], t => by
    cases ha : askS t with
    | none => exact .inr ⟨by simp [endL, ha], by simp [askL, ha], by simp [askL, endL, ha], by simp [askL, endL, ha]⟩
    | some d => exact .inl ⟨d, by simp [endL, ha], by simp [askL, ha, (h t d ha).1], by simp [endL]⟩
  | f :: fs, t => by
    cases ha : askS t with
    | none => exact .inr ⟨by simp [endL, ha], by simp [askL, ha], by simp [askL, endL, ha], by simp [askL, endL, ha]⟩
    | some d =>
      obtain ⟨h1, h2⟩ := h t d ha
      have h3 := h2 f
      rcases askL_in h fs (tellS t f) with ⟨d', q1, q2, q3⟩ | ⟨q1, q2, q3, q4⟩
      · exact .inl ⟨d', by simpa [endL, ha] using q1, by simp [askL, ha, h1, h3, q2], by simp [endL, ha, h1, h3, q3]⟩
      · refine .inr ⟨by simpa [endL, ha] using q1, by simp [askL, ha]; exact q2, ?_, ?_⟩
        · simp [askL, endL, ha, h1, h3]; exact q3
        · simp [askL, endL, ha, h1, h3]; exact q4
/-- Behind the inner one's run the outer one is at its end, or goes on. -/
theorem Amid.inner {t : τ} (h : Amid ask tell fs pre s0 out (ι t)) (hh : Holds ask tell askS tellS ι) {out' : List D} {t' : τ} (hf : Fins askS tellS fs out t out' t') :
    ((askS t').isSome = true → Fins ask tell fs pre s0 out' (ι t')) ∧ (askS t' = none → Amid ask tell fs pre s0 out' (ι t')) := by
  obtain ⟨hl, h1, h2⟩ := h
  obtain ⟨rfl, rfl⟩ := hf
  rcases askL_in hh (fs.drop out.length) t with ⟨d, q1, q2, q3⟩ | ⟨q1, q2, q3, q4⟩
  · refine ⟨fun _ => ⟨by rw [h1, q2], by rw [h2, q3]⟩, fun e => ?_⟩
    rw [q1] at e
    cases e
  · refine ⟨fun e => ?_, fun _ => ⟨?_, ?_, ?_⟩⟩
    · rw [q1] at e
      cases e
    · rw [List.length_append]
      rw [List.length_drop] at q2
      omega
    · rw [h1, q3, List.length_append, ← List.drop_drop, List.append_assoc]
    · rw [h2, q4, List.length_append, ← List.drop_drop]
end

/-! A task that goes the steps of another one, and goes on behind its last one as soon as that is told. -/
section
variable {τ : Type} {askS : τ → Option D} {tellS : τ → Int → τ} {ι : τ → σ} {κ : σ}
/-- Each step of the inner one is one of the outer one, which stands at κ as soon as the inner one is done. -/
def Passes (ask : σ → Option D) (tell : σ → Int → σ) (askS : τ → Option D) (tellS : τ → Int → τ) (ι : τ → σ) (κ : σ) : Prop := ∀ t d, askS t = some d → ask (ι t) = some d ∧ ∀ f, tell (ι t) f = if (askS (tellS t f)).isSome then ι (tellS t f) else κ
theorem askL_pass (h : Passes ask tell askS tellS ι κ) : ∀ (fs : List Int) (t : τ) (d0 : D), askS t = some d0 →
    (∃ d, askS (endL askS tellS fs t) = some d ∧ askL ask tell fs (ι t) = askL askS tellS fs t ∧ endL ask tell fs (ι t) = ι (endL askS tellS fs t)) ∨
    (askS (endL askS tellS fs t) = none ∧ (askL askS tellS fs t).length ≤ fs.length ∧ askL ask tell fs (ι t) = askL askS tellS fs t ++ askL ask tell (fs.drop (askL askS tellS fs t).length) κ ∧
      endL ask tell fs (ι t) = endL ask tell (fs.drop (askL askS tellS fs t).length) κ)
  | [], t, d, ha => .inl ⟨d, by simp [endL, ha], by simp [askL, ha, (h t d ha).1], by simp [endL]⟩
  | f :: fs, t, d, ha => by
    obtain ⟨h1, h2⟩ := h t d ha
    have h3 := h2 f
    cases hb : askS (tellS t f) with
    | none =>
      rw [hb, Option.isSome_none, if_neg (by simp)] at h3
      have e1 : askL askS tellS fs (tellS t f) = [] := by cases fs <;> simp [askL, hb]
      have e2 : endL askS tellS fs (tellS t f) = tellS t f := by cases fs <;> simp [endL, hb]
      refine .inr ⟨by simp [endL, ha, e2, hb], by simp [askL, ha, e1], ?_, ?_⟩
      · simp [askL, ha, h1, h3, e1]
      · simp [askL, endL, ha, h1, h3, e1]
    | some d2 =>
      rw [hb, Option.isSome_some, if_pos rfl] at h3
      rcases askL_pass h fs (tellS t f) d2 hb with ⟨d', q1, q2, q3⟩ | ⟨q1, q2, q3, q4⟩
      · exact .inl ⟨d', by simpa [endL, ha] using q1, by simp [askL, ha, h1, h3, q2], by simp [endL, ha, h1, h3, q3]⟩
      · refine .inr ⟨by simpa [endL, ha] using q1, by simp [askL, ha]; exact q2, ?_, ?_⟩
        · simp [askL, ha, h1, h3]; exact q3
        · simp [askL, endL, ha, h1, h3]; exact q4
/-- Behind the inner one's run the outer one is at its end, or goes on at κ. -/
theorem Amid.pass {t : τ} {d0 : D} (h : Amid ask tell fs pre s0 out (ι t)) (hh : Passes ask tell askS tellS ι κ) (ha : askS t = some d0) {out' : List D} {t' : τ} (hf : Fins askS tellS fs out t out' t') :
    ((askS t').isSome = true → Fins ask tell fs pre s0 out' (ι t')) ∧ (askS t' = none → Amid ask tell fs pre s0 out' κ) := by
  obtain ⟨hl, h1, h2⟩ := h
  obtain ⟨rfl, rfl⟩ := hf
  rcases askL_pass hh (fs.drop out.length) t d0 ha with ⟨d, q1, q2, q3⟩ | ⟨q1, q2, q3, q4⟩
  · refine ⟨fun _ => ⟨by rw [h1, q2], by rw [h2, q3]⟩, fun e => ?_⟩
    rw [q1] at e
    cases e
  · refine ⟨fun e => ?_, fun _ => ⟨?_, ?_, ?_⟩⟩
    · rw [q1] at e
      cases e
    · rw [List.length_append]
      rw [List.length_drop] at q2
      omega
    · rw [h1, q3, List.length_append, ← List.drop_drop, List.append_assoc]
    · rw [h2, q4, List.length_append, ← List.drop_drop]
end

variable (ask tell) in
/-- Done alone, some deeds at most: the words, and where the task is then. -/
def alone : Nat → List Int → σ → List Int × σ
  | 0, l, s => (l, s)
  | k + 1, l, s => match ask s with
    | none => (l, s)
    | some d => alone k (nextD l d) (tell s (foundD l d))
theorem alone_done {k : Nat} {l : List Int} (ha : ask s = none) : alone ask tell k l s = (l, s) := by
  cases k with
  | zero => rfl
  | succ k => simp only [alone, ha]
theorem alone_more {k : Nat} {l : List Int} (ha : ask s = some d) : alone ask tell (k + 1) l s = alone ask tell k (nextD l d) (tell s (foundD l d)) := by
  simp only [alone, ha]
theorem alone_pass {τ : Type} {askS : τ → Option D} {tellS : τ → Int → τ} {ι : τ → σ} {κ : σ} (h : Passes ask tell askS tellS ι κ) : ∀ (m k : Nat) (l l' : List Int) (t t' : τ) (d0 : D), askS t = some d0 → alone askS tellS m l t = (l', t') → askS t' = none →
    ∃ j, j ≤ m ∧ alone ask tell (m + k) l (ι t) = alone ask tell (k + j) l' κ
  | 0, k, l, l', t, t', d, ha, hs, hn => by
    cases hs
    rw [ha] at hn
    cases hn
  | m + 1, k, l, l', t, t', d, ha, hs, hn => by
    obtain ⟨h1, h2⟩ := h t d ha
    rw [alone_more ha] at hs
    rw [show m + 1 + k = (m + k) + 1 by omega, alone_more h1, h2]
    cases hb : askS (tellS t (foundD l d)) with
    | none =>
      rw [alone_done hb] at hs
      cases hs
      rw [Option.isSome_none, if_neg (by simp)]
      exact ⟨m, by omega, by rw [Nat.add_comm]⟩
    | some d2 =>
      rw [Option.isSome_some, if_pos rfl]
      obtain ⟨j, hj, e⟩ := alone_pass h m k _ _ _ _ d2 hb hs hn
      exact ⟨j, by omega, e⟩
variable (ask tell) in
/-- Just k deeds, each asked for, done alone. -/
def steps : Nat → List Int → σ → Option (List Int × σ)
  | 0, l, s => some (l, s)
  | k + 1, l, s => match ask s with
    | none => none
    | some d => steps k (nextD l d) (tell s (foundD l d))
theorem steps_more {k : Nat} {l : List Int} (ha : ask s = some d) : steps ask tell (k + 1) l s = steps ask tell k (nextD l d) (tell s (foundD l d)) := by
  simp only [steps, ha]
/-- Amid just so many steps: one is asked for, as long as some are left. -/
theorem steps_amid {k : Nat} {l lf : List Int} {s sf : σ} (h : steps ask tell (k + 1) l s = some (lf, sf)) : ∃ d, ask s = some d ∧ steps ask tell k (nextD l d) (tell s (foundD l d)) = some (lf, sf) := by
  cases ha : ask s with
  | none => simp [steps, ha] at h
  | some d => exact ⟨d, rfl, by rwa [steps_more ha] at h⟩
theorem steps_pass {τ : Type} {askS : τ → Option D} {tellS : τ → Int → τ} {ι : τ → σ} {κ : σ} (h : Passes ask tell askS tellS ι κ) : ∀ (m k : Nat) (l l' : List Int) (t t' : τ) (d0 : D), askS t = some d0 → steps askS tellS m l t = some (l', t') → askS t' = none → steps ask tell (m + k) l (ι t) = steps ask tell k l' κ
  | 0, k, l, l', t, t', d, ha, hs, hn => by
    simp only [steps, Option.some.injEq, Prod.mk.injEq] at hs
    rw [← hs.2, ha] at hn
    cases hn
  | m + 1, k, l, l', t, t', d, ha, hs, hn => by
    obtain ⟨h1, h2⟩ := h t d ha
    rw [steps_more ha] at hs
    rw [show m + 1 + k = (m + k) + 1 by omega, steps_more h1, h2]
    cases hb : askS (tellS t (foundD l d)) with
    | none =>
      cases m with
      | zero =>
        simp only [steps, Option.some.injEq, Prod.mk.injEq] at hs
        rw [Option.isSome_none, if_neg (by simp), Nat.zero_add, hs.1]
      | succ m => simp [steps, hb] at hs
    | some d2 =>
      rw [Option.isSome_some, if_pos rfl]
      exact steps_pass h m k _ _ _ _ d2 hb hs hn
/-! .. and goes on behind its last one at what that one has come to. -/
section
variable {τ : Type} {askS : τ → Option D} {tellS : τ → Int → τ} {ι κ : τ → σ}
/-- Each step of the inner one is one of the outer one, which stands at κ of it as soon as the inner one is done. -/
def Leads (ask : σ → Option D) (tell : σ → Int → σ) (askS : τ → Option D) (tellS : τ → Int → τ) (ι κ : τ → σ) : Prop := ∀ t d, askS t = some d → ask (ι t) = some d ∧ ∀ f, tell (ι t) f = if (askS (tellS t f)).isSome then ι (tellS t f) else κ (tellS t f)
theorem steps_lead (h : Leads ask tell askS tellS ι κ) : ∀ (m k : Nat) (l l' : List Int) (t t' : τ) (d0 : D), askS t = some d0 → steps askS tellS m l t = some (l', t') → askS t' = none → steps ask tell (m + k) l (ι t) = steps ask tell k l' (κ t')
  | 0, k, l, l', t, t', d, ha, hs, hn => by
    simp only [steps, Option.some.injEq, Prod.mk.injEq] at hs
    rw [← hs.2, ha] at hn
    cases hn
  | m + 1, k, l, l', t, t', d, ha, hs, hn => by
    obtain ⟨h1, h2⟩ := h t d ha
    rw [steps_more ha] at hs
    rw [show m + 1 + k = (m + k) + 1 by omega, steps_more h1, h2]
    cases hb : askS (tellS t (foundD l d)) with
    | none =>
      cases m with
      | zero =>
        simp only [steps, Option.some.injEq, Prod.mk.injEq] at hs
        rw [Option.isSome_none, if_neg (by simp), Nat.zero_add, hs.1, hs.2]
      | succ m => simp [steps, hb] at hs
    | some d2 =>
      rw [Option.isSome_some, if_pos rfl]
      exact steps_lead h m k _ _ _ _ d2 hb hs hn
end
end
end Go.Proofs.YtlegknboccbdpaaDoor.Runs

/- Plans in plain arithmetic, going round at 64 bits: where words are. No program is named. -/
namespace Go.Proofs.YtlegknboccbdpaaDoor.PM
open Go.RowKit

theorem wrap_off (x k : Int) : wrap64 (x - 18446744073709551616 * k) = wrap64 x := by unfold wrap64; omega
theorem wrap_is (a : Int) : ∃ k : Int, wrap64 a = a - 18446744073709551616 * k := ⟨(a + 9223372036854775808) / 18446744073709551616, by unfold wrap64; omega⟩
theorem w_w (a : Int) : wrap64 (wrap64 a) = wrap64 a := by unfold wrap64; omega
theorem add_l (a b : Int) : wrap64 (wrap64 a + b) = wrap64 (a + b) := by unfold wrap64; omega
theorem add_r (a b : Int) : wrap64 (a + wrap64 b) = wrap64 (a + b) := by unfold wrap64; omega
theorem sub_l (a b : Int) : wrap64 (wrap64 a - b) = wrap64 (a - b) := by unfold wrap64; omega
theorem sub_r (a b : Int) : wrap64 (a - wrap64 b) = wrap64 (a - b) := by unfold wrap64; omega
theorem mul_l (a b : Int) : wrap64 (wrap64 a * b) = wrap64 (a * b) := by
  obtain ⟨k, hk⟩ := wrap_is a
  rw [hk, Int.sub_mul, Int.mul_assoc, wrap_off]
theorem mul_r (a b : Int) : wrap64 (a * wrap64 b) = wrap64 (a * b) := by
  rw [Int.mul_comm, mul_l, Int.mul_comm]
theorem wrap_in {n : Int} (h : -9223372036854775808 ≤ n ∧ n ≤ 9223372036854775807) : wrap64 n = n := by unfold wrap64; omega

/-- Where the n-th row of the threads' words begins. -/
def rowI (T n : Int) : Int := wrap64 (4 + n * T)
/-- Where the k-th word of a slot is. -/
def atI (T L s k : Int) : Int := wrap64 (4 + 3 * T + L + (s - 1) * (6 + L) + k)
/-- Where the k-th word behind a row's first one is. -/
def ofI (T n k : Int) : Int := wrap64 (4 + n * T + k)
/-- Where a way on is. -/
def nextI (T L s k : Int) : Int := if s = 0 then ofI T 3 k else atI T L s (6 + k)
theorem next_zero (T L k : Int) : nextI T L 0 k = ofI T 3 k := if_pos rfl
theorem next_some {T L s k : Int} (h : ¬ s = 0) : nextI T L s k = atI T L s (6 + k) := if_neg h

theorem row_of (T n k : Int) : wrap64 (rowI T n + k) = ofI T n k := by unfold rowI ofI; rw [add_l]
theorem at_of (T L s k : Int) : wrap64 (atI T L s 0 + k) = atI T L s k := by unfold atI; rw [add_l, Int.add_zero]
theorem w_six (x k : Int) : wrap64 (wrap64 (wrap64 x + 6) + k) = wrap64 (x + (6 + k)) := by unfold wrap64; omega
theorem at_next (T L s k : Int) : wrap64 (wrap64 (atI T L s 0 + 6) + k) = atI T L s (6 + k) := by unfold atI; rw [w_six, Int.add_zero]
theorem at_wrap (T L s k : Int) : atI T L s (wrap64 k) = atI T L s k := by unfold atI; rw [add_r]
theorem first_of (T L s : Int) : wrap64 (wrap64 (rowI T 3 + L) + wrap64 (wrap64 (s - 1) * wrap64 (6 + L))) = atI T L s 0 := by
  unfold rowI atI
  rw [add_l, mul_l, mul_r, add_r, Int.add_assoc, add_l, Int.add_zero, ← Int.add_assoc]

/-! As the document's answer adds up. -/
theorem ref_pin (T t : Int) : wrap64 (4 + t) = ofI T 0 t := by unfold ofI; rw [Int.zero_mul, Int.add_zero]
theorem ref_sleep (T t : Int) : wrap64 (wrap64 (4 + T) + t) = ofI T 1 t := by unfold ofI; rw [add_l, Int.one_mul]
theorem ref_row (T n t : Int) : wrap64 (wrap64 (4 + wrap64 (n * T)) + t) = ofI T n t := by unfold ofI; rw [add_r, add_l]
theorem w_sum (a L m k : Int) : wrap64 (wrap64 (wrap64 (wrap64 (4 + wrap64 a) + L) + wrap64 m) + k) = wrap64 (4 + a + L + m + k) := by unfold wrap64; omega
theorem ref_slot (T L s k : Int) : wrap64 (wrap64 (wrap64 (wrap64 (4 + wrap64 (3 * T)) + L) + wrap64 (wrap64 (s - 1) * wrap64 (6 + L))) + k) = atI T L s k := by
  unfold atI
  rw [mul_l, mul_r, w_sum]

/-- Whether a plan is right. -/
def rightB (T S L G : Int) : Bool := decide (1 ≤ T ∧ T ≤ 8 ∧ 1 ≤ S ∧ S ≤ 64 ∧ 1 ≤ L ∧ L ≤ 8 ∧ G ≤ 4294967295)
theorem right_yes {T S L G : Int} (h : 1 ≤ T ∧ T ≤ 8 ∧ 1 ≤ S ∧ S ≤ 64 ∧ 1 ≤ L ∧ L ≤ 8 ∧ G ≤ 4294967295) : rightB T S L G = true := decide_eq_true h
theorem right_no {T S L G : Int} (h : ¬ (1 ≤ T ∧ T ≤ 8 ∧ 1 ≤ S ∧ S ≤ 64 ∧ 1 ≤ L ∧ L ≤ 8 ∧ G ≤ 4294967295)) : rightB T S L G = false := decide_eq_false h
theorem right_is {T S L G : Int} (h : rightB T S L G = true) : 1 ≤ T ∧ T ≤ 8 ∧ 1 ≤ S ∧ S ≤ 64 ∧ 1 ≤ L ∧ L ≤ 8 ∧ G ≤ 4294967295 := of_decide_eq_true h
theorem right_not {T S L G : Int} (h : rightB T S L G = false) : ¬ (1 ≤ T ∧ T ≤ 8 ∧ 1 ≤ S ∧ S ≤ 64 ∧ 1 ≤ L ∧ L ≤ 8 ∧ G ≤ 4294967295) := of_decide_eq_false h
end Go.Proofs.YtlegknboccbdpaaDoor.PM

/- Plain arithmetic of keys: how two lie, how many of a list are less, whether a list rises, what sorting gives. No program is named. -/
namespace Go.Proofs.YtlegknboccbdpaaDoor.OM

abbrev Key := Int × Int

def cmpI (a b : Int) : Int := if a < b then -1 else if b < a then 1 else 0
def cmpK (x y : Key) : Int := if cmpI x.1 y.1 = 0 then cmpI x.2 y.2 else cmpI x.1 y.1
def ltK (x y : Key) : Bool := decide (x.1 < y.1) || (decide (x.1 = y.1) && decide (x.2 < y.2))

theorem cmpI_cases (a b : Int) : (a < b ∧ cmpI a b = -1) ∨ (b < a ∧ cmpI a b = 1) ∨ (a = b ∧ cmpI a b = 0) := by
  unfold cmpI
  by_cases h : a < b
  · exact .inl ⟨h, if_pos h⟩
  · by_cases h2 : b < a
    · exact .inr (.inl ⟨h2, by rw [if_neg h, if_pos h2]⟩)
    · exact .inr (.inr ⟨by omega, by rw [if_neg h, if_neg h2]⟩)
theorem cmpI_range (a b : Int) : -1 ≤ cmpI a b ∧ cmpI a b ≤ 1 := by rcases cmpI_cases a b with ⟨_, e⟩ | ⟨_, e⟩ | ⟨_, e⟩ <;> omega
theorem ltK_iff (x y : Key) : ltK x y = true ↔ x.1 < y.1 ∨ (x.1 = y.1 ∧ x.2 < y.2) := by simp [ltK]
theorem cmpK_cases (x y : Key) : (ltK x y = true ∧ ltK y x = false ∧ cmpK x y = -1) ∨ (ltK x y = false ∧ ltK y x = true ∧ cmpK x y = 1) ∨ (x = y ∧ ltK x y = false ∧ ltK y x = false ∧ cmpK x y = 0) := by
  obtain ⟨a, b⟩ := x
  obtain ⟨c, d⟩ := y
  have h1 := ltK_iff (a, b) (c, d)
  have h2 := ltK_iff (c, d) (a, b)
  simp only at h1 h2
  have e : cmpK (a, b) (c, d) = if cmpI a c = 0 then cmpI b d else cmpI a c := rfl
  rw [e]
  cases g1 : ltK (a, b) (c, d) <;> cases g2 : ltK (c, d) (a, b) <;> rw [g1] at h1 <;> rw [g2] at h2 <;> simp only [Bool.false_eq_true, false_iff, true_iff] at h1 h2 <;>
    rcases cmpI_cases a c with ⟨p, q⟩ | ⟨p, q⟩ | ⟨p, q⟩ <;> rcases cmpI_cases b d with ⟨r, s⟩ | ⟨r, s⟩ | ⟨r, s⟩ <;> simp [q, s] <;> omega
theorem cmpK_range (x y : Key) : -1 ≤ cmpK x y ∧ cmpK x y ≤ 1 := by
  rcases cmpK_cases x y with ⟨_, _, e⟩ | ⟨_, _, e⟩ | ⟨_, _, _, e⟩ <;> omega
theorem cmpK_lt (x y : Key) : decide (cmpK x y < 0) = ltK x y := by
  rcases cmpK_cases x y with ⟨h, _, e⟩ | ⟨h, _, e⟩ | ⟨_, h, _, e⟩ <;> rw [h, e] <;> decide
theorem ltK_irrefl (x : Key) : ltK x x = false := by
  have := ltK_iff x x
  cases h : ltK x x
  · rfl
  · rw [h] at this; simp at this
theorem ltK_trans (x y z : Key) (h1 : ltK x y = true) (h2 : ltK y z = true) : ltK x z = true := by
  rw [ltK_iff] at *; omega
theorem ltK_ntrans (x y z : Key) (h1 : ltK x y = false) (h2 : ltK y z = false) : ltK x z = false := by
  have a := ltK_iff x y; have b := ltK_iff y z; have c := ltK_iff x z
  rw [h1] at a; rw [h2] at b
  cases h : ltK x z
  · rfl
  · rw [h] at c; simp at a b c; omega
theorem ltK_total (x y : Key) (h1 : ltK x y = false) (h2 : ltK y x = false) : x = y := by
  rcases cmpK_cases x y with ⟨h, _, _⟩ | ⟨_, h, _⟩ | ⟨h, _⟩
  · rw [h1] at h; cases h
  · rw [h2] at h; cases h
  · exact h
theorem ltK_asymm (x y : Key) (h : ltK x y = true) : ltK y x = false := by
  rcases cmpK_cases x y with ⟨_, h', _⟩ | ⟨h', _, _⟩ | ⟨_, h', _⟩
  · exact h'
  · rw [h'] at h; cases h
  · rw [h'] at h; cases h

/-! How many of a list are less. -/
def placeK (l : List Key) (k : Key) : Nat := (l.filter fun x => ltK x k).length
theorem placeK_le (l : List Key) (k : Key) : placeK l k ≤ l.length := List.length_filter_le _ _
theorem placeK_snoc (l : List Key) (x k : Key) : placeK (l ++ [x]) k = placeK l k + if ltK x k = true then 1 else 0 := by
  unfold placeK
  rw [List.filter_append]
  by_cases h : ltK x k = true <;> simp [h]
theorem take_snoc {α : Type} (l : List α) (i : Nat) (h : i < l.length) : l.take (i + 1) = l.take i ++ [l[i]] := List.take_succ_eq_append_getElem h
theorem placeK_take (l : List Key) (k : Key) (i : Nat) (h : i < l.length) : placeK (l.take (i + 1)) k = placeK (l.take i) k + if ltK l[i] k = true then 1 else 0 := by
  rw [take_snoc l i h, placeK_snoc]
theorem placeK_perm {a b : List Key} (h : a.Perm b) (k : Key) : placeK a k = placeK b k := (h.filter _).length_eq

/-! Whether a list rises. -/
def risesTo (l : List Key) (n : Nat) : Prop := ∀ j x y, j + 1 < n → l[j]? = some x → l[j + 1]? = some y → ltK x y = true
def risingK (l : List Key) : Bool := (List.range (l.length - 1)).all fun j => match l[j]?, l[j + 1]? with | some x, some y => ltK x y | _, _ => true
theorem risingK_true (l : List Key) (h : risesTo l l.length) : risingK l = true := by
  unfold risingK
  rw [List.all_eq_true]
  intro j hj
  have hlt : j < l.length - 1 := List.mem_range.1 hj
  rw [List.getElem?_eq_getElem (by omega), List.getElem?_eq_getElem (by omega)]
  exact h j _ _ (by omega) (List.getElem?_eq_getElem (by omega)) (List.getElem?_eq_getElem (by omega))
theorem risingK_false (l : List Key) (j : Nat) (hj : j + 1 < l.length) (h : ltK l[j] l[j + 1] = false) : risingK l = false := by
  unfold risingK
  rw [List.all_eq_false]
  refine ⟨j, List.mem_range.2 (by omega), ?_⟩
  rw [List.getElem?_eq_getElem (by omega), List.getElem?_eq_getElem hj]
  simp [h]

theorem risesTo_zero (l : List Key) : risesTo l 1 := fun j x y h _ _ => by omega
theorem risesTo_step (l : List Key) (k : Nat) (hk : k + 1 < l.length) (h : risesTo l (k + 1)) (hc : ltK l[k] l[k + 1] = true) : risesTo l (k + 1 + 1) := by
  intro j x y hj hx hy
  by_cases e : j = k
  · subst e
    rw [List.getElem?_eq_getElem (by omega)] at hx hy
    simp only [Option.some.injEq] at hx hy
    rw [← hx, ← hy]
    exact hc
  · exact h j x y (by omega) hx hy

/-! Sorting. -/
def leK (x y : Key) : Bool := !ltK y x
def sortK (l : List Key) : List Key := l.mergeSort leK
theorem leK_trans (x y z : Key) (h1 : leK x y = true) (h2 : leK y z = true) : leK x z = true := by
  unfold leK at *
  simp only [Bool.not_eq_true'] at *
  exact ltK_ntrans z y x h2 h1
theorem leK_total (x y : Key) : (leK x y || leK y x) = true := by
  unfold leK
  rcases cmpK_cases x y with ⟨h, h', _⟩ | ⟨h, h', _⟩ | ⟨_, h, h', _⟩ <;> simp [h, h']
theorem sortK_perm (l : List Key) : (sortK l).Perm l := List.mergeSort_perm l leK
theorem sortK_pairwise (l : List Key) : (sortK l).Pairwise fun x y => leK x y = true := List.pairwise_mergeSort (fun a b c => leK_trans a b c) (fun a b => leK_total a b) l
theorem sortK_length (l : List Key) : (sortK l).length = l.length := (sortK_perm l).length_eq

/-- There is one sorted list of the same keys. -/
theorem sorted_unique : ∀ {a b : List Key}, a.Perm b → a.Pairwise (fun x y => leK x y = true) → b.Pairwise (fun x y => leK x y = true) → a = b
  | [], b, h, _, _ => by simpa using h.symm.eq_nil.symm
  | x :: a, [], h, _, _ => by simpa using h.eq_nil
  | x :: a, y :: b, h, ha, hb => by
    have hx : x = y := by
      rw [List.pairwise_cons] at ha hb
      have h1 : y ∈ x :: a := h.symm.subset (by simp)
      have h2 : x ∈ y :: b := h.subset (by simp)
      by_cases e : x = y
      · exact e
      · have g1 : leK x y = true := ha.1 y (by simpa [Ne.symm e] using h1)
        have g2 : leK y x = true := hb.1 x (by simpa [e] using h2)
        unfold leK at g1 g2
        simp only [Bool.not_eq_true'] at g1 g2
        exact ltK_total x y g2 g1
    subst hx
    rw [List.pairwise_cons] at ha hb
    rw [sorted_unique (List.Perm.cons_inv h) ha.2 hb.2]

theorem sortK_nil : sortK [] = [] := by simp [sortK]
/-- A key brought into a sorted list at its place. -/
theorem sortK_ins (q p : List Key) (x : Key) (k : Nat) (hp : p = sortK q) (hk : k ≤ p.length) (hge : ∀ j y, k ≤ j → p[j]? = some y → ltK x y = true) (hlt : ∀ y, 0 < k → p[k - 1]? = some y → ltK x y = false) :
    p.take k ++ x :: p.drop k = sortK (q ++ [x]) := by
  have hs := sortK_pairwise q
  rw [← hp] at hs
  have hperm : (p.take k ++ x :: p.drop k).Perm (q ++ [x]) := by
    have h1 : (p.take k ++ x :: p.drop k).Perm (x :: (p.take k ++ p.drop k)) := List.perm_middle
    rw [List.take_append_drop] at h1
    refine h1.trans ?_
    have h2 : (x :: p).Perm (x :: q) := by rw [hp]; exact (sortK_perm q).cons x
    exact h2.trans (List.perm_append_singleton x q).symm
  refine sorted_unique (hperm.trans (sortK_perm _).symm) ?_ (sortK_pairwise _)
  have hs2 := hs
  rw [← List.take_append_drop k p, List.pairwise_append] at hs
  rw [List.pairwise_append]
  refine ⟨hs.1, ?_, ?_⟩
  · rw [List.pairwise_cons]
    refine ⟨fun y hy => ?_, hs.2.1⟩
    obtain ⟨j, hj⟩ := List.getElem?_of_mem hy
    rw [List.getElem?_drop] at hj
    unfold leK
    rw [ltK_asymm _ _ (hge (k + j) y (by omega) hj)]
    rfl
  · intro a ha b hb
    rcases List.mem_cons.1 hb with rfl | hb
    · obtain ⟨j, hj⟩ := List.getElem?_of_mem ha
      have hjk : j < k := by
        have := (List.getElem?_eq_some_iff.1 hj).1
        simp at this
        omega
      rw [List.getElem?_take, if_pos hjk] at hj
      have hk1 : p[k - 1]? = some (p[k - 1]'(by omega)) := List.getElem?_eq_getElem (by omega)
      have h1 := hlt _ (by omega) hk1
      by_cases e : j = k - 1
      · subst e
        rw [hj] at hk1
        simp only [Option.some.injEq] at hk1
        unfold leK
        rw [hk1, h1]
        rfl
      · obtain ⟨hjl, hje⟩ := List.getElem?_eq_some_iff.1 hj
        have h2 := List.pairwise_iff_getElem.1 hs2 j (k - 1) hjl (by omega) (by omega)
        rw [hje] at h2
        refine leK_trans _ _ _ h2 ?_
        unfold leK
        rw [h1]
        rfl
    · exact hs.2.2 a ha b hb

/-! A key that is moved ahead in a list, step by step. -/
def insL (p : List Key) (j : Nat) (y : Key) : List Key := p.take j ++ y :: p.drop j
theorem insL_length {p : List Key} {j : Nat} (y : Key) (hj : j ≤ p.length) : (insL p j y).length = p.length + 1 := by simp [insL]; omega
theorem insL_end (p : List Key) (y : Key) : insL p p.length y = p ++ [y] := by simp [insL]
theorem insL_get {p : List Key} {j : Nat} (y : Key) (hj : j ≤ p.length) (t : Nat) : (insL p j y)[t]? = if t < j then p[t]? else if t = j then some y else p[t - 1]? := by
  unfold insL
  by_cases h : t < j
  · rw [if_pos h, List.getElem?_append_left (by simp; omega), List.getElem?_take, if_pos h]
  · rw [if_neg h, List.getElem?_append_right (by simp; omega)]
    have e : t - (p.take j).length = t - j := by simp; omega
    rw [e]
    by_cases h2 : t = j
    · rw [if_pos h2, show t - j = 0 by omega]; rfl
    · rw [if_neg h2, show t - j = (t - j - 1) + 1 by omega, List.getElem?_cons_succ, List.getElem?_drop]
      congr 1
      omega
theorem insL_set {p : List Key} {j : Nat} (y x : Key) (hj : j ≤ p.length) : (insL p j y).set j x = insL p j x := by
  apply List.ext_getElem?
  intro t
  rw [insL_get x hj]
  by_cases h : t = j
  · subst h
    rw [List.getElem?_set_self (by rw [insL_length y hj]; omega)]
    simp
  · rw [List.getElem?_set_ne (by omega), insL_get y hj]
    simp [h]
theorem insL_step {p : List Key} {t : Nat} (y : Key) (ht : t < p.length) : (insL p (t + 1) y).set (t + 1) p[t] = insL p t p[t] := by
  apply List.ext_getElem?
  intro i
  rw [insL_get _ (by omega)]
  by_cases h : i = t + 1
  · subst h
    rw [List.getElem?_set_self (by rw [insL_length y (by omega)]; omega), if_neg (by omega), if_neg (by omega), Nat.add_sub_cancel, List.getElem?_eq_getElem ht]
  · rw [List.getElem?_set_ne (by omega), insL_get y (by omega)]
    by_cases h1 : i < t
    · rw [if_pos (by omega), if_pos h1]
    · by_cases h2 : i = t
      · subst h2
        rw [if_pos (by omega), if_neg (by omega), if_pos rfl, List.getElem?_eq_getElem ht]
      · rw [if_neg (by omega), if_neg h, if_neg h1, if_neg h2]

/-- What stands behind is no less than what stands ahead. -/
theorem sortK_le (l : List Key) (i j : Nat) (x y : Key) (hij : i ≤ j) (hx : (sortK l)[i]? = some x) (hy : (sortK l)[j]? = some y) : ltK y x = false := by
  obtain ⟨hi, rfl⟩ := List.getElem?_eq_some_iff.1 hx
  obtain ⟨hj, rfl⟩ := List.getElem?_eq_some_iff.1 hy
  by_cases e : i = j
  · subst e; exact ltK_irrefl _
  · have := List.pairwise_iff_getElem.1 (sortK_pairwise l) i j hi hj (by omega)
    unfold leK at this
    simpa using this
/-- The place of a sorted key's first occurrence. -/
theorem placeK_sorted (l : List Key) (i : Nat) (x : Key) (hx : (sortK l)[i]? = some x) (hf : ∀ y, 0 < i → (sortK l)[i - 1]? = some y → y ≠ x) : placeK l x = i := by
  rw [← placeK_perm (sortK_perm l)]
  obtain ⟨hi, _⟩ := List.getElem?_eq_some_iff.1 hx
  have e : (sortK l) = (sortK l).take i ++ (sortK l).drop i := (List.take_append_drop _ _).symm
  unfold placeK
  rw [e, List.filter_append, List.length_append]
  have h1 : ((sortK l).take i).filter (fun y => ltK y x) = (sortK l).take i := by
    rw [List.filter_eq_self]
    intro y hy
    obtain ⟨j, hj⟩ := List.getElem?_of_mem hy
    have hji : j < i := by
      have := (List.getElem?_eq_some_iff.1 hj).1
      simp at this
      omega
    rw [List.getElem?_take, if_pos hji] at hj
    have hk : (sortK l)[i - 1]? = some ((sortK l)[i - 1]'(by omega)) := List.getElem?_eq_getElem (by omega)
    have hne := hf _ (by omega) hk
    have g1 := sortK_le l (i - 1) i _ _ (by omega) hk hx
    have g2 : ltK ((sortK l)[i - 1]'(by omega)) x = true := by
      cases h : ltK ((sortK l)[i - 1]'(by omega)) x
      · exact absurd (ltK_total _ _ h g1) hne
      · rfl
    have g3 := sortK_le l j (i - 1) _ _ (by omega) hj hk
    cases h : ltK y x
    · have := ltK_ntrans _ _ _ g3 h
      rw [g2] at this
      cases this
    · rfl
  have h2 : ((sortK l).drop i).filter (fun y => ltK y x) = [] := by
    rw [List.filter_eq_nil_iff]
    intro y hy
    obtain ⟨j, hj⟩ := List.getElem?_of_mem hy
    rw [List.getElem?_drop] at hj
    have := sortK_le l i (i + j) _ _ (by omega) hx hj
    simp [this]
  rw [h1, h2]
  simp
  omega
end Go.Proofs.YtlegknboccbdpaaDoor.OM

/- Seeking, in plain arithmetic: what a seeker asks for, and what it becomes. No program is named. -/
namespace Go.Proofs.YtlegknboccbdpaaDoor.KM
open DM PM CM Runs
open Go.RowKit (wrap64)

/-- The slot of a reference. -/
def idx (r : Int) : Int := r % 4294967296 / 2
/-- A seeker: its step (0 done, 1 a level begins, 2 looks, 3 cuts, 4 weighs, 5 numbers), its level, where it is, and what was found, from the highest level on. -/
structure St where
  st : Int
  lv : Int
  pr : Int
  cu : Int
  nx : Int
  ps : List Int
  ss : List Int
/-- On at the level below lv. -/
def desc (lv pr cu nx : Int) (ps ss : List Int) : St := if lv ≤ 0 then ⟨0, lv, pr, cu, nx, ps, ss⟩ else ⟨1, lv - 1, pr, cu, nx, ps, ss⟩
/-- Anew, of L levels. -/
def anew (L cu nx : Int) : St := desc L 0 cu nx [] []
def find (lv pr cu nx : Int) (ps ss : List Int) (x : Int) : St := desc lv pr cu nx (ps ++ [pr]) (ss ++ [x])
def reach (lv pr cu nx : Int) (ps ss : List Int) (r : Int) : St := if idx r = 0 then find lv pr cu nx ps ss 0 else ⟨2, lv, pr, r, nx, ps, ss⟩
def pass (lv pr cu nx : Int) (ps ss : List Int) (b : Bool) : St := if b then reach lv cu cu nx ps ss nx else find lv pr cu nx ps ss cu
def seekA (T L : Int) (s : St) : Option D :=
  if s.st = 1 then some (1, nextI T L (idx s.pr) s.lv, 0, 0, s.pr) else if s.st = 2 then some (1, nextI T L (idx s.cu) s.lv, 0, 0, s.cu) else if s.st = 3 then some (3, nextI T L (idx s.pr) s.lv, s.cu, s.nx, s.pr) else
  if s.st = 4 then some (1, atI T L (idx s.cu) 1, 0, 0, s.cu) else if s.st = 5 then some (1, atI T L (idx s.cu) 2, 0, 0, s.cu) else none
def seekT (L dl sq : Int) (s : St) (f : Int) : St :=
  if s.st = 1 then (if f % 2 = 1 then anew L s.cu s.nx else reach s.lv s.pr s.cu s.nx s.ps s.ss f) else
  if s.st = 2 then ⟨if f % 2 = 1 then 3 else 4, s.lv, s.pr, s.cu, f - f % 2, s.ps, s.ss⟩ else
  if s.st = 3 then (if f = s.cu then reach s.lv s.pr s.cu s.nx s.ps s.ss s.nx else anew L s.cu s.nx) else
  if s.st = 4 then (if wrap64 f = dl then ⟨5, s.lv, s.pr, s.cu, s.nx, s.ps, s.ss⟩ else pass s.lv s.pr s.cu s.nx s.ps s.ss (decide (wrap64 f < dl))) else
  if s.st = 5 then pass s.lv s.pr s.cu s.nx s.ps s.ss (decide (f < sq)) else s
/-- What it tells: ahead of the end nothing. -/
def predsL (s : St) : List Int := if s.st = 0 then s.ps.reverse else []
def succsL (s : St) : List Int := if s.st = 0 then s.ss.reverse else []

section
variable {T L dl sq lv pr cu nx f r : Int} {ps ss : List Int} {b : Bool}
theorem desc_end (h : lv ≤ 0) : desc lv pr cu nx ps ss = ⟨0, lv, pr, cu, nx, ps, ss⟩ := if_pos h
theorem desc_on (h : ¬ lv ≤ 0) : desc lv pr cu nx ps ss = ⟨1, lv - 1, pr, cu, nx, ps, ss⟩ := if_neg h
theorem reach_none (h : idx r = 0) : reach lv pr cu nx ps ss r = find lv pr cu nx ps ss 0 := if_pos h
theorem reach_some (h : ¬ idx r = 0) : reach lv pr cu nx ps ss r = ⟨2, lv, pr, r, nx, ps, ss⟩ := if_neg h
theorem pass_yes : pass lv pr cu nx ps ss true = reach lv cu cu nx ps ss nx := if_pos rfl
theorem pass_no : pass lv pr cu nx ps ss false = find lv pr cu nx ps ss cu := if_neg (by simp)
theorem seekA_0 : seekA T L ⟨0, lv, pr, cu, nx, ps, ss⟩ = none := by simp [seekA]
theorem seekA_1 : seekA T L ⟨1, lv, pr, cu, nx, ps, ss⟩ = some (1, nextI T L (idx pr) lv, 0, 0, pr) := by simp [seekA]
theorem seekA_2 : seekA T L ⟨2, lv, pr, cu, nx, ps, ss⟩ = some (1, nextI T L (idx cu) lv, 0, 0, cu) := by simp [seekA]
theorem seekA_3 : seekA T L ⟨3, lv, pr, cu, nx, ps, ss⟩ = some (3, nextI T L (idx pr) lv, cu, nx, pr) := by simp [seekA]
theorem seekA_4 : seekA T L ⟨4, lv, pr, cu, nx, ps, ss⟩ = some (1, atI T L (idx cu) 1, 0, 0, cu) := by simp [seekA]
theorem seekA_5 : seekA T L ⟨5, lv, pr, cu, nx, ps, ss⟩ = some (1, atI T L (idx cu) 2, 0, 0, cu) := by simp [seekA]
theorem seekT_0 : seekT L dl sq ⟨0, lv, pr, cu, nx, ps, ss⟩ f = ⟨0, lv, pr, cu, nx, ps, ss⟩ := by simp [seekT]
theorem seekT_1m (h : f % 2 = 1) : seekT L dl sq ⟨1, lv, pr, cu, nx, ps, ss⟩ f = anew L cu nx := by simp [seekT, h]
theorem seekT_1 (h : ¬ f % 2 = 1) : seekT L dl sq ⟨1, lv, pr, cu, nx, ps, ss⟩ f = reach lv pr cu nx ps ss f := by simp [seekT, h]
theorem seekT_2m (h : f % 2 = 1) : seekT L dl sq ⟨2, lv, pr, cu, nx, ps, ss⟩ f = ⟨3, lv, pr, cu, f - f % 2, ps, ss⟩ := by simp [seekT, h]
theorem seekT_2 (h : ¬ f % 2 = 1) : seekT L dl sq ⟨2, lv, pr, cu, nx, ps, ss⟩ f = ⟨4, lv, pr, cu, f - f % 2, ps, ss⟩ := by simp [seekT, h]
theorem seekT_3 : seekT L dl sq ⟨3, lv, pr, cu, nx, ps, ss⟩ cu = reach lv pr cu nx ps ss nx := by simp [seekT]
theorem seekT_3n (h : ¬ f = cu) : seekT L dl sq ⟨3, lv, pr, cu, nx, ps, ss⟩ f = anew L cu nx := by simp [seekT, h]
theorem seekT_4e (h : wrap64 f = dl) : seekT L dl sq ⟨4, lv, pr, cu, nx, ps, ss⟩ f = ⟨5, lv, pr, cu, nx, ps, ss⟩ := by simp [seekT, h]
theorem seekT_4 (h : ¬ wrap64 f = dl) (hb : b = decide (wrap64 f < dl)) : seekT L dl sq ⟨4, lv, pr, cu, nx, ps, ss⟩ f = pass lv pr cu nx ps ss b := by subst hb; simp [seekT, h]
theorem seekT_5 (hb : b = decide (f < sq)) : seekT L dl sq ⟨5, lv, pr, cu, nx, ps, ss⟩ f = pass lv pr cu nx ps ss b := by subst hb; simp [seekT]
end

/-- Such a seeker as there can be, told k words at most. -/
structure Ok (k : Nat) (s : St) : Prop where
  st : s.st = 0 ∨ s.st = 1 ∨ s.st = 2 ∨ s.st = 3 ∨ s.st = 4 ∨ s.st = 5
  lv : s.lv ≤ 9223372036854775807
  pr : 0 ≤ s.pr ∧ s.pr < 18446744073709551616
  cu : 0 ≤ s.cu ∧ s.cu < 18446744073709551616
  nx : 0 ≤ s.nx ∧ s.nx < 18446744073709551616
  len : s.ss.length = s.ps.length
  few : s.ps.length ≤ k
theorem Ok.up {k k' : Nat} {s : St} (h : Ok k s) (hk : k ≤ k') : Ok k' s := ⟨h.st, h.lv, h.pr, h.cu, h.nx, h.len, Nat.le_trans h.few hk⟩
section
variable {k : Nat} {lv pr cu nx r : Int} {ps ss : List Int} {b : Bool}
theorem desc_ok (hl : lv ≤ 9223372036854775807) (hp : 0 ≤ pr ∧ pr < 18446744073709551616) (hc : 0 ≤ cu ∧ cu < 18446744073709551616) (hn : 0 ≤ nx ∧ nx < 18446744073709551616) (he : ss.length = ps.length) (hk : ps.length ≤ k) : Ok k (desc lv pr cu nx ps ss) := by
  unfold desc
  split
  · exact ⟨.inl rfl, hl, hp, hc, hn, he, hk⟩
  · exact ⟨.inr (.inl rfl), by show lv - 1 ≤ _; omega, hp, hc, hn, he, hk⟩
theorem anew_ok {L : Int} (hl : L ≤ 9223372036854775807) (hc : 0 ≤ cu ∧ cu < 18446744073709551616) (hn : 0 ≤ nx ∧ nx < 18446744073709551616) : Ok k (anew L cu nx) :=
  desc_ok hl (by omega) hc hn rfl (Nat.zero_le _)
theorem find_ok {x : Int} (hl : lv ≤ 9223372036854775807) (hp : 0 ≤ pr ∧ pr < 18446744073709551616) (hc : 0 ≤ cu ∧ cu < 18446744073709551616) (hn : 0 ≤ nx ∧ nx < 18446744073709551616) (he : ss.length = ps.length) (hk : ps.length ≤ k) : Ok (k + 1) (find lv pr cu nx ps ss x) :=
  desc_ok hl hp hc hn (by simp [he]) (by simp; omega)
theorem reach_ok (hl : lv ≤ 9223372036854775807) (hp : 0 ≤ pr ∧ pr < 18446744073709551616) (hc : 0 ≤ cu ∧ cu < 18446744073709551616) (hn : 0 ≤ nx ∧ nx < 18446744073709551616) (he : ss.length = ps.length) (hk : ps.length ≤ k) (hr : 0 ≤ r ∧ r < 18446744073709551616) : Ok (k + 1) (reach lv pr cu nx ps ss r) := by
  unfold reach
  split
  · exact find_ok hl hp hc hn he hk
  · exact ⟨.inr (.inr (.inl rfl)), hl, hp, hr, hn, he, Nat.le_succ_of_le hk⟩
theorem pass_ok (hl : lv ≤ 9223372036854775807) (hp : 0 ≤ pr ∧ pr < 18446744073709551616) (hc : 0 ≤ cu ∧ cu < 18446744073709551616) (hn : 0 ≤ nx ∧ nx < 18446744073709551616) (he : ss.length = ps.length) (hk : ps.length ≤ k) : Ok (k + 1) (pass lv pr cu nx ps ss b) := by
  unfold pass
  split
  · exact reach_ok hl hc hc hn he hk hn
  · exact find_ok hl hp hc hn he hk
end
theorem seekT_ok {k : Nat} {L dl sq f : Int} {s : St} (h : Ok k s) (hL : L ≤ 9223372036854775807) (hf : 0 ≤ f ∧ f < 18446744073709551616) : Ok (k + 1) (seekT L dl sq s f) := by
  obtain ⟨h1, h2, h3, h4, h5, h6, h7⟩ := id h
  unfold seekT
  split
  · split
    · exact anew_ok hL h4 h5
    · exact reach_ok h2 h3 h4 h5 h6 h7 hf
  · split
    · exact ⟨by simp only; split <;> simp, h2, h3, h4, by simp only; omega, h6, Nat.le_succ_of_le h7⟩
    · split
      · split
        · exact reach_ok h2 h3 h4 h5 h6 h7 h5
        · exact anew_ok hL h4 h5
      · split
        · split
          · exact ⟨by simp, h2, h3, h4, h5, h6, Nat.le_succ_of_le h7⟩
          · exact pass_ok h2 h3 h4 h5 h6 h7
        · split
          · exact pass_ok h2 h3 h4 h5 h6 h7
          · exact h.up (Nat.le_succ _)
end Go.Proofs.YtlegknboccbdpaaDoor.KM

/- All words' places of a plan as a list: how many there are, that each is below that, and that no two are one. No program is named. -/
namespace Go.Proofs.YtlegknboccbdpaaDoor.PM
open Go.RowKit

/-- Where the k-th word of a slot is. -/
def atN (T L i k : Nat) : Nat := 4 + 3 * T + L + (i - 1) * (6 + L) + k
def nextN (T L i k : Nat) : Nat := if i = 0 then 4 + 3 * T + k else atN T L i (6 + k)
def thN (T t : Nat) : List Nat := [4 + t, 4 + T + t, 4 + 2 * T + t]
def waysN (T L i k : Nat) : List Nat := (List.range k).map (nextN T L i)
def ownN (T L i : Nat) : List Nat := if i = 0 then [] else [atN T L i 0, atN T L i 1, atN T L i 2, atN T L i 3, atN T L i 4, atN T L i 5]
def slN (T L i : Nat) : List Nat := waysN T L i L ++ ownN T L i
def headN (T t : Nat) : List Nat := [0, 1, 2, 3] ++ (List.range t).flatMap (thN T)
def sumN (T L i : Nat) : List Nat := headN T T ++ (List.range i).flatMap (slN T L)
def allN (T S L : Nat) : List Nat := sumN T L (S + 1)
def wordsN (T S L : Nat) : Nat := 4 + 3 * T + L + S * (6 + L)

theorem head_succ (T t : Nat) : headN T (t + 1) = headN T t ++ thN T t := by simp [headN, List.range_succ, List.flatMap_append]
theorem sum_succ (T L i : Nat) : sumN T L (i + 1) = sumN T L i ++ slN T L i := by simp [sumN, List.range_succ, List.flatMap_append]
theorem ways_succ (T L i k : Nat) : waysN T L i (k + 1) = waysN T L i k ++ [nextN T L i k] := by simp [waysN, List.range_succ]
theorem sum_zero (T L : Nat) : sumN T L 0 = headN T T := by simp [sumN]
theorem head_zero (T : Nat) : headN T 0 = [0, 1, 2, 3] := by simp [headN]
theorem ways_zero (T L i : Nat) : waysN T L i 0 = [] := by simp [waysN]
theorem own_zero (T L : Nat) : ownN T L 0 = [] := if_pos rfl
theorem own_some (T L i : Nat) (h : ¬ i = 0) : ownN T L i = [atN T L i 0, atN T L i 1, atN T L i 2, atN T L i 3, atN T L i 4, atN T L i 5] := if_neg h

theorem head_length (T : Nat) : ∀ t, (headN T t).length = 4 + 3 * t
  | 0 => by rw [head_zero]; rfl
  | t + 1 => by rw [head_succ, List.length_append, head_length T t]; simp [thN]; omega
theorem ways_length (T L i k : Nat) : (waysN T L i k).length = k := by simp [waysN]
theorem sum_length (T L : Nat) : ∀ i, (sumN T L (i + 1)).length = 4 + 3 * T + L + i * (6 + L)
  | 0 => by rw [sum_succ, sum_zero, List.length_append, head_length]; simp [slN, ways_length, own_zero]
  | i + 1 => by
    rw [sum_succ, List.length_append, sum_length T L i]
    simp [slN, ways_length, own_some, Nat.add_mul]
    omega
theorem all_length (T S L : Nat) : (allN T S L).length = wordsN T S L := sum_length T L S

/-! In order: what stands ahead is less. -/
theorem head_lt (T : Nat) : ∀ t, t ≤ T → ∀ x ∈ headN T t, x < 4 + 3 * T
  | 0, _, x, hx => by rw [head_zero] at hx; simp at hx; omega
  | t + 1, ht, x, hx => by
    rw [head_succ, List.mem_append] at hx
    rcases hx with hx | hx
    · exact head_lt T t (by omega) x hx
    · simp [thN] at hx; omega
theorem mem_head (T t x : Nat) : x ∈ headN T t ↔ x < 4 ∨ ∃ s, s < t ∧ (x = 4 + s ∨ x = 4 + T + s ∨ x = 4 + 2 * T + s) := by
  simp only [headN, List.mem_append, List.mem_flatMap, List.mem_range, thN, List.mem_cons, List.not_mem_nil, or_false]
  constructor
  · rintro (h | ⟨s, hs, h⟩)
    · exact .inl (by omega)
    · exact .inr ⟨s, hs, h⟩
  · rintro (h | ⟨s, hs, h⟩)
    · exact .inl (by omega)
    · exact .inr ⟨s, hs, h⟩
theorem head_nodup (T : Nat) : ∀ t, t ≤ T → (headN T t).Nodup
  | 0, _ => by rw [head_zero]; decide
  | t + 1, ht => by
    rw [head_succ, List.nodup_append]
    refine ⟨head_nodup T t (by omega), ?_, ?_⟩
    · simp [thN]; omega
    · intro a ha b hb
      rw [mem_head] at ha
      simp only [thN, List.mem_cons, List.not_mem_nil, or_false] at hb
      rcases ha with h | ⟨s, hs, h⟩ <;> omega
theorem mem_sl {T L i x : Nat} (h : x ∈ slN T L i) : (i = 0 ∧ 4 + 3 * T ≤ x ∧ x < 4 + 3 * T + L) ∨ (0 < i ∧ 4 + 3 * T + L + (i - 1) * (6 + L) ≤ x ∧ x < 4 + 3 * T + L + i * (6 + L)) := by
  simp only [slN, List.mem_append, waysN, List.mem_map, List.mem_range, nextN, atN] at h
  by_cases hi : i = 0
  · subst hi
    rcases h with ⟨k, hk, rfl⟩ | h
    · left; simp; omega
    · simp [own_zero] at h
  · right
    have e : i * (6 + L) = (i - 1) * (6 + L) + (6 + L) := by rw [← Nat.succ_mul]; congr 1; omega
    rcases h with ⟨k, hk, rfl⟩ | h
    · rw [if_neg hi]; omega
    · rw [own_some T L i hi] at h
      simp only [atN, List.mem_cons, List.not_mem_nil, or_false] at h
      omega
theorem ways_nodup (T L i : Nat) : ∀ k, (waysN T L i k).Nodup
  | 0 => by rw [ways_zero]; exact List.nodup_nil
  | k + 1 => by
    rw [ways_succ, List.nodup_append]
    refine ⟨ways_nodup T L i k, by simp, ?_⟩
    intro a ha b hb
    simp only [waysN, List.mem_map, List.mem_range] at ha
    obtain ⟨j, hj, rfl⟩ := ha
    simp only [List.mem_cons, List.not_mem_nil, or_false] at hb
    subst hb
    unfold nextN atN
    split <;> omega
theorem sl_nodup (T L i : Nat) : (slN T L i).Nodup := by
  unfold slN
  rw [List.nodup_append]
  refine ⟨ways_nodup T L i L, ?_, ?_⟩
  · by_cases hi : i = 0
    · subst hi; rw [own_zero]; exact List.nodup_nil
    · rw [own_some T L i hi]; simp [atN]
  · intro a ha b hb
    by_cases hi : i = 0
    · subst hi; simp [own_zero] at hb
    · rw [own_some T L i hi] at hb
      simp only [waysN, List.mem_map, List.mem_range, nextN, if_neg hi, atN] at ha
      obtain ⟨k, hk, rfl⟩ := ha
      simp only [atN, List.mem_cons, List.not_mem_nil, or_false] at hb
      omega
theorem sum_lt (T L : Nat) : ∀ i, ∀ x ∈ sumN T L (i + 1), x < 4 + 3 * T + L + i * (6 + L)
  | 0, x, hx => by
    rw [sum_succ, sum_zero, List.mem_append] at hx
    rcases hx with hx | hx
    · have := head_lt T T (Nat.le_refl _) x hx; omega
    · rcases mem_sl hx with h | h <;> omega
  | i + 1, x, hx => by
    rw [sum_succ, List.mem_append] at hx
    have e : (i + 1) * (6 + L) = i * (6 + L) + (6 + L) := Nat.succ_mul _ _
    rcases hx with hx | hx
    · have := sum_lt T L i x hx; omega
    · rcases mem_sl hx with h | h
      · omega
      · omega
theorem sum_nodup (T L : Nat) : ∀ i, (sumN T L (i + 1)).Nodup
  | 0 => by
    rw [sum_succ, sum_zero, List.nodup_append]
    refine ⟨head_nodup T T (Nat.le_refl _), sl_nodup T L 0, ?_⟩
    intro a ha b hb
    have h1 := head_lt T T (Nat.le_refl _) a ha
    rcases mem_sl hb with h | h <;> omega
  | i + 1 => by
    rw [sum_succ, List.nodup_append]
    refine ⟨sum_nodup T L i, sl_nodup T L (i + 1), ?_⟩
    intro a ha b hb
    have h1 := sum_lt T L i a ha
    rcases mem_sl hb with h | h
    · omega
    · simp at h; omega
theorem all_lt (T S L x : Nat) (h : x ∈ allN T S L) : x < wordsN T S L := sum_lt T L S x h
theorem all_nodup (T S L : Nat) : (allN T S L).Nodup := sum_nodup T L S

/-! As the numbers that the program reckons. -/
theorem of_cast {T n t : Nat} (h1 : n * T ≤ 100000) (h2 : t ≤ 100000) : ofI (T : Int) (n : Int) (t : Int) = ((4 + n * T + t : Nat) : Int) := by
  unfold ofI
  rw [wrap_in (by have : ((n : Int) * (T : Int)) = ((n * T : Nat) : Int) := by simp
                  rw [this]; omega)]
  simp
theorem slot_small {L i : Nat} (hi : i ≤ 100) (hL : L ≤ 100) : (i - 1) * (6 + L) ≤ 10600 := by
  have := Nat.mul_le_mul (show i - 1 ≤ 100 by omega) (show 6 + L ≤ 106 by omega)
  omega
theorem at_cast {T L i k : Nat} (hT : T ≤ 100) (hL : L ≤ 100) (hi : i ≤ 100) (h1 : 1 ≤ i) (hk : k ≤ 1000) : atI (T : Int) (L : Int) (i : Int) (k : Int) = (atN T L i k : Int) := by
  have hs := slot_small hi hL
  have e : ((i : Int) - 1) * (6 + (L : Int)) = (((i - 1) * (6 + L) : Nat) : Int) := by
    rw [Int.natCast_mul, Int.natCast_add, Int.ofNat_sub h1]; rfl
  unfold atI atN
  rw [e, wrap_in (by omega)]
  omega
theorem next_cast {T L i k : Nat} (hT : T ≤ 100) (hL : L ≤ 100) (hi : i ≤ 100) (hk : k ≤ 900) : nextI (T : Int) (L : Int) (i : Int) (k : Int) = (nextN T L i k : Int) := by
  unfold nextI nextN
  by_cases h : i = 0
  · subst h
    rw [if_pos (by rfl), if_pos rfl]
    exact of_cast (n := 3) (by omega) (by omega)
  · rw [if_neg (by omega), if_neg h]
    have := at_cast hT hL hi (by omega) (show 6 + k ≤ 1000 by omega)
    rw [← this]
    rfl
theorem words_cast {T S L : Nat} (hT : T ≤ 100) (hL : L ≤ 100) (hS : S ≤ 99) : atI (T : Int) (L : Int) (wrap64 ((S : Int) + 1)) 0 = (wordsN T S L : Int) := by
  rw [wrap_in (by omega)]
  have h := at_cast (i := S + 1) (k := 0) hT hL (by omega) (by omega) (by omega)
  simp only [Int.natCast_add, Int.natCast_one] at h
  rw [show ((0 : Nat) : Int) = 0 from rfl] at h
  rw [h]
  simp [atN, wordsN]
theorem words_small {T S L : Nat} (hT : T ≤ 8) (hS : S ≤ 64) (hL : L ≤ 8) : wordsN T S L ≤ 4096 := by
  have := Nat.mul_le_mul hS (show 6 + L ≤ 14 by omega)
  unfold wordsN
  omega

/-- Which places have been met. -/
def seenL (l : List Nat) (m n : Nat) : List Bool := (List.range n).map fun v => decide (v ∈ l.take m)
theorem seen_length (l : List Nat) (m n : Nat) : (seenL l m n).length = n := by simp [seenL]
theorem seen_zero (l : List Nat) (n : Nat) : seenL l 0 n = List.replicate n false := by
  apply List.ext_getElem?
  intro i
  simp [seenL, List.getElem?_replicate]
  by_cases h : i < n <;> simp [h]
theorem seen_get {l : List Nat} (hd : l.Nodup) {m n : Nat} (hm : m < l.length) (hx : l[m] < n) : (seenL l m n)[l[m]]? = some false := by
  have hn : l[m] ∉ l.take m := by
    intro hmem
    obtain ⟨j, hj, he⟩ := List.mem_take_iff_getElem.1 hmem
    have hjm : j < m := by omega
    have := (List.getElem_inj (h₀ := by omega) (h₁ := hm) hd).1 he
    omega
  simp [seenL, hx, hn]
theorem seen_step {l : List Nat} {m n : Nat} (hm : m < l.length) (hx : l[m] < n) : (seenL l m n).set l[m] true = seenL l (m + 1) n := by
  apply List.ext_getElem?
  intro i
  rw [List.getElem?_set, seen_length]
  by_cases e : l[m] = i
  · subst e
    rw [if_pos rfl, if_pos hx]
    simp [seenL, hx, List.take_add_one]
  · rw [if_neg e]
    have hi : (i ∈ l.take (m + 1)) ↔ (i ∈ l.take m) := by
      rw [List.take_add_one, List.mem_append]
      simp [List.getElem?_eq_getElem hm, Ne.symm e]
    by_cases h : i < n
    · simp [seenL, h, hi]
    · simp [seenL, h]
end Go.Proofs.YtlegknboccbdpaaDoor.PM

/- The memory at the beginning, and the free slots that any words tell, in plain lists. No program is named. -/
namespace Go.Proofs.YtlegknboccbdpaaDoor.BM
open Go.RowKit PM CM

/-! Words. -/
theorem get_other {l : List Int} {i j v : Int} (h : i ≠ j) : getI (setI l i v) j = getI l j := by
  by_cases hi : there l i
  · by_cases hj : there l j
    · obtain ⟨a, rfl, ha⟩ := there_nat hi
      obtain ⟨b, rfl, hb⟩ := there_nat hj
      rw [setI_in ha, getI_some (List.getElem?_eq_getElem hb)]
      refine getI_some ?_
      rw [List.getElem?_set_ne (by omega)]
      exact List.getElem?_eq_getElem hb
    · rw [getI_out hj]
      refine getI_out fun h2 => hj ?_
      unfold there at h2 ⊢
      rwa [setI_length] at h2
  · rw [setI_out hi]

/-- All words are such as there can be. -/
def Fits (l : List Int) : Prop := ∀ x ∈ l, 0 ≤ x ∧ x < 18446744073709551616
theorem fits_get {l : List Int} (h : Fits l) (i : Int) : 0 ≤ getI l i ∧ getI l i < 18446744073709551616 := by
  by_cases hi : there l i
  · obtain ⟨a, rfl, ha⟩ := there_nat hi
    rw [getI_some (List.getElem?_eq_getElem ha)]
    exact h _ (List.getElem_mem ha)
  · rw [getI_out hi]
    omega
theorem fits_set {l : List Int} (h : Fits l) (i : Int) {v : Int} (hv : 0 ≤ v ∧ v < 18446744073709551616) : Fits (setI l i v) := by
  unfold setI
  split
  · intro x hx
    rcases List.mem_or_eq_of_mem_set hx with h1 | h1
    · exact h x h1
    · rw [h1]; exact hv
  · exact h

/-! Where a slot's words are. -/
theorem at_less {T L i j a b : Nat} (hi : 1 ≤ i) (h : i < j) (ha : a ≤ 5) : atN T L i a < atN T L j b := by
  have h1 := Nat.mul_le_mul_right (6 + L) (show i ≤ j - 1 by omega)
  have e : i * (6 + L) = (i - 1) * (6 + L) + (6 + L) := by rw [← Nat.succ_mul]; congr 1; omega
  unfold atN
  omega
theorem at_apart {T L i j a b : Nat} (hi : 1 ≤ i) (hj : 1 ≤ j) (ha : a ≤ 5) (hb : b ≤ 5) (h : ¬ (i = j ∧ a = b)) : atN T L i a ≠ atN T L j b := by
  by_cases e : i = j
  · subst e
    unfold atN
    omega
  · rcases Nat.lt_or_gt_of_ne e with h1 | h1
    · have := at_less (T := T) (L := L) (b := b) hi h1 ha
      omega
    · have := at_less (T := T) (L := L) (b := a) hj h1 hb
      omega
theorem at_in {T S L i a : Nat} (hi : 1 ≤ i) (h : i ≤ S) (ha : a ≤ 5) : 4 ≤ atN T L i a ∧ atN T L i a < wordsN T S L := by
  have h1 := Nat.mul_le_mul_right (6 + L) h
  have e : i * (6 + L) = (i - 1) * (6 + L) + (6 + L) := by rw [← Nat.succ_mul]; congr 1; omega
  unfold atN wordsN
  omega
theorem at_nat {T S L i a : Nat} (hT : T ≤ 8) (hS : S ≤ 64) (hL : L ≤ 8) (hi : 1 ≤ i) (h : i ≤ S) (ha : a ≤ 5) : ∃ n : Nat, atI (T : Int) (L : Int) (i : Int) (a : Int) = (n : Int) ∧ n = atN T L i a ∧ 4 ≤ n ∧ n < wordsN T S L :=
  ⟨_, at_cast (by omega) (by omega) (by omega) hi (by omega), rfl, at_in hi h ha⟩

/-! The memory at the beginning. -/
/-- What is below a slot of S. -/
def belowI (S i : Int) : Int := if i < S then i + 1 else 0
theorem below_some {S i : Int} (h : i < S) : belowI S i = i + 1 := if_pos h
theorem below_none {S i : Int} (h : ¬ i < S) : belowI S i = 0 := if_neg h
/-- All words 0, but for the epoch and the stack's head. -/
def headL (n : Nat) : List Int := setI (setI (List.replicate n 0) 0 1) 3 1
/-- So, with the first slots free. -/
def layL (n : Nat) (T S L g : Int) : Nat → List Int
  | 0 => headL n
  | k + 1 => setI (setI (layL n T S L g k) (atI T L ((k : Int) + 1) 0) g) (atI T L ((k : Int) + 1) 5) (belowI S ((k : Int) + 1))
theorem lay_zero (n : Nat) (T S L g : Int) : layL n T S L g 0 = headL n := rfl
theorem lay_succ (n : Nat) (T S L g : Int) (k : Nat) : layL n T S L g (k + 1) = setI (setI (layL n T S L g k) (atI T L ((k : Int) + 1) 0) g) (atI T L ((k : Int) + 1) 5) (belowI S ((k : Int) + 1)) := rfl
theorem head_len (n : Nat) : (headL n).length = n := by unfold headL; rw [setI_length, setI_length, List.length_replicate]
theorem lay_length (n : Nat) (T S L g : Int) : ∀ k, (layL n T S L g k).length = n
  | 0 => head_len n
  | k + 1 => by rw [lay_succ, setI_length, setI_length, lay_length n T S L g k]
theorem fits_head (n : Nat) : Fits (headL n) := by
  refine fits_set (fits_set ?_ _ (by omega)) _ (by omega)
  intro x hx
  rw [List.eq_of_mem_replicate hx]
  omega
theorem fits_lay {S g : Int} (n : Nat) (T L : Int) (hg : 0 ≤ g ∧ g < 18446744073709551616) (hS : S ≤ 64) : ∀ k, Fits (layL n T S L g k)
  | 0 => fits_head n
  | k + 1 => by
    rw [lay_succ]
    refine fits_set (fits_set (fits_lay n T L hg hS k) _ hg) _ ?_
    unfold belowI
    split <;> omega

/-- The head leads to slot 1. -/
theorem head_get {n : Nat} (h : 4 ≤ n) : getI (headL n) 3 = 1 := by
  unfold headL
  refine get_set ?_ 1
  unfold there
  rw [setI_length, List.length_replicate]
  omega
theorem lay_head {T S L : Nat} (g : Int) (hT : T ≤ 8) (hS : S ≤ 64) (hL : L ≤ 8) : ∀ k, k ≤ S → getI (layL (wordsN T S L) T S L g k) 3 = 1
  | 0, _ => head_get (by unfold wordsN; omega)
  | k + 1, hk => by
    obtain ⟨a, ha, _, ha4, _⟩ := at_nat (a := 0) hT hS hL (show 1 ≤ k + 1 by omega) hk (by omega)
    obtain ⟨b, hb, _, hb4, _⟩ := at_nat (a := 5) hT hS hL (show 1 ≤ k + 1 by omega) hk (by omega)
    simp only [Int.natCast_add, Int.natCast_one] at ha hb
    change atI T L ((k : Int) + 1) 0 = _ at ha
    change atI T L ((k : Int) + 1) 5 = _ at hb
    rw [lay_succ, ha, hb, get_other (by omega), get_other (by omega)]
    exact lay_head g hT hS hL k (by omega)
/-- What a slot's word Succ holds. -/
theorem lay_get {T S L : Nat} (g : Int) (hT : T ≤ 8) (hS : S ≤ 64) (hL : L ≤ 8) {i : Nat} (hi : 1 ≤ i) (hiS : i ≤ S) : ∀ k, k ≤ S → getI (layL (wordsN T S L) T S L g k) (atI T L (i : Int) 5) = if i ≤ k then belowI S (i : Int) else 0
  | 0, _ => by
    obtain ⟨a, ha, _, ha4, hal⟩ := at_nat (a := 5) hT hS hL hi hiS (by omega)
    change atI T L (i : Int) 5 = _ at ha
    rw [ha, if_neg (by omega), lay_zero]
    unfold headL
    rw [get_other (by omega), get_other (by omega)]
    exact getI_some (by rw [List.getElem?_replicate, if_pos hal])
  | k + 1, hk => by
    obtain ⟨a, ha, ea, ha4, hal⟩ := at_nat (a := 5) hT hS hL hi hiS (by omega)
    obtain ⟨b, hb, eb, hb4, hbl⟩ := at_nat (a := 0) hT hS hL (show 1 ≤ k + 1 by omega) hk (by omega)
    obtain ⟨c, hc, ec, hc4, hcl⟩ := at_nat (a := 5) hT hS hL (show 1 ≤ k + 1 by omega) hk (by omega)
    have ih := lay_get g hT hS hL hi hiS k (by omega)
    simp only [Int.natCast_add, Int.natCast_one] at hb hc
    change atI T L (i : Int) 5 = _ at ha
    change atI T L ((k : Int) + 1) 0 = _ at hb
    change atI T L ((k : Int) + 1) 5 = _ at hc
    rw [ha] at ih
    rw [lay_succ, ha, hb, hc]
    by_cases e : i = k + 1
    · subst e
      have eac : a = c := by omega
      subst eac
      rw [get_set ?_, if_pos (by omega)]
      · simp
      · unfold there
        rw [setI_length, lay_length]
        omega
    · have n1 : atN T L (k + 1) 5 ≠ atN T L i 5 := at_apart (by omega) hi (by omega) (by omega) (by omega)
      have n2 : atN T L (k + 1) 0 ≠ atN T L i 5 := at_apart (by omega) hi (by omega) (by omega) (by omega)
      rw [get_other (by omega), get_other (by omega), ih]
      by_cases h2 : i ≤ k
      · rw [if_pos h2, if_pos (by omega)]
      · rw [if_neg h2, if_neg (by omega)]
/-- Below the last slot there is none: its word Succ is 0 as it is. -/
theorem lay_last {T S L : Nat} (g : Int) (hT : T ≤ 8) (hS : S ≤ 64) (hL : L ≤ 8) (k : Nat) (h : k + 1 = S) :
    layL (wordsN T S L) T S L g (k + 1) = setI (layL (wordsN T S L) T S L g k) (atI T L ((k : Int) + 1) 0) g := by
  have h0 := lay_get g hT hS hL (i := k + 1) (by omega) (by omega) k (by omega)
  obtain ⟨b, hb, eb, hb4, hbl⟩ := at_nat (a := 0) hT hS hL (show 1 ≤ k + 1 by omega) (show k + 1 ≤ S by omega) (by omega)
  obtain ⟨c, hc, ec, hc4, hcl⟩ := at_nat (a := 5) hT hS hL (show 1 ≤ k + 1 by omega) (show k + 1 ≤ S by omega) (by omega)
  simp only [Int.natCast_add, Int.natCast_one] at hb hc h0
  change atI T L ((k : Int) + 1) 0 = _ at hb
  change atI T L ((k : Int) + 1) 5 = _ at hc
  rw [if_neg (by omega), hc] at h0
  have n1 : atN T L (k + 1) 0 ≠ atN T L (k + 1) 5 := at_apart (by omega) (by omega) (by omega) (by omega) (by omega)
  rw [lay_succ, hb, hc, below_none (by omega)]
  have h1 : getI (setI (layL (wordsN T S L) T S L g k) (b : Int) g) (c : Int) = 0 := by rw [get_other (by omega)]; exact h0
  have h2 := set_get (setI (layL (wordsN T S L) T S L g k) (b : Int) g) (c : Int)
  rwa [h1] at h2

/-! The free slots. -/
/-- From a list on, by what is below each slot. -/
def goF (S : Int) (nx : Int → Int) : Nat → List Int → Int → List Int
  | 0, out, _ => out
  | f + 1, out, b => if 1 ≤ b ∧ b ≤ S ∧ b ∉ out then goF S nx f (out ++ [b]) (nx b) else out
theorem go_zero (S : Int) (nx : Int → Int) (out : List Int) (b : Int) : goF S nx 0 out b = out := rfl
theorem go_stop {S : Int} {nx : Int → Int} {f : Nat} {out : List Int} {b : Int} (h : ¬ (1 ≤ b ∧ b ≤ S ∧ b ∉ out)) : goF S nx f out b = out := by
  cases f with
  | zero => rfl
  | succ f => exact if_neg h
theorem go_step {S : Int} {nx : Int → Int} {f : Nat} {out : List Int} {b : Int} (h : 1 ≤ b ∧ b ≤ S ∧ b ∉ out) : goF S nx (f + 1) out b = goF S nx f (out ++ [b]) (nx b) := if_pos h
theorem go_clip {S : Int} (hS : S ≤ 64) (nx : Int → Int) (f : Nat) (out : List Int) {b : Int} (h : ¬ b ≤ 64) : goF S nx f out b = goF S nx f out 0 := by
  rw [go_stop (by omega), go_stop (by omega)]

/-- Slots that there are, no two one. -/
def Good (S : Nat) (out : List Int) : Prop := out.Nodup ∧ ∀ x ∈ out, 1 ≤ x ∧ x ≤ (S : Int)
theorem good_nil (S : Nat) : Good S [] := ⟨List.nodup_nil, by simp⟩
theorem good_snoc {S : Nat} {out : List Int} {b : Int} (h : Good S out) (hb : 1 ≤ b ∧ b ≤ (S : Int) ∧ b ∉ out) : Good S (out ++ [b]) := by
  refine ⟨?_, ?_⟩
  · rw [List.nodup_append]
    refine ⟨h.1, by simp, ?_⟩
    intro x hx y hy e
    simp at hy
    subst hy
    subst e
    exact hb.2.2 hx
  · intro x hx
    rw [List.mem_append] at hx
    rcases hx with hx | hx
    · exact h.2 x hx
    · simp at hx
      subst hx
      exact ⟨hb.1, hb.2.1⟩
theorem good_len : ∀ (S : Nat) (out : List Int), Good S out → out.length ≤ S
  | 0, out, h => by
    cases out with
    | nil => simp
    | cons x l =>
      have := h.2 x (by simp)
      omega
  | S + 1, out, h => by
    have hg : Good S (out.erase ((S : Int) + 1)) := by
      refine ⟨h.1.erase _, fun x hx => ?_⟩
      have h1 := (h.1.mem_erase_iff).1 hx
      have h2 := h.2 x h1.2
      have h3 := h1.1
      omega
    have ih := good_len S _ hg
    by_cases hm : ((S : Int) + 1) ∈ out
    · rw [List.length_erase_of_mem hm] at ih
      omega
    · rw [List.erase_of_not_mem hm] at ih
      omega
/-- Where all stand already, none is left. -/
theorem good_full {S : Nat} {out : List Int} {b : Int} (h : Good S out) (hl : out.length = S) : ¬ (1 ≤ b ∧ b ≤ (S : Int) ∧ b ∉ out) := fun hb => by
  have := good_len S _ (good_snoc h hb)
  simp at this
  omega
theorem go_good {S : Nat} {nx : Int → Int} : ∀ (f : Nat) (out : List Int) (b : Int), Good S out → Good S (goF (S : Int) nx f out b)
  | 0, _, _, h => h
  | f + 1, out, b, h => by
    by_cases hb : 1 ≤ b ∧ b ≤ (S : Int) ∧ b ∉ out
    · rw [go_step hb]
      exact go_good f _ _ (good_snoc h hb)
    · rw [go_stop hb]
      exact h

/-- The free slots that the words tell. -/
def freeL (T : Int) (S : Nat) (L : Int) (l : List Int) : List Int := goF (S : Int) (fun i => getI l (atI T L i 5)) S [] (getI l 3 % 4294967296)
theorem free_length (T : Int) (S : Nat) (L : Int) (l : List Int) : (freeL T S L l).length ≤ S := good_len S _ (go_good _ _ _ (good_nil S))

/-- Slots 1 to k. -/
def firstL (k : Nat) : List Int := (List.range k).map fun i : Nat => (i : Int) + 1
theorem first_succ (k : Nat) : firstL (k + 1) = firstL k ++ [(k : Int) + 1] := by simp [firstL, List.range_succ]
theorem first_length (k : Nat) : (firstL k).length = k := by simp [firstL]
theorem first_get {k i : Nat} (h : i < k) : (firstL k)[i]? = some ((i : Int) + 1) := by simp [firstL, h]
theorem first_not (k : Nat) : ((k : Int) + 1) ∉ firstL k := by
  intro h
  simp only [firstL, List.mem_map, List.mem_range] at h
  obtain ⟨i, hi, e⟩ := h
  omega
theorem go_first {S : Nat} {nx : Int → Int} (hn : ∀ i : Nat, 1 ≤ i → i ≤ S → nx (i : Int) = belowI (S : Int) (i : Int)) : ∀ (f k : Nat), k + f = S → goF (S : Int) nx f (firstL k) (if k < S then (k : Int) + 1 else 0) = firstL S
  | 0, k, h => by
    rw [go_zero]
    congr 1
  | f + 1, k, h => by
    rw [if_pos (by omega), go_step ⟨by omega, by omega, first_not k⟩, ← first_succ]
    have h1 := hn (k + 1) (by omega) (by omega)
    have ih := go_first hn f (k + 1) (by omega)
    rw [Int.natCast_add, Int.natCast_one] at h1
    rw [h1]
    by_cases h2 : k + 1 < S
    · rw [below_some (by omega)]
      rw [if_pos h2] at ih
      simpa using ih
    · rw [below_none (by omega)]
      rwa [if_neg h2] at ih
/-- At the beginning each slot is free once. -/
theorem free_all {T S L : Nat} (g : Int) (hT : T ≤ 8) (hS1 : 1 ≤ S) (hS : S ≤ 64) (hL : L ≤ 8) : freeL (T : Int) S (L : Int) (layL (wordsN T S L) T S L g S) = firstL S := by
  have h := go_first (S := S) (nx := fun i => getI (layL (wordsN T S L) T S L g S) (atI T L i 5)) (fun i h1 h2 => by
    show getI _ (atI T L (i : Int) 5) = _
    rw [lay_get g hT hS hL h1 h2 S (Nat.le_refl _), if_pos h2]) S 0 (by omega)
  rw [if_pos (by omega)] at h
  unfold freeL
  rw [lay_head g hT hS hL S (Nat.le_refl _)]
  exact h
end Go.Proofs.YtlegknboccbdpaaDoor.BM

/- Deeds whose numbers are those of Go's kinds. No program is named. -/
namespace Go.Proofs.YtlegknboccbdpaaDoor.DM
/-- What a deed's numbers are. -/
def Fits (x : D) : Prop := (-9223372036854775808 ≤ x.2.1 ∧ x.2.1 ≤ 9223372036854775807) ∧ (0 ≤ x.2.2.1 ∧ x.2.2.1 < 18446744073709551616) ∧ (0 ≤ x.2.2.2.1 ∧ x.2.2.2.1 < 18446744073709551616) ∧ 0 ≤ x.2.2.2.2 ∧ x.2.2.2.2 < 18446744073709551616
theorem fits_kind {k k' i a b y : Int} (h : Fits (k, i, a, b, y)) : Fits (k', i, a, b, y) := h
end Go.Proofs.YtlegknboccbdpaaDoor.DM

/- Deeds done to words such as there can be; the memory at the beginning, word by word. No program is named. -/
namespace Go.Proofs.YtlegknboccbdpaaDoor.MM
open DM PM CM BM

theorem fits_next {l : List Int} {d : D} (h : BM.Fits l) (hd : DM.Fits d) : BM.Fits (nextD l d) := by
  obtain ⟨kd, i, a, b, y⟩ := d
  obtain ⟨h1, h2, h3, h4⟩ := hd
  simp only at h2 h3
  by_cases e1 : kd = 1
  · subst e1; rw [nextD_1]; exact h
  by_cases e2 : kd = 2
  · subst e2; rw [nextD_2]; exact fits_set h _ h2
  by_cases e3 : kd = 3
  · subst e3; rw [nextD_3]; unfold swapI; split
    · exact fits_set h _ h3
    · exact h
  by_cases e4 : kd = 4
  · subst e4; rw [nextD_4]; unfold addI; exact fits_set h _ (by omega)
  rw [nextD_no (by simp only; omega)]
  exact h
theorem fits_found {l : List Int} (h : BM.Fits l) (d : D) : 0 ≤ foundD l d ∧ foundD l d < 18446744073709551616 := by
  unfold foundD
  split
  · exact fits_get h _
  · omega
theorem wrap_lo (z : Int) : -9223372036854775808 ≤ Go.RowKit.wrap64 z ∧ Go.RowKit.wrap64 z ≤ 9223372036854775807 := by unfold Go.RowKit.wrap64; omega
theorem at_fits (T L s k : Int) : -9223372036854775808 ≤ atI T L s k ∧ atI T L s k ≤ 9223372036854775807 := wrap_lo _
theorem of_fits (T n k : Int) : -9223372036854775808 ≤ ofI T n k ∧ ofI T n k ≤ 9223372036854775807 := wrap_lo _
theorem next_fits (T L s k : Int) : -9223372036854775808 ≤ PM.nextI T L s k ∧ PM.nextI T L s k ≤ 9223372036854775807 := by
  unfold PM.nextI
  split
  · exact of_fits _ _ _
  · exact at_fits _ _ _ _
theorem swap_is {l : List Int} (i b : Int) : swapI l i (getI l i) b = setI l i b := if_pos rfl
theorem swap_no {l : List Int} {i a b : Int} (h : ¬ getI l i = a) : swapI l i a b = l := if_neg h

/-- What stands outside of the slots at the beginning: nothing but the epoch and the stack's head. -/
theorem lay_low {T S L : Nat} (g : Int) (hT : T ≤ 8) (hS : S ≤ 64) (hL : L ≤ 8) {j : Nat} (h0 : j ≠ 0) (h3 : j ≠ 3) (hj : j < 4 + 3 * T + L) : ∀ k, k ≤ S → getI (layL (wordsN T S L) T S L g k) (j : Int) = 0
  | 0, _ => by
    rw [lay_zero]
    unfold headL
    rw [get_other (by omega), get_other (by omega)]
    exact getI_some (by rw [List.getElem?_replicate, if_pos (by unfold wordsN; omega)])
  | k + 1, hk => by
    obtain ⟨b, hb, eb, _, _⟩ := at_nat (a := 0) hT hS hL (show 1 ≤ k + 1 by omega) hk (by omega)
    obtain ⟨c, hc, ec, _, _⟩ := at_nat (a := 5) hT hS hL (show 1 ≤ k + 1 by omega) hk (by omega)
    simp only [Int.natCast_add, Int.natCast_one] at hb hc
    change atI T L ((k : Int) + 1) 0 = _ at hb
    change atI T L ((k : Int) + 1) 5 = _ at hc
    have b1 : 4 + 3 * T + L ≤ b := by rw [eb]; unfold atN; omega
    have c1 : 4 + 3 * T + L ≤ c := by rw [ec]; unfold atN; omega
    rw [lay_succ, hb, hc, get_other (by omega), get_other (by omega)]
    exact lay_low g hT hS hL h0 h3 hj k (by omega)
/-- Where a thread's words are. -/
theorem of_nat {T S L n k : Nat} (hT : T ≤ 8) (hn : n ≤ 2) (hk : k < T) : ofI (T : Int) (n : Int) (k : Int) = ((4 + n * T + k : Nat) : Int) ∧ 4 ≤ 4 + n * T + k ∧ 4 + n * T + k < 4 + 3 * T + L ∧ 4 + n * T + k < wordsN T S L := by
  have h1 : n * T ≤ 2 * T := Nat.mul_le_mul_right _ hn
  have h2 : 2 * T ≤ 16 := by omega
  exact ⟨of_cast (by omega) (by omega), by omega, by omega, by unfold wordsN; omega⟩
theorem there_in {l : List Int} {T S L j : Nat} (hl : l.length = wordsN T S L) (hj : j < wordsN T S L) : there l (j : Int) := by
  unfold there
  omega
end Go.Proofs.YtlegknboccbdpaaDoor.MM

/- The chains that words tell, in plain lists: which references each has, which of them have no mark, what there is to find for a key. No program is named. -/
namespace Go.Proofs.YtlegknboccbdpaaDoor.KM
open DM PM CM BM OM Runs
open Go.RowKit (wrap64)
set_option linter.unusedVariables false
set_option linter.unusedSimpArgs false

theorem idx_lo (r : Int) : 0 ≤ idx r := by unfold idx; omega
theorem idx_zero : idx 0 = 0 := rfl
def plainI (r : Int) : Int := r - r % 2
theorem plain_even (r : Int) : plainI r % 2 = 0 := by unfold plainI; omega

/-! Words. -/
/-- A way on. -/
def wayI (T L : Int) (m : List Int) (r h : Int) : Int := getI m (nextI T L (idx r) h)
/-- A timer's place in the order. -/
def keyI (T L : Int) (m : List Int) (r : Int) : Key := (wrap64 (getI m (atI T L (idx r) 1)), getI m (atI T L (idx r) 2))
theorem key_same {T L : Int} {m : List Int} {a b : Int} (h : idx a = idx b) : keyI T L m a = keyI T L m b := by unfold keyI; rw [h]
theorem way_same {T L : Int} {m : List Int} {a b h : Int} (e : idx a = idx b) : wayI T L m a h = wayI T L m b h := by unfold wayI; rw [e]

section
variable (nx : Int → Int) (key : Int → Key) (N : Int)
/-- Does a chain stop ahead of r? -/
def bars (out : List Int) (r : Int) : Bool := decide (N < idx r) || (match out.getLast? with
  | none => false
  | some q => !ltK (key q) (key r))
def chainF : Nat → List Int → Int → List Int × Bool
  | 0, out, _ => (out, false)
  | f + 1, out, r => if idx r = 0 then (out, decide (r = 0)) else if bars key N out r = true then (out, false) else chainF f (out ++ [r]) (plainI (nx r))
/-- A chain, from a reference on. -/
def Path : Int → List Int → Prop
  | r, [] => r = 0
  | r, c :: cs => r = c ∧ c % 2 = 0 ∧ 1 ≤ idx c ∧ idx c ≤ N ∧ Path (plainI (nx c)) cs
def Rises (l : List Int) : Prop := l.Pairwise fun a b => ltK (key a) (key b) = true
end
theorem rises_snoc {key : Int → Key} {out : List Int} {r : Int} (h : Rises key out) (hl : ∀ q, out.getLast? = some q → ltK (key q) (key r) = true) : Rises key (out ++ [r]) := by
  rw [Rises, List.pairwise_append]
  refine ⟨h, by simp, fun a ha b hb => ?_⟩
  simp only [List.mem_singleton] at hb
  subst hb
  cases hq : out.getLast? with
  | none => rw [List.getLast?_eq_none_iff] at hq; subst hq; cases ha
  | some q =>
    have h1 := hl q hq
    obtain ⟨ys, rfl⟩ := List.getLast?_eq_some_iff.1 hq
    rw [Rises, List.pairwise_append] at h
    rw [List.mem_append, List.mem_singleton] at ha
    rcases ha with ha | rfl
    · exact ltK_trans _ _ _ (h.2.2 a ha q (by simp)) h1
    · exact h1
theorem bars_no {key : Int → Key} {N : Int} {out : List Int} {r : Int} (h : bars key N out r = false) : idx r ≤ N ∧ ∀ q, out.getLast? = some q → ltK (key q) (key r) = true := by
  unfold bars at h
  rw [Bool.or_eq_false_iff, decide_eq_false_iff_not] at h
  refine ⟨by omega, fun q hq => ?_⟩
  have h2 := h.2
  rw [hq] at h2
  simpa using h2
theorem bars_is {key : Int → Key} {N : Int} {out : List Int} {r : Int} (h1 : idx r ≤ N) (h2 : ∀ q, out.getLast? = some q → ltK (key q) (key r) = true) : bars key N out r = false := by
  unfold bars
  rw [Bool.or_eq_false_iff, decide_eq_false_iff_not]
  refine ⟨by omega, ?_⟩
  cases hq : out.getLast? with
  | none => rfl
  | some q => simp [h2 q hq]
theorem chain_path {nx : Int → Int} {key : Int → Key} {N : Int} : ∀ (f : Nat) (out : List Int) (r : Int) (res : List Int), chainF nx key N f out r = (res, true) → r % 2 = 0 → Rises key out → ∃ cs, res = out ++ cs ∧ Path nx N r cs ∧ Rises key (out ++ cs)
  | 0, out, r, res, h, _, _ => by simp [chainF] at h
  | f + 1, out, r, res, h, he, hr => by
    unfold chainF at h
    split at h
    · simp only [Prod.mk.injEq, decide_eq_true_eq] at h
      exact ⟨[], by rw [List.append_nil, h.1], h.2, by rw [List.append_nil]; exact hr⟩
    · split at h
      · simp at h
      · obtain ⟨h1, h2⟩ := bars_no (by simpa using ‹¬ bars key N out r = true›)
        obtain ⟨cs, e1, e2, e3⟩ := chain_path f _ _ _ h (plain_even _) (rises_snoc hr h2)
        have := idx_lo r
        exact ⟨r :: cs, by rw [e1, List.append_assoc]; rfl, ⟨rfl, he, by omega, h1, e2⟩, by rw [List.append_assoc] at e3; exact e3⟩
theorem path_chain {nx : Int → Int} {key : Int → Key} {N : Int} : ∀ (cs : List Int) (f : Nat) (out : List Int) (r : Int), Path nx N r cs → Rises key (out ++ cs) → cs.length < f → chainF nx key N f out r = (out ++ cs, true)
  | [], f, out, r, hp, hr, hf => by
    obtain ⟨f, rfl⟩ : ∃ f', f = f' + 1 := ⟨f - 1, by simp at hf; omega⟩
    have hp : r = 0 := hp
    subst hp
    unfold chainF
    rw [if_pos idx_zero, List.append_nil]
    rfl
  | c :: cs, f, out, r, hp, hr, hf => by
    obtain ⟨f, rfl⟩ : ∃ f', f = f' + 1 := ⟨f - 1, by simp at hf; omega⟩
    obtain ⟨rfl, h1, h2, h3, h4⟩ := hp
    unfold chainF
    have e : out ++ r :: cs = (out ++ [r]) ++ cs := by rw [List.append_assoc]; rfl
    rw [if_neg (by omega), if_neg, e]
    · rw [e] at hr
      exact path_chain cs f (out ++ [r]) _ h4 hr (by simp at hf; omega)
    · rw [bars_is h3]
      · simp
      · intro q hq
        obtain ⟨ys, rfl⟩ := List.getLast?_eq_some_iff.1 hq
        rw [Rises, List.pairwise_append] at hr
        exact hr.2.2 q (by simp) r (by simp)
theorem path_in {nx : Int → Int} {N : Int} : ∀ (cs : List Int) (r : Int), Path nx N r cs → ∀ c ∈ cs, 1 ≤ idx c ∧ idx c ≤ N ∧ c % 2 = 0
  | [], _, _, c, hc => by cases hc
  | x :: cs, r, hp, c, hc => by
    obtain ⟨rfl, h1, h2, h3, h4⟩ := hp
    rcases List.mem_cons.1 hc with rfl | hc
    · exact ⟨h2, h3, h1⟩
    · exact path_in cs _ h4 c hc
/-- Ways that read the same along it. -/
theorem path_cong {nx nx' : Int → Int} {N : Int} : ∀ (cs : List Int) (r : Int), Path nx N r cs → (∀ c ∈ cs, nx' c = nx c) → Path nx' N r cs
  | [], _, hp, _ => hp
  | x :: cs, r, hp, he => by
    obtain ⟨rfl, h1, h2, h3, h4⟩ := hp
    refine ⟨rfl, h1, h2, h3, ?_⟩
    rw [he r (by simp)]
    exact path_cong cs _ h4 fun c hc => he c (by simp [hc])
/-- A member, and what is behind it. -/
theorem path_split {nx : Int → Int} {N : Int} : ∀ (A : List Int) (r p : Int) (cs : List Int), Path nx N r (A ++ p :: cs) → Path nx N (plainI (nx p)) cs
  | [], r, p, cs, hp => hp.2.2.2.2
  | x :: A, r, p, cs, hp => path_split A _ p cs hp.2.2.2.2
theorem path_join {nx : Int → Int} {N : Int} : ∀ (A : List Int) (r p : Int) (cs cs' : List Int), Path nx N r (A ++ p :: cs) → Path nx N (plainI (nx p)) cs' → Path nx N r (A ++ p :: cs')
  | [], r, p, cs, cs', hp, hq => ⟨hp.1, hp.2.1, hp.2.2.1, hp.2.2.2.1, hq⟩
  | x :: A, r, p, cs, cs', hp, hq => ⟨hp.1, hp.2.1, hp.2.2.1, hp.2.2.2.1, path_join A _ p cs cs' hp.2.2.2.2 hq⟩
/-- In what rises no slot is twice. -/
theorem rises_apart {key : Int → Key} {l : List Int} (h : Rises key l) (hk : ∀ a b, idx a = idx b → key a = key b) : l.Pairwise fun a b => idx a ≠ idx b :=
  List.Pairwise.imp (fun {a b} hab e => by rw [hk a b e, ltK_irrefl] at hab; cases hab) h
theorem rises_few {key : Int → Key} {N : Nat} {l : List Int} (h : Rises key l) (hk : ∀ a b, idx a = idx b → key a = key b) (hl : ∀ c ∈ l, 1 ≤ idx c ∧ idx c ≤ (N : Int)) : l.length ≤ N := by
  have hg : BM.Good N (l.map idx) := by
    refine ⟨?_, fun x hx => ?_⟩
    · rw [List.Nodup, List.pairwise_map]
      exact rises_apart h hk
    · obtain ⟨c, hc, rfl⟩ := List.mem_map.1 hx
      exact hl c hc
  have := good_len N _ hg
  rwa [List.length_map] at this

/-- The chain of a level; does it rise, of slots that there are, to its end? -/
def chainI (T L N : Int) (m : List Int) (h : Int) : List Int × Bool := if wayI T L m 0 h % 2 = 1 then ([], false) else chainF (fun r => wayI T L m r h) (keyI T L m) N (N.toNat + 1) [] (wayI T L m 0 h)
/-- Those of it without a mark. -/
def freeB (T L : Int) (m : List Int) (h r : Int) : Bool := !decide (wayI T L m r h % 2 = 1)
def keptL (T L N : Int) (m : List Int) (h : Int) : List Int := (chainI T L N m h).1.filter (freeB T L m h)
/-- What there is to find in a list: the last one that is less, the first one that is not. -/
def findL (lt : Int → Bool) : List Int → Int → Int × Int
  | [], p => (p, 0)
  | c :: cs, p => if lt c = true then findL lt cs c else (p, c)
/-- All chains rise, and whoever is in one without a mark is so in the one below. -/
def GoodW (T L N : Int) (m : List Int) : Prop := ∀ h : Nat, (h : Int) < L → (chainI T L N m h).2 = true ∧ ∀ g : Nat, h = g + 1 → ∀ r ∈ (chainI T L N m h).1, freeB T L m h r = true → r ∈ (chainI T L N m g).1 ∧ freeB T L m g r = true
def Chain (T L N : Int) (m : List Int) (h : Int) (cs : List Int) : Prop := wayI T L m 0 h % 2 = 0 ∧ Path (fun r => wayI T L m r h) N (wayI T L m 0 h) cs ∧ Rises (keyI T L m) cs
theorem chain_of {T L N : Int} {m : List Int} {h : Int} {cs : List Int} (e : chainI T L N m h = (cs, true)) : Chain T L N m h cs := by
  unfold chainI at e
  split at e
  · simp at e
  · obtain ⟨cs', e1, e2, e3⟩ := chain_path _ _ _ _ e (by omega) List.Pairwise.nil
    rw [List.nil_append] at e1 e3
    subst e1
    exact ⟨by omega, e2, e3⟩
theorem chain_is {T L : Int} {N : Nat} {m : List Int} {h : Int} {cs : List Int} (hN : N ≤ 64) (hc : Chain T L N m h cs) : chainI T L N m h = (cs, true) := by
  obtain ⟨h1, h2, h3⟩ := hc
  unfold chainI
  rw [if_neg (by omega)]
  have := rises_few h3 (fun a b e => key_same e) (fun c hc => ⟨(path_in _ _ h2 c hc).1, (path_in _ _ h2 c hc).2.1⟩)
  have e := path_chain cs ((N : Int).toNat + 1) [] _ h2 (by simpa using h3) (by omega)
  rwa [List.nil_append] at e

/-! Where the ways on are. -/
theorem mul_step {L i j : Nat} (h : i < j) (hi : 1 ≤ i) : (i - 1) * (6 + L) + (6 + L) ≤ (j - 1) * (6 + L) := by
  have h1 := Nat.mul_le_mul_right (6 + L) (show i ≤ j - 1 by omega)
  have e : i * (6 + L) = (i - 1) * (6 + L) + (6 + L) := by rw [← Nat.succ_mul]; congr 1; omega
  omega
theorem next_inj {T L i j h g : Nat} (hh : h < L) (hg : g < L) (e : nextN T L i h = nextN T L j g) : i = j ∧ h = g := by
  unfold nextN atN at e
  split at e <;> split at e
  · omega
  · have := Nat.zero_le ((j - 1) * (6 + L)); omega
  · have := Nat.zero_le ((i - 1) * (6 + L)); omega
  · rcases Nat.lt_trichotomy i j with h1 | h1 | h1
    · have := mul_step (L := L) h1 (by omega); omega
    · subst h1; omega
    · have := mul_step (L := L) h1 (by omega); omega
theorem next_at {T L i j h a : Nat} (hh : h < L) (hj : 1 ≤ j) (ha : a ≤ 5) : nextN T L i h ≠ atN T L j a := by
  intro e
  unfold nextN at e
  split at e
  · unfold atN at e; have := Nat.zero_le ((j - 1) * (6 + L)); omega
  · unfold atN at e
    rcases Nat.lt_trichotomy i j with h1 | h1 | h1
    · have := mul_step (L := L) h1 (by omega); omega
    · subst h1; omega
    · have := mul_step (L := L) h1 (by omega); omega
theorem next_in {T N L i h : Nat} (hi : i ≤ N) (hh : h < L) : nextN T L i h < wordsN T N L := by
  unfold nextN wordsN
  split
  · have := Nat.zero_le (N * (6 + L)); omega
  · unfold atN
    have h1 := Nat.mul_le_mul_right (6 + L) hi
    have e : i * (6 + L) = (i - 1) * (6 + L) + (6 + L) := by rw [← Nat.succ_mul]; congr 1; omega
    omega
section
variable {T N L : Nat}
theorem way_nat (hT : T ≤ 8) (hN : N ≤ 64) (hL : L ≤ 8) {r : Int} {h : Nat} (hr : idx r ≤ (N : Int)) (hh : h < L) : nextI (T : Int) (L : Int) (idx r) (h : Int) = ((nextN T L (idx r).toNat h : Nat) : Int) ∧ nextN T L (idx r).toNat h < wordsN T N L := by
  have h0 := idx_lo r
  refine ⟨?_, next_in (by omega) hh⟩
  have := next_cast (T := T) (L := L) (i := (idx r).toNat) (k := h) (by omega) (by omega) (by omega) (by omega)
  rwa [Int.toNat_of_nonneg h0] at this
theorem key_nat (hT : T ≤ 8) (hN : N ≤ 64) (hL : L ≤ 8) {r : Int} {a : Nat} (h1 : 1 ≤ idx r) (hr : idx r ≤ (N : Int)) (ha : a ≤ 5) : atI (T : Int) (L : Int) (idx r) (a : Int) = ((atN T L (idx r).toNat a : Nat) : Int) := by
  have h0 := idx_lo r
  have := at_cast (T := T) (L := L) (i := (idx r).toNat) (k := a) (by omega) (by omega) (by omega) (by omega) (by omega)
  rwa [Int.toNat_of_nonneg h0] at this
/-- A way on is turned. -/
theorem set_way (hT : T ≤ 8) (hN : N ≤ 64) (hL : L ≤ 8) {m : List Int} (hm : m.length = wordsN T N L) {p r v : Int} {h g : Nat} (hp : idx p ≤ (N : Int)) (hr : idx r ≤ (N : Int)) (hh : h < L) (hg : g < L) :
    wayI T L (setI m (nextI T L (idx p) h) v) r g = if idx r = idx p ∧ g = h then v else wayI T L m r g := by
  obtain ⟨e1, b1⟩ := way_nat hT hN hL hp hh
  obtain ⟨e2, b2⟩ := way_nat hT hN hL hr hg
  unfold wayI
  split
  · obtain ⟨q1, q2⟩ := ‹_›
    subst q2
    rw [q1]
    exact get_set (by rw [e1]; exact MM.there_in hm b1) v
  · refine get_other fun e => ?_
    rw [e1, e2] at e
    have := next_inj hh hg (show nextN T L (idx p).toNat h = nextN T L (idx r).toNat g by omega)
    have z1 := idx_lo r
    have z2 := idx_lo p
    exact absurd (show idx r = idx p ∧ g = h from ⟨by omega, by omega⟩) ‹¬ (idx r = idx p ∧ g = h)›
theorem set_key (hT : T ≤ 8) (hN : N ≤ 64) (hL : L ≤ 8) {m : List Int} {p r v : Int} {h : Nat} (hp : idx p ≤ (N : Int)) (h1 : 1 ≤ idx r) (hr : idx r ≤ (N : Int)) (hh : h < L) :
    keyI T L (setI m (nextI T L (idx p) h) v) r = keyI T L m r := by
  obtain ⟨e1, b1⟩ := way_nat hT hN hL hp hh
  have a1 := key_nat hT hN hL (a := 1) h1 hr (by omega)
  have a2 := key_nat hT hN hL (a := 2) h1 hr (by omega)
  have z1 := idx_lo r
  unfold keyI
  change atI _ _ _ 1 = _ at a1
  change atI _ _ _ 2 = _ at a2
  rw [get_other, get_other]
  · rw [e1, a2]; intro e; exact next_at hh (by omega) (by omega) (show nextN T L (idx p).toNat h = atN T L (idx r).toNat 2 by omega)
  · rw [e1, a1]; intro e; exact next_at hh (by omega) (by omega) (show nextN T L (idx p).toNat h = atN T L (idx r).toNat 1 by omega)
end
theorem find_past (lt : Int → Bool) : ∀ (A : List Int) (p : Int) (B : List Int) (q : Int), (∀ a ∈ A, lt a = true) → lt q = true → findL lt (A ++ q :: B) p = findL lt B q
  | [], p, B, q, _, hq => by rw [List.nil_append]; exact if_pos hq
  | a :: A, p, B, q, hA, hq => by
    show (if lt a = true then _ else _) = _
    rw [if_pos (hA a (by simp))]
    exact find_past lt A a B q (fun x hx => hA x (by simp [hx])) hq
theorem find_cong {lt lt' : Int → Bool} : ∀ (l : List Int) (p : Int), (∀ c ∈ l, lt c = lt' c) → findL lt l p = findL lt' l p
  | [], _, _ => rfl
  | c :: cs, p, h => by
    show (if lt c = true then _ else _) = (if lt' c = true then _ else _)
    rw [h c (by simp), find_cong cs c fun x hx => h x (by simp [hx])]
/-- Where it is found. -/
theorem find_where (lt : Int → Bool) : ∀ (l : List Int) (p : Int), (findL lt l p).1 = p ∨ ((findL lt l p).1 ∈ l ∧ lt (findL lt l p).1 = true)
  | [], _ => .inl rfl
  | c :: cs, p => by
    show (if lt c = true then findL lt cs c else (p, c)).1 = p ∨ _
    by_cases h : lt c = true
    · have e : findL lt (c :: cs) p = findL lt cs c := if_pos h
      rw [e]
      rcases find_where lt cs c with h1 | ⟨h1, h2⟩
      · exact .inr (by rw [h1]; exact ⟨by simp, h⟩)
      · exact .inr ⟨by simp [h1], h2⟩
    · exact .inl (by rw [if_neg h])
end Go.Proofs.YtlegknboccbdpaaDoor.KM

/- A claimer, in plain arithmetic: what it asks for, and what it becomes. No program is named. -/
namespace Go.Proofs.YtlegknboccbdpaaDoor.ClM
set_option maxRecDepth 20000
open DM PM CM KM Runs
set_option linter.unusedVariables false
set_option linter.unusedSimpArgs false

/-- A claimer: whether it is done, whether it was it that took the timer. -/
structure St where
  dn : Bool
  wn : Bool
/-- The generation of a reference. -/
def genI (r : Int) : Int := r / 4294967296
def claimA (T L r : Int) (s : St) : Option D := if s.dn = true then none else some (3, atI T L (idx r) 0, SM.stI (genI r) 2, SM.stI (genI r) 3, 0)
def claimT (r : Int) (s : St) (f : Int) : St := if s.dn = true then s else ⟨true, decide (f = SM.stI (genI r) 2)⟩
/-- Such a claimer as there can be: none has won that is not done. -/
def Ok (s : St) : Prop := s.dn = false → s.wn = false
theorem claimA_done {T L r : Int} {wn : Bool} : claimA T L r ⟨true, wn⟩ = none := rfl
theorem claimA_new {T L r : Int} {wn : Bool} : claimA T L r ⟨false, wn⟩ = some (3, atI T L (idx r) 0, SM.stI (genI r) 2, SM.stI (genI r) 3, 0) := rfl
theorem claimT_done {r f : Int} {wn : Bool} : claimT r ⟨true, wn⟩ f = ⟨true, wn⟩ := rfl
theorem claimT_new {r f : Int} {wn : Bool} : claimT r ⟨false, wn⟩ f = ⟨true, decide (f = SM.stI (genI r) 2)⟩ := rfl
theorem new_ok : Ok ⟨false, false⟩ := fun _ => rfl
theorem claimT_ok {r f : Int} {s : St} (h : Ok s) : Ok (claimT r s f) := by
  obtain ⟨dn, wn⟩ := s
  cases dn
  · intro e; cases e
  · exact h
theorem gen_ok {r : Int} (hr : 0 ≤ r ∧ r < 18446744073709551616) : 0 ≤ genI r ∧ genI r ≤ 4294967295 := by unfold genI; omega
theorem is_live {f g : Int} (hg : g ≤ 4294967295) : SM.isI f g 2 = decide (f = SM.stI g 2) := by
  unfold SM.isI
  by_cases h : f = SM.stI g 2
  · rw [decide_eq_true h, decide_eq_true ⟨hg, by decide, by decide, h⟩]
  · rw [decide_eq_false h, decide_eq_false (fun q => h q.2.2.2)]
theorem claimA_fits {T L r : Int} {s : St} {d : D} (hd : claimA T L r s = some d) : DM.Fits d := by
  have h5 := MM.at_fits T L (idx r) 0
  have h1 := SM.stI_lo (genI r) 2
  have h2 := SM.stI_hi (genI r) 2
  have h3 := SM.stI_lo (genI r) 3
  have h4 := SM.stI_hi (genI r) 3
  unfold claimA at hd
  split at hd
  · cases hd
  · cases hd
    unfold DM.Fits
    simp only
    omega
end Go.Proofs.YtlegknboccbdpaaDoor.ClM

/- Is there something earlier, in plain arithmetic: what a scanner asks for, and what it becomes. No program is named. -/
namespace Go.Proofs.YtlegknboccbdpaaDoor.ScM
set_option maxRecDepth 20000
open DM PM CM KM Runs
open ClM (genI)
open Go.RowKit (wrap64)
set_option linter.unusedVariables false
set_option linter.unusedSimpArgs false

/-- A scanner: its step (0 done, else as the chapter counts them), the timer that it is at, whether something was seen. -/
structure St where
  st : Int
  cu : Int
  sn : Bool
def start : St := ⟨1, 0, false⟩
/-- Step 2. -/
def arrive (s : St) (w : Int) : St := if idx w = 0 then ⟨0, s.cu, s.sn⟩ else ⟨3, plainI w, s.sn⟩
def scanA (T L : Int) (s : St) : Option D :=
  if s.st = 1 then some (1, nextI T L 0 0, 0, 0, 0) else if s.st = 3 then some (1, atI T L (idx s.cu) 1, 0, 0, s.cu) else
  if s.st = 4 then some (1, atI T L (idx s.cu) 0, 0, 0, 0) else if s.st = 5 then some (1, nextI T L (idx s.cu) 0, 0, 0, s.cu) else none
def scanT (limit : Int) (s : St) (f : Int) : St :=
  if s.st = 1 then arrive s f else if s.st = 3 then (if limit ≤ wrap64 f then ⟨0, s.cu, s.sn⟩ else ⟨4, s.cu, s.sn⟩) else
  if s.st = 4 then (if f = SM.stI (genI s.cu) 2 then ⟨0, s.cu, true⟩ else ⟨5, s.cu, s.sn⟩) else if s.st = 5 then arrive s f else s
section
variable {T L limit cu f w : Int} {sn : Bool}
theorem arrive_done {s : St} (h : idx w = 0) : arrive s w = ⟨0, s.cu, s.sn⟩ := if_pos h
theorem arrive_more {s : St} (h : ¬ idx w = 0) : arrive s w = ⟨3, plainI w, s.sn⟩ := if_neg h
theorem scanA_0 : scanA T L ⟨0, cu, sn⟩ = none := by simp [scanA]
theorem scanA_1 : scanA T L ⟨1, cu, sn⟩ = some (1, nextI T L 0 0, 0, 0, 0) := by simp [scanA]
theorem scanA_3 : scanA T L ⟨3, cu, sn⟩ = some (1, atI T L (idx cu) 1, 0, 0, cu) := by simp [scanA]
theorem scanA_4 : scanA T L ⟨4, cu, sn⟩ = some (1, atI T L (idx cu) 0, 0, 0, 0) := by simp [scanA]
theorem scanA_5 : scanA T L ⟨5, cu, sn⟩ = some (1, nextI T L (idx cu) 0, 0, 0, cu) := by simp [scanA]
theorem scanT_0 : scanT limit ⟨0, cu, sn⟩ f = ⟨0, cu, sn⟩ := by simp [scanT]
theorem scanT_1 : scanT limit ⟨1, cu, sn⟩ f = arrive ⟨1, cu, sn⟩ f := by simp [scanT]
theorem scanT_3s (h : limit ≤ wrap64 f) : scanT limit ⟨3, cu, sn⟩ f = ⟨0, cu, sn⟩ := by simp [scanT, h]
theorem scanT_3 (h : ¬ limit ≤ wrap64 f) : scanT limit ⟨3, cu, sn⟩ f = ⟨4, cu, sn⟩ := by simp only [scanT, h]; simp
theorem scanT_4s (h : f = SM.stI (genI cu) 2) : scanT limit ⟨4, cu, sn⟩ f = ⟨0, cu, true⟩ := by simp [scanT, h]
theorem scanT_4 (h : ¬ f = SM.stI (genI cu) 2) : scanT limit ⟨4, cu, sn⟩ f = ⟨5, cu, sn⟩ := by simp only [scanT, h]; simp
theorem scanT_5 : scanT limit ⟨5, cu, sn⟩ f = arrive ⟨5, cu, sn⟩ f := by simp [scanT]
end
/-- Such a scanner as there can be. -/
structure Ok (s : St) : Prop where
  st : s.st = 0 ∨ s.st = 1 ∨ s.st = 3 ∨ s.st = 4 ∨ s.st = 5
  cu : (0 ≤ s.cu ∧ s.cu < 18446744073709551616) ∧ s.cu % 2 = 0
  sn : ¬ s.st = 0 → s.sn = false
theorem start_ok : Ok start := ⟨.inr (.inl rfl), ⟨⟨by decide, by decide⟩, rfl⟩, fun _ => rfl⟩
theorem plain_word {w : Int} (h : 0 ≤ w ∧ w < 18446744073709551616) : (0 ≤ plainI w ∧ plainI w < 18446744073709551616) ∧ plainI w % 2 = 0 := by unfold plainI; omega
theorem arrive_ok {s : St} (h : Ok s) (h0 : ¬ s.st = 0) {w : Int} (hw : 0 ≤ w ∧ w < 18446744073709551616) : Ok (arrive s w) := by
  by_cases e : idx w = 0
  · rw [arrive_done e]; exact ⟨.inl rfl, h.cu, fun z => absurd rfl z⟩
  · rw [arrive_more e]; exact ⟨by simp, plain_word hw, fun _ => h.sn h0⟩
theorem scanT_ok {s : St} (h : Ok s) {limit f : Int} (hf : 0 ≤ f ∧ f < 18446744073709551616) : Ok (scanT limit s f) := by
  obtain ⟨st, cu, sn⟩ := s
  have hu := h
  obtain ⟨q0, q1, q2⟩ := h
  simp only at q0 q1 q2
  rcases q0 with rfl | rfl | rfl | rfl | rfl
  · rw [scanT_0]; exact hu
  · rw [scanT_1]; exact arrive_ok hu (by simp) hf
  · by_cases e : limit ≤ wrap64 f
    · rw [scanT_3s e]; exact ⟨.inl rfl, q1, fun z => absurd rfl z⟩
    · rw [scanT_3 e]; exact ⟨by simp, q1, fun _ => q2 (by simp)⟩
  · by_cases e : f = SM.stI (genI cu) 2
    · rw [scanT_4s e]; exact ⟨.inl rfl, q1, fun z => absurd rfl z⟩
    · rw [scanT_4 e]; exact ⟨by simp, q1, fun _ => q2 (by simp)⟩
  · rw [scanT_5]; exact arrive_ok hu (by simp) hf
theorem scanA_none {T L : Int} {s : St} (h : Ok s) : scanA T L s = none ↔ s.st = 0 := by
  obtain ⟨st, cu, sn⟩ := s
  have h0 := h.st
  simp only at h0
  rcases h0 with rfl | rfl | rfl | rfl | rfl
  · simp [scanA_0]
  · simp [scanA_1]
  · simp [scanA_3]
  · simp [scanA_4]
  · simp [scanA_5]
theorem scanA_fits {T L : Int} {s : St} (h : Ok s) {d : D} (hd : scanA T L s = some d) : DM.Fits d := by
  have h5 := MM.at_fits T L (idx s.cu) 0
  have h6 := MM.at_fits T L (idx s.cu) 1
  have h8 := MM.next_fits T L (idx s.cu) 0
  have h9 := MM.next_fits T L 0 0
  have hc := h.cu
  unfold scanA at hd
  unfold DM.Fits
  repeat' (split at hd; · cases hd; simp only; omega)
  cases hd
end Go.Proofs.YtlegknboccbdpaaDoor.ScM

/- A scanner done alone, where the lowest chain rises: it sees something just if there is a live timer of a deadline below the limit, and turns no word, in plain lists. No program is named. -/
namespace Go.Proofs.YtlegknboccbdpaaDoor.ScM
set_option maxRecDepth 20000
open DM PM CM BM OM KM Runs
open ClM (genI)
open Go.RowKit (wrap64)
set_option linter.unusedVariables false
set_option linter.unusedSimpArgs false

theorem idx_plain (w : Int) : idx (plainI w) = idx w := by unfold idx plainI; omega
/-- Is a reference's slot live, and of its generation? -/
def liveB (T L : Int) (l : List Int) (c : Int) : Bool := decide (getI l (atI T L (idx c) 0) = SM.stI (genI c) 2)
/-- Is one below the limit? (As the law has it: of the first k.) -/
def seesB (T L limit : Int) (l : List Int) (cs : List Int) : Bool := cs.any fun c => liveB T L l c && decide ((keyI T L l c).1 < limit)
theorem sees_take {T L limit : Int} {l cs : List Int} {k : Nat} {y : Int} (hy : cs[k]? = some y) : seesB T L limit l (cs.take (k + 1)) = (seesB T L limit l (cs.take k) || liveB T L l y && decide ((keyI T L l y).1 < limit)) := by
  obtain ⟨hj, rfl⟩ := List.getElem?_eq_some_iff.1 hy
  unfold seesB
  rw [List.take_add_one, List.getElem?_eq_getElem hj, List.any_append]
  simp
theorem ltK_first {a b : OM.Key} (h : ltK a b = true) : a.1 ≤ b.1 := by
  rw [ltK_iff] at h
  omega
theorem sees_none {T L limit : Int} {l : List Int} {c : Int} {cs : List Int} (hr : (c :: cs).Pairwise fun a b => ltK (keyI T L l a) (keyI T L l b) = true) (h : limit ≤ (keyI T L l c).1) : seesB T L limit l (c :: cs) = false := by
  unfold seesB
  rw [List.any_eq_false]
  intro x hx
  have hle : (keyI T L l c).1 ≤ (keyI T L l x).1 := by
    rcases List.mem_cons.1 hx with rfl | hx
    · exact Int.le_refl _
    · exact ltK_first ((List.pairwise_cons.1 hr).1 x hx)
  rw [decide_eq_false (by omega), Bool.and_false]
  simp
/-- From a way on that was just loaded. -/
theorem scan_on {T L : Nat} {N limit : Int} {l : List Int} : ∀ (cs : List Int) (w st cu : Int), Path (fun r => wayI T L l r 0) N (plainI w) cs → (cs.Pairwise fun a b => ltK (keyI T L l a) (keyI T L l b) = true) →
    ∃ k s, k ≤ 3 * cs.length ∧ steps (scanA T L) (scanT limit) k l (arrive ⟨st, cu, false⟩ w) = some (l, s) ∧ s.st = 0 ∧ s.sn = seesB T L limit l cs
  | [], w, st, cu, hp, hr => by
    have hw : idx w = 0 := by rw [← idx_plain, show plainI w = 0 from hp]; rfl
    rw [arrive_done hw]
    exact ⟨0, _, Nat.le_refl _, rfl, rfl, rfl⟩
  | c :: cs, w, st, cu, hp, hr => by
    obtain ⟨hc, he, h1, h2, h3⟩ := hp
    have hwi : idx w = idx c := by rw [← idx_plain, hc]
    rw [arrive_more (by omega), hc]
    have hk1 : wrap64 (getI l (atI T L (idx c) 1)) = (keyI T L l c).1 := rfl
    by_cases hd : limit ≤ (keyI T L l c).1
    · refine ⟨1, ⟨0, c, false⟩, by simp; omega, ?_, rfl, (sees_none hr hd).symm⟩
      rw [steps_more scanA_3, nextD_1, foundD_yes (by simp)]
      simp only
      rw [scanT_3s (by rw [hk1]; exact hd)]
      rfl
    · by_cases hlv : getI l (atI T L (idx c) 0) = SM.stI (genI c) 2
      · refine ⟨1 + 1, ⟨0, c, true⟩, by simp; omega, ?_, rfl, ?_⟩
        · rw [steps_more scanA_3, nextD_1, foundD_yes (by simp)]
          simp only
          rw [scanT_3 (by rw [hk1]; exact hd), show (1 : Nat) = 0 + 1 from rfl, steps_more scanA_4, nextD_1, foundD_yes (by simp)]
          simp only
          rw [scanT_4s hlv]
          rfl
        · unfold seesB
          rw [List.any_cons, show liveB T L l c = true from decide_eq_true hlv, decide_eq_true (by omega)]
          rfl
      · obtain ⟨k, s, q1, q2, q3, q4⟩ := scan_on cs (wayI T L l c 0) 5 c h3 (List.pairwise_cons.1 hr).2
        refine ⟨k + 1 + 1 + 1, s, by simp; omega, ?_, q3, ?_⟩
        · rw [steps_more scanA_3, nextD_1, foundD_yes (by simp)]
          simp only
          rw [scanT_3 (by rw [hk1]; exact hd), steps_more scanA_4, nextD_1, foundD_yes (by simp)]
          simp only
          rw [scanT_4 hlv, steps_more scanA_5, nextD_1, foundD_yes (by simp)]
          simp only
          rw [scanT_5]
          exact q2
        · rw [q4]
          unfold seesB
          rw [List.any_cons, show liveB T L l c = false from decide_eq_false hlv]
          rfl
/-- From the beginning. -/
theorem scan_alone {T N L : Nat} {l : List Int} {limit : Int} (hN : N ≤ 64) {cl : List Int} (hc : chainI T L N l 0 = (cl, true)) :
    ∃ k s, k ≤ 200 ∧ steps (scanA T L) (scanT limit) k l start = some (l, s) ∧ scanA T L s = none ∧ s.st = 0 ∧ s.sn = seesB T L limit l cl := by
  obtain ⟨c1, c2, c3⟩ := chain_of hc
  have hpl : plainI (wayI T L l 0 0) = wayI T L l 0 0 := by unfold plainI; omega
  have hfew : cl.length ≤ N := rises_few c3 (fun a b e => key_same e) (fun c hc => ⟨(path_in _ _ c2 c hc).1, (path_in _ _ c2 c hc).2.1⟩)
  obtain ⟨k, s, q1, q2, q3, q4⟩ := scan_on (T := T) (N := N) (L := L) (l := l) (limit := limit) cl (wayI T L l 0 0) 1 0 (by rw [hpl]; exact c2) c3
  refine ⟨k + 1, s, by omega, ?_, ?_, q3, q4⟩
  · unfold start
    rw [steps_more scanA_1, nextD_1, foundD_yes (by simp)]
    simp only
    rw [scanT_1]
    exact q2
  · obtain ⟨st, cu, sn⟩ := s
    obtain rfl : st = 0 := q3
    exact scanA_0
end Go.Proofs.YtlegknboccbdpaaDoor.ScM
