import Derived.Lib.Hide
import Derived.Lib.ItoaNum
import Derived.Lib.ItoaLen
import Derived.Lib.Join
import Derived.IntWalk
/- A list of words as a memory, in plain arithmetic: what is found at a place, what stands there behind each access. No program is named. -/
namespace Go.Proofs.YtafjokjmogadnaaGreatDoor.CM

/-- Is there a word at that place? -/
def there (l : List Int) (i : Int) : Prop := 0 ≤ i ∧ i < l.length
instance (l : List Int) (i : Int) : Decidable (there l i) := inferInstanceAs (Decidable (_ ∧ _))
theorem there_nat {l : List Int} {i : Int} (h : there l i) : ∃ j : Nat, i = (j : Int) ∧ j < l.length := by
  obtain ⟨h0, h1⟩ := h
  exact ⟨i.toNat, by omega, by omega⟩

def getI (l : List Int) (i : Int) : Int := if there l i then l.getD i.toNat 0 else 0
def setI (l : List Int) (i v : Int) : List Int := if there l i then l.set i.toNat v else l
def swapI (l : List Int) (i a b : Int) : List Int := if getI l i = a then setI l i b else l
def addI (l : List Int) (i a : Int) : List Int := setI l i ((getI l i + a) % 18446744073709551616)

theorem getI_some {l : List Int} {j : Nat} {x : Int} (h : l[j]? = some x) : getI l (j : Int) = x := by
  have hj := (List.getElem?_eq_some_iff.1 h).1
  unfold getI
  rw [if_pos (show there l (j : Int) from ⟨by omega, by omega⟩)]
  simp [List.getD, h]
theorem getI_out {l : List Int} {i : Int} (h : ¬ there l i) : getI l i = 0 := if_neg h
theorem setI_in {l : List Int} {j : Nat} (h : j < l.length) (v : Int) : setI l (j : Int) v = l.set j v := by
  unfold setI
  rw [if_pos (show there l (j : Int) from ⟨by omega, by omega⟩)]
  simp
theorem setI_out {l : List Int} {i : Int} (h : ¬ there l i) (v : Int) : setI l i v = l := if_neg h
theorem setI_length (l : List Int) (i v : Int) : (setI l i v).length = l.length := by
  unfold setI
  split <;> simp
theorem swapI_length (l : List Int) (i a b : Int) : (swapI l i a b).length = l.length := by
  unfold swapI
  split
  · exact setI_length _ _ _
  · rfl
theorem addI_length (l : List Int) (i a : Int) : (addI l i a).length = l.length := setI_length _ _ _

/-- What stands behind an access (2 a store, 3 a swap, 4 an addition, else a load). -/
def nextI (l : List Int) (x : Int × Int × Int × Int) : List Int :=
  if x.1 = 2 then setI l x.2.1 x.2.2.1 else if x.1 = 3 then swapI l x.2.1 x.2.2.1 x.2.2.2 else if x.1 = 4 then addI l x.2.1 x.2.2.1 else l
theorem nextI_length (l : List Int) (x : Int × Int × Int × Int) : (nextI l x).length = l.length := by
  unfold nextI
  split
  · exact setI_length _ _ _
  · split
    · exact swapI_length _ _ _ _
    · split
      · exact addI_length _ _ _
      · rfl
theorem nextI_out {l : List Int} {x : Int × Int × Int × Int} (h : ¬ there l x.2.1) : nextI l x = l := by
  unfold nextI swapI addI
  simp [setI_out h]

theorem get_set {l : List Int} {i : Int} (h : there l i) (v : Int) : getI (setI l i v) i = v := by
  obtain ⟨j, rfl, hj⟩ := there_nat h
  rw [setI_in hj]
  exact getI_some (by simp [hj])
theorem set_set {l : List Int} (i u v : Int) : setI (setI l i u) i v = setI l i v := by
  by_cases h : there l i
  · obtain ⟨j, rfl, hj⟩ := there_nat h
    rw [setI_in hj, setI_in hj, setI_in (by simpa using hj)]
    simp
  · rw [setI_out h u]
theorem set_get (l : List Int) (i : Int) : setI l i (getI l i) = l := by
  by_cases h : there l i
  · obtain ⟨j, rfl, hj⟩ := there_nat h
    rw [setI_in hj, getI_some (List.getElem?_eq_getElem hj)]
    simp
  · exact setI_out h _
theorem there_set {l : List Int} {i v : Int} (h : there l i) : there (setI l i v) i := by
  unfold there
  rw [setI_length]
  exact h
end Go.Proofs.YtafjokjmogadnaaGreatDoor.CM

/- States of slots in plain arithmetic: the word of a generation and a status, the next one, its text. Nothing of the program is named here. -/
namespace SM
/-- The word of which the halves are the lowest 32 bits of both. -/
def stI (g s : Int) : Int := g % 4294967296 * 4294967296 + s % 4294967296
def isI (v g s : Int) : Bool := decide (g ≤ 4294967295 ∧ 0 ≤ s ∧ s ≤ 4 ∧ v = stI g s)
def nextI (v : Int) : Int := if v / 4294967296 = 4294967295 then stI 4294967295 4 else stI (v / 4294967296 + 1) 0
theorem stI_lo (g s : Int) : 0 ≤ stI g s := by unfold stI; omega
theorem stI_hi (g s : Int) : stI g s < 18446744073709551616 := by unfold stI; omega
theorem nextI_lo (v : Int) : 0 ≤ nextI v := by unfold nextI; split <;> exact stI_lo _ _
theorem nextI_hi (v : Int) : nextI v < 18446744073709551616 := by unfold nextI; split <;> exact stI_hi _ _
theorem stI_gen {g s : Int} (h0 : 0 ≤ g) (h1 : g ≤ 4294967295) : stI g s / 4294967296 = g := by unfold stI; omega
theorem stI_status {g s : Int} (h0 : 0 ≤ s) (h1 : s ≤ 4294967295) : stI g s % 4294967296 = s := by unfold stI; omega
theorem is_parts {v g s : Int} (h0 : 0 ≤ v) (h1 : v < 18446744073709551616) (g0 : 0 ≤ g) (hg : g ≤ 4294967295) (s0 : 0 ≤ s) (s1 : s ≤ 4) : (v = stI g s) ↔ (v / 4294967296 = g ∧ v % 4294967296 = s) := by
  unfold stI; omega

/-- A number's digits. -/
def decI (u : Int) : List UInt8 := Go.Lib.decDigits u.toNat
theorem decI_nat (u : Nat) : decI u = Go.Lib.decDigits u := rfl
/-- What a status is called. -/
def calledI (s : Int) : List UInt8 := if s = 0 then [102, 114, 101, 101] else if s = 1 then [109, 97, 107, 105, 110, 103] else if s = 2 then [108, 105, 118, 101] else if s = 3 then [116, 97, 107, 101, 110] else if s = 4 then [103, 111, 110, 101] else decI s
def wordsL : List (List UInt8) := [[102, 114, 101, 101], [109, 97, 107, 105, 110, 103], [108, 105, 118, 101], [116, 97, 107, 101, 110], [103, 111, 110, 101]]
def textI (v : Int) : List UInt8 := decI (v / 4294967296) ++ [32] ++ calledI (v % 4294967296)
theorem called_digits {s : Int} (h : 4 < s) : calledI s = decI s := by
  unfold calledI
  rw [if_neg (by omega), if_neg (by omega), if_neg (by omega), if_neg (by omega), if_neg (by omega)]
theorem words_at (s : Nat) (h : s < 5) : wordsL[s]? = some (calledI s) := by
  match s, h with
  | 0, _ => rfl
  | 1, _ => rfl
  | 2, _ => rfl
  | 3, _ => rfl
  | 4, _ => rfl
end SM
namespace SM
theorem is_st {g s og os : Int} (g0 : 0 ≤ g) (g1 : g ≤ 4294967295) (s0 : 0 ≤ s) (s1 : s ≤ 4) (h0 : 0 ≤ og) : isI (stI g s) og os = decide (g = og ∧ s = os) := by
  unfold isI
  by_cases h : og ≤ 4294967295 ∧ 0 ≤ os ∧ os ≤ 4
  · obtain ⟨h1, h2, h3⟩ := h
    have : (stI g s = stI og os) ↔ (g = og ∧ s = os) := by unfold stI; omega
    rw [Bool.eq_iff_iff]
    simp only [decide_eq_true_eq, this]
    omega
  · rw [Bool.eq_iff_iff]
    simp only [decide_eq_true_eq]
    omega
theorem is_out {v g s : Int} (h : ¬ (g ≤ 4294967295 ∧ 0 ≤ s ∧ s ≤ 4)) : isI v g s = false := by
  unfold isI
  rw [decide_eq_false]
  exact fun x => h ⟨x.1, x.2.1, x.2.2.1⟩
theorem next_last {v : Int} (h : v / 4294967296 = 4294967295) : nextI v = stI 4294967295 4 := if_pos h
theorem next_gen {v : Int} (h0 : 0 ≤ v) (h1 : v < 18446744073709551616) (h : v / 4294967296 ≠ 4294967295) : nextI v / 4294967296 = v / 4294967296 + 1 := by
  rw [nextI, if_neg h]; unfold stI; omega
theorem next_status {v : Int} (h : v / 4294967296 ≠ 4294967295) : nextI v % 4294967296 = 0 := by
  rw [nextI, if_neg h]; unfold stI; omega
end SM

/- Deeds in plain arithmetic: what a word becomes by one, what one finds in a list of words, what stands there behind it, its text. No program is named. -/
namespace Go.Proofs.YtafjokjmogadnaaGreatDoor.DM
open CM
open SM (decI)

/-- A deed: its kind, place, two numbers, and by which reference. -/
abbrev D := Int × Int × Int × Int × Int

def afterI (w : Int) (x : D) : Int :=
  if x.1 = 2 then x.2.2.1 else if x.1 = 3 then (if w = x.2.2.1 then x.2.2.2.1 else w) else if x.1 = 4 then (w + x.2.2.1) % 18446744073709551616 else w
def foundD (l : List Int) (x : D) : Int := if 1 ≤ x.1 ∧ x.1 ≤ 4 then getI l x.2.1 else 0
def nextD (l : List Int) (x : D) : List Int := nextI l (x.1, x.2.1, x.2.2.1, x.2.2.2.1)
theorem nextD_length (l : List Int) (x : D) : (nextD l x).length = l.length := nextI_length _ _

theorem nextD_1 (l : List Int) (i a b y : Int) : nextD l (1, i, a, b, y) = l := by unfold nextD nextI; simp
theorem nextD_2 (l : List Int) (i a b y : Int) : nextD l (2, i, a, b, y) = setI l i a := by unfold nextD nextI; simp
theorem nextD_3 (l : List Int) (i a b y : Int) : nextD l (3, i, a, b, y) = swapI l i a b := by unfold nextD nextI; simp
theorem nextD_4 (l : List Int) (i a b y : Int) : nextD l (4, i, a, b, y) = addI l i a := by unfold nextD nextI; simp
theorem nextD_no {l : List Int} {x : D} (h : ¬ (1 ≤ x.1 ∧ x.1 ≤ 4)) : nextD l x = l := by
  unfold nextD nextI
  rw [if_neg (show ¬ x.1 = 2 by omega), if_neg (show ¬ x.1 = 3 by omega), if_neg (show ¬ x.1 = 4 by omega)]
theorem foundD_no {l : List Int} {x : D} (h : ¬ (1 ≤ x.1 ∧ x.1 ≤ 4)) : foundD l x = 0 := if_neg h
theorem foundD_yes {l : List Int} {x : D} (h : 1 ≤ x.1 ∧ x.1 ≤ 4) : foundD l x = getI l x.2.1 := if_pos h
theorem afterI_1 (w i a b y : Int) : afterI w (1, i, a, b, y) = w := by unfold afterI; simp
theorem afterI_2 (w i a b y : Int) : afterI w (2, i, a, b, y) = a := by unfold afterI; simp
theorem afterI_3 (w i a b y : Int) : afterI w (3, i, a, b, y) = if w = a then b else w := by unfold afterI; simp
theorem afterI_4 (w i a b y : Int) : afterI w (4, i, a, b, y) = (w + a) % 18446744073709551616 := by unfold afterI; simp
theorem afterI_no {w : Int} {x : D} (h : ¬ (1 ≤ x.1 ∧ x.1 ≤ 4)) : afterI w x = w := by
  unfold afterI
  rw [if_neg (show ¬ x.1 = 2 by omega), if_neg (show ¬ x.1 = 3 by omega), if_neg (show ¬ x.1 = 4 by omega)]

/-- What stands at a place behind a deed. -/
theorem nextD_at {l : List Int} {x : D} (h : 1 ≤ x.1 ∧ x.1 ≤ 4) {j : Nat} {v : Int} (hj : l[j]? = some v) : (nextD l x)[j]? = some (if (j : Int) = x.2.1 then afterI v x else v) := by
  obtain ⟨k, i, a, b, y⟩ := x
  have hjl := (List.getElem?_eq_some_iff.1 hj).1
  simp only at h ⊢
  have set_at : ∀ u : Int, (setI l i u)[j]? = some (if (j : Int) = i then u else v) := fun u => by
    by_cases hi : there l i
    · obtain ⟨m, rfl, hm⟩ := there_nat hi
      rw [setI_in hm, List.getElem?_set]
      by_cases e : m = j
      · subst e
        simp [hjl]
      · rw [if_neg e, if_neg (by omega), hj]
    · rw [setI_out hi, hj]
      unfold there at hi
      rw [if_neg (by omega)]
  have get_at : (j : Int) = i → getI l i = v := fun e => by rw [← e]; exact getI_some hj
  rcases (show k = 1 ∨ k = 2 ∨ k = 3 ∨ k = 4 by omega) with rfl | rfl | rfl | rfl
  · rw [nextD_1, afterI_1, hj]
    simp
  · rw [nextD_2, afterI_2]
    exact set_at a
  · rw [nextD_3, afterI_3]
    unfold swapI
    by_cases e : (j : Int) = i
    · rw [get_at e, if_pos e]
      by_cases g : v = a
      · rw [if_pos g, if_pos g, set_at, if_pos e]
      · rw [if_neg g, if_neg g, hj]
    · rw [if_neg e]
      by_cases g : getI l i = a
      · rw [if_pos g, set_at, if_neg e]
      · rw [if_neg g, hj]
  · rw [nextD_4, afterI_4]
    unfold addI
    rw [set_at]
    by_cases e : (j : Int) = i
    · rw [if_pos e, if_pos e, get_at e]
    · rw [if_neg e, if_neg e]

/-! The text. -/
def nameL (k : Int) : List UInt8 := if k = 1 then [108, 111, 97, 100] else if k = 2 then [115, 116, 111, 114, 101] else if k = 3 then [115, 119, 97, 112] else [97, 100, 100]
def numsL (k a b : Int) : List Int := if k = 1 then [] else if k = 3 then [a, b] else [a]
def byL (y : Int) : List (List UInt8) := if y = 0 then [] else [[98, 121], decI y]
def partsL (name : List UInt8) (i : Int) (ns : List Int) (y : Int) : List (List UInt8) := name :: Go.Lib.itoa i :: (ns.map decI ++ byL y)
def lineL (name : List UInt8) (i : Int) (ns : List Int) (y : Int) : List UInt8 := Go.Lib.join (partsL name i ns y) [32]
def textI (x : D) : List UInt8 := if 1 ≤ x.1 ∧ x.1 ≤ 4 then lineL (nameL x.1) x.2.1 (numsL x.1 x.2.2.1 x.2.2.2.1) x.2.2.2.2 else [110, 111, 110, 101]

theorem textI_no {x : D} (h : ¬ (1 ≤ x.1 ∧ x.1 ≤ 4)) : textI x = [110, 111, 110, 101] := if_neg h
theorem textI_1 (i a b y : Int) : textI (1, i, a, b, y) = lineL [108, 111, 97, 100] i [] y := by unfold textI nameL numsL; simp
theorem textI_2 (i a b y : Int) : textI (2, i, a, b, y) = lineL [115, 116, 111, 114, 101] i [a] y := by unfold textI nameL numsL; simp
theorem textI_3 (i a b y : Int) : textI (3, i, a, b, y) = lineL [115, 119, 97, 112] i [a, b] y := by unfold textI nameL numsL; simp
theorem textI_4 (i a b y : Int) : textI (4, i, a, b, y) = lineL [97, 100, 100] i [a] y := by unfold textI nameL numsL; simp

def endL (y : Int) : List UInt8 := if y = 0 then [] else [32, 98, 121, 32] ++ decI y
/-- A text as the document builds it, from the left. -/
theorem line_is (name : List UInt8) (i : Int) (ns : List Int) (y : Int) : lineL name i ns y = name ++ [32] ++ Go.Lib.itoa i ++ (ns.map fun n => [32] ++ decI n).flatten ++ endL y := by
  unfold lineL partsL byL endL
  rw [Go.Lib.join_cons]
  unfold Go.Lib.joinTail
  by_cases h : y = 0
  · rw [if_pos h, if_pos h]
    simp [List.map_map, Function.comp_def]
  · rw [if_neg h, if_neg h]
    simp [List.map_map, Function.comp_def]

theorem dec_len (u : Int) (h : u < 18446744073709551616) : (decI u).length ≤ 20 := by unfold decI; rw [Go.Lib.decDigits_length]; exact Go.Lib.nDigits_le20 _ (by omega)
theorem flat_len (ns : List Int) (h : ∀ n ∈ ns, n < 18446744073709551616) : ((ns.map fun n => [32] ++ decI n).flatten).length ≤ 21 * ns.length := by
  induction ns with
  | nil => simp
  | cons n ns ih =>
    have h1 := ih fun m hm => h m (List.mem_cons_of_mem _ hm)
    have h2 := dec_len n (h n List.mem_cons_self)
    simp at h1 ⊢
    omega
theorem end_len (y : Int) (h : y < 18446744073709551616) : (endL y).length ≤ 24 := by
  unfold endL
  split
  · simp
  · have := dec_len y h
    simp
    omega
theorem line_len {name : List UInt8} {i : Int} {ns : List Int} {y : Int} (hn : name.length ≤ 100) (h0 : -9223372036854775808 ≤ i) (h1 : i ≤ 9223372036854775807) (hs : ns.length ≤ 100) (hw : ∀ n ∈ ns, n < 18446744073709551616) (hy : y < 18446744073709551616) : (lineL name i ns y).length ≤ 100000 := by
  have a1 := Go.Lib.itoa_length_le i h0 h1
  have a2 := flat_len ns hw
  have a3 := end_len y hy
  rw [line_is]
  simp only [List.length_append, List.length_cons, List.length_nil]
  omega
theorem example_text : textI (3, 3, 5, 6, 0) = [115, 119, 97, 112, 32, 51, 32, 53, 32, 54] := by
  rw [textI_3, line_is]
  have e3 : Go.Lib.itoa 3 = [51] := by unfold Go.Lib.itoa; rw [if_neg (by omega), show ((3 : Int).toNat) = 3 from rfl, Go.Lib.decDigits_one (by omega)]; rfl
  have e5 : decI 5 = [53] := by unfold decI; rw [show ((5 : Int).toNat) = 5 from rfl, Go.Lib.decDigits_one (by omega)]; rfl
  have e6 : decI 6 = [54] := by unfold decI; rw [show ((6 : Int).toNat) = 6 from rfl, Go.Lib.decDigits_one (by omega)]; rfl
  rw [e3]
  simp [e5, e6, endL]
end Go.Proofs.YtafjokjmogadnaaGreatDoor.DM

/- Tasks in plain lists: what one asks for, told words from a list, and where it is then; done alone to a memory. No program is named. -/
namespace Go.Proofs.YtafjokjmogadnaaGreatDoor.Runs
open DM

section
variable {σ : Type} (ask : σ → Option D) (tell : σ → Int → σ)

/-- All deeds that are asked for, up to the one behind the last word. -/
def askL : List Int → σ → List D
  | [], s => (ask s).toList
  | f :: fs, s => match ask s with
    | none => []
    | some d => d :: askL fs (tell s f)
/-- Where the task is then. -/
def endL : List Int → σ → σ
  | [], s => s
  | f :: fs, s => match ask s with
    | none => s
    | some _ => endL fs (tell s f)

/-- Amid a run: out was asked for and told, s is next. -/
def Mid (fs : List Int) (s0 : σ) (out : List D) (s : σ) : Prop :=
  out.length ≤ fs.length ∧ askL ask tell fs s0 = out ++ askL ask tell (fs.drop out.length) s ∧ endL ask tell fs s0 = endL ask tell (fs.drop out.length) s
/-- At its end. -/
def Fin (fs : List Int) (s0 : σ) (out : List D) (s : σ) : Prop := askL ask tell fs s0 = out ∧ endL ask tell fs s0 = s

variable {ask tell} {fs : List Int} {s0 s : σ} {out : List D} {d : D} {f : Int}
theorem Mid.start (fs : List Int) (s0 : σ) : Mid ask tell fs s0 [] s0 := ⟨Nat.zero_le _, rfl, rfl⟩
theorem Mid.len (h : Mid ask tell fs s0 out s) : out.length ≤ fs.length := h.1
theorem Mid.more (h : Mid ask tell fs s0 out s) (ha : ask s = some d) (hf : fs[out.length]? = some f) : Mid ask tell fs s0 (out ++ [d]) (tell s f) := by
  obtain ⟨hlt, rfl⟩ := List.getElem?_eq_some_iff.1 hf
  obtain ⟨_, h1, h2⟩ := h
  rw [List.drop_eq_getElem_cons hlt] at h1 h2
  simp only [askL, endL, ha] at h1 h2
  refine ⟨by simp; omega, ?_, ?_⟩
  · rw [h1, List.length_append, List.length_singleton, List.append_assoc]; rfl
  · rw [h2, List.length_append, List.length_singleton]
theorem Mid.last (h : Mid ask tell fs s0 out s) (ha : ask s = some d) (hl : fs.length ≤ out.length) : Fin ask tell fs s0 (out ++ [d]) s := by
  obtain ⟨_, h1, h2⟩ := h
  rw [List.drop_eq_nil_of_le hl] at h1 h2
  simp only [askL, endL, ha] at h1 h2
  exact ⟨h1, h2⟩
theorem Mid.done (h : Mid ask tell fs s0 out s) (ha : ask s = none) : Fin ask tell fs s0 out s := by
  obtain ⟨_, h1, h2⟩ := h
  cases hd : fs.drop out.length with
  | nil =>
    rw [hd] at h1 h2
    simp only [askL, endL, ha] at h1 h2
    exact ⟨by simpa using h1, h2⟩
  | cons x xs =>
    rw [hd] at h1 h2
    simp only [askL, endL, ha] at h1 h2
    exact ⟨by simpa using h1, h2⟩
theorem Fin.one {out' : List D} {s' : σ} (h : Fin ask tell fs s0 out s) (h' : Fin ask tell fs s0 out' s') : out = out' ∧ s = s' := ⟨h.1.symm.trans h'.1, h.2.symm.trans h'.2⟩

variable (ask tell) in
/-- All that is asked for behind pre, which was asked for (and told) ahead; where the task is then. -/
def Fins (fs : List Int) (pre : List D) (s0 : σ) (out : List D) (s : σ) : Prop := pre ++ askL ask tell (fs.drop pre.length) s0 = out ∧ endL ask tell (fs.drop pre.length) s0 = s
variable (ask tell) in
/-- Amid such a run: out, of which pre is a part, was asked for and told, s is next. -/
def Amid (fs : List Int) (pre : List D) (s0 : σ) (out : List D) (s : σ) : Prop :=
  out.length ≤ fs.length ∧ pre ++ askL ask tell (fs.drop pre.length) s0 = out ++ askL ask tell (fs.drop out.length) s ∧ endL ask tell (fs.drop pre.length) s0 = endL ask tell (fs.drop out.length) s
variable {pre : List D}
theorem Amid.start {fs : List Int} {pre : List D} (h : pre.length ≤ fs.length) (s0 : σ) : Amid ask tell fs pre s0 pre s0 := ⟨h, rfl, rfl⟩
theorem Amid.len (h : Amid ask tell fs pre s0 out s) : out.length ≤ fs.length := h.1
theorem Amid.more (h : Amid ask tell fs pre s0 out s) (ha : ask s = some d) (hf : fs[out.length]? = some f) : Amid ask tell fs pre s0 (out ++ [d]) (tell s f) := by
  obtain ⟨hlt, rfl⟩ := List.getElem?_eq_some_iff.1 hf
  obtain ⟨_, h1, h2⟩ := h
  rw [List.drop_eq_getElem_cons hlt] at h1 h2
  simp only [askL, endL, ha] at h1 h2
  refine ⟨by simp; omega, ?_, ?_⟩
  · rw [h1, List.length_append, List.length_singleton, List.append_assoc]; rfl
  · rw [h2, List.length_append, List.length_singleton]
theorem Amid.last (h : Amid ask tell fs pre s0 out s) (ha : ask s = some d) (hl : fs.length ≤ out.length) : Fins ask tell fs pre s0 (out ++ [d]) s := by
  obtain ⟨_, h1, h2⟩ := h
  rw [List.drop_eq_nil_of_le hl] at h1 h2
  simp only [askL, endL, ha] at h1 h2
  exact ⟨h1, h2⟩
theorem Amid.done (h : Amid ask tell fs pre s0 out s) (ha : ask s = none) : Fins ask tell fs pre s0 out s := by
  obtain ⟨_, h1, h2⟩ := h
  cases hd : fs.drop out.length with
  | nil =>
    rw [hd] at h1 h2
    simp only [askL, endL, ha] at h1 h2
    exact ⟨by simpa using h1, h2⟩
  | cons x xs =>
    rw [hd] at h1 h2
    simp only [askL, endL, ha] at h1 h2
    exact ⟨by simpa using h1, h2⟩
theorem Fins.start (h : Fins ask tell fs [] s0 out s) : Fin ask tell fs s0 out s := h
theorem Fins.one {out' : List D} {s' : σ} (h : Fins ask tell fs pre s0 out s) (h' : Fins ask tell fs pre s0 out' s') : out = out' ∧ s = s' := ⟨h.1.symm.trans h'.1, h.2.symm.trans h'.2⟩

/-! A task that goes the steps of another one, as long as that has some. -/
section
variable {τ : Type} {askS : τ → Option D} {tellS : τ → Int → τ} {ι : τ → σ}
/-- Each step of the inner one is one of the outer one. -/
def Holds (ask : σ → Option D) (tell : σ → Int → σ) (askS : τ → Option D) (tellS : τ → Int → τ) (ι : τ → σ) : Prop := ∀ t d, askS t = some d → ask (ι t) = some d ∧ ∀ f, tell (ι t) f = ι (tellS t f)
theorem askL_in (h : Holds ask tell askS tellS ι) : ∀ (fs : List Int) (t : τ),
    (∃ d, askS (endL askS tellS fs t) = some d ∧ askL ask tell fs (ι t) = askL askS tellS fs t ∧ endL ask tell fs (ι t) = ι (endL askS tellS fs t)) ∨
    (askS (endL askS tellS fs t) = none ∧ (askL askS tellS fs t).length ≤ fs.length ∧ askL ask tell fs (ι t) = askL askS tellS fs t ++ askL ask tell (fs.drop (askL askS tellS fs t).length) (ι (endL askS tellS fs t)) ∧
      endL ask tell fs (ι t) = endL ask tell (fs.drop (askL askS tellS fs t).length) (ι (endL askS tellS fs t)))
  | [], t => by
    cases ha : askS t with
    | none => exact .inr ⟨by simp [endL, ha], by simp [askL, ha], by simp [askL, endL, ha], by simp [askL, endL, ha]⟩
    | some d => exact .inl ⟨d, by simp [endL, ha], by simp [askL, ha, (h t d ha).1], by simp [endL]⟩
  | f :: fs, t => by
    cases ha : askS t with
    | none => exact .inr ⟨by simp [endL, ha], by simp [askL, ha], by simp [askL, endL, ha], by simp [askL, endL, ha]⟩
    | some d =>
      obtain ⟨h1, h2⟩ := h t d ha
      have h3 := h2 f
      rcases askL_in h fs (tellS t f) with ⟨d', q1, q2, q3⟩ | ⟨q1, q2, q3, q4⟩
      · exact .inl ⟨d', by simpa [endL, ha] using q1, by simp [askL, ha, h1, h3, q2], by simp [endL, ha, h1, h3, q3]⟩
      · refine .inr ⟨by simpa [endL, ha] using q1, by simp [askL, ha]; exact q2, ?_, ?_⟩
        · simp [askL, endL, ha, h1, h3]; exact q3
        · simp [askL, endL, ha, h1, h3]; exact q4
/-- Behind the inner one's run the outer one is at its end, or goes on. -/
theorem Amid.inner {t : τ} (h : Amid ask tell fs pre s0 out (ι t)) (hh : Holds ask tell askS tellS ι) {out' : List D} {t' : τ} (hf : Fins askS tellS fs out t out' t') :
    ((askS t').isSome = true → Fins ask tell fs pre s0 out' (ι t')) ∧ (askS t' = none → Amid ask tell fs pre s0 out' (ι t')) := by
  obtain ⟨hl, h1, h2⟩ := h
  obtain ⟨rfl, rfl⟩ := hf
  rcases askL_in hh (fs.drop out.length) t with ⟨d, q1, q2, q3⟩ | ⟨q1, q2, q3, q4⟩
  · refine ⟨fun _ => ⟨by rw [h1, q2], by rw [h2, q3]⟩, fun e => ?_⟩
    rw [q1] at e
    cases e
  · refine ⟨fun e => ?_, fun _ => ⟨?_, ?_, ?_⟩⟩
    · rw [q1] at e
      cases e
    · rw [List.length_append]
      rw [List.length_drop] at q2
      omega
    · rw [h1, q3, List.length_append, ← List.drop_drop, List.append_assoc]
    · rw [h2, q4, List.length_append, ← List.drop_drop]
end

/-! A task that goes the steps of another one, and goes on behind its last one as soon as that is told. -/
section
variable {τ : Type} {askS : τ → Option D} {tellS : τ → Int → τ} {ι : τ → σ} {κ : σ}
/-- Each step of the inner one is one of the outer one, which stands at κ as soon as the inner one is done. -/
def Passes (ask : σ → Option D) (tell : σ → Int → σ) (askS : τ → Option D) (tellS : τ → Int → τ) (ι : τ → σ) (κ : σ) : Prop := ∀ t d, askS t = some d → ask (ι t) = some d ∧ ∀ f, tell (ι t) f = if (askS (tellS t f)).isSome then ι (tellS t f) else κ
theorem askL_pass (h : Passes ask tell askS tellS ι κ) : ∀ (fs : List Int) (t : τ) (d0 : D), askS t = some d0 →
    (∃ d, askS (endL askS tellS fs t) = some d ∧ askL ask tell fs (ι t) = askL askS tellS fs t ∧ endL ask tell fs (ι t) = ι (endL askS tellS fs t)) ∨
    (askS (endL askS tellS fs t) = none ∧ (askL askS tellS fs t).length ≤ fs.length ∧ askL ask tell fs (ι t) = askL askS tellS fs t ++ askL ask tell (fs.drop (askL askS tellS fs t).length) κ ∧
      endL ask tell fs (ι t) = endL ask tell (fs.drop (askL askS tellS fs t).length) κ)
  | [], t, d, ha => .inl ⟨d, by simp [endL, ha], by simp [askL, ha, (h t d ha).1], by simp [endL]⟩
  | f :: fs, t, d, ha => by
    obtain ⟨h1, h2⟩ := h t d ha
    have h3 := h2 f
    cases hb : askS (tellS t f) with
    | none =>
      rw [hb, Option.isSome_none, if_neg (by simp)] at h3
      have e1 : askL askS tellS fs (tellS t f) = [] := by cases fs <;> simp [askL, hb]
      have e2 : endL askS tellS fs (tellS t f) = tellS t f := by cases fs <;> simp [endL, hb]
      refine .inr ⟨by simp [endL, ha, e2, hb], by simp [askL, ha, e1], ?_, ?_⟩
      · simp [askL, ha, h1, h3, e1]
      · simp [askL, endL, ha, h1, h3, e1]
    | some d2 =>
      rw [hb, Option.isSome_some, if_pos rfl] at h3
      rcases askL_pass h fs (tellS t f) d2 hb with ⟨d', q1, q2, q3⟩ | ⟨q1, q2, q3, q4⟩
      · exact .inl ⟨d', by simpa [endL, ha] using q1, by simp [askL, ha, h1, h3, q2], by simp [endL, ha, h1, h3, q3]⟩
      · refine .inr ⟨by simpa [endL, ha] using q1, by simp [askL, ha]; exact q2, ?_, ?_⟩
        · simp [askL, ha, h1, h3]; exact q3
        · simp [askL, endL, ha, h1, h3]; exact q4
/-- Behind the inner one's run the outer one is at its end, or goes on at κ. -/
theorem Amid.pass {t : τ} {d0 : D} (h : Amid ask tell fs pre s0 out (ι t)) (hh : Passes ask tell askS tellS ι κ) (ha : askS t = some d0) {out' : List D} {t' : τ} (hf : Fins askS tellS fs out t out' t') :
    ((askS t').isSome = true → Fins ask tell fs pre s0 out' (ι t')) ∧ (askS t' = none → Amid ask tell fs pre s0 out' κ) := by
  obtain ⟨hl, h1, h2⟩ := h
  obtain ⟨rfl, rfl⟩ := hf
  rcases askL_pass hh (fs.drop out.length) t d0 ha with ⟨d, q1, q2, q3⟩ | ⟨q1, q2, q3, q4⟩
  · refine ⟨fun _ => ⟨by rw [h1, q2], by rw [h2, q3]⟩, fun e => ?_⟩
    rw [q1] at e
    cases e
  · refine ⟨fun e => ?_, fun _ => ⟨?_, ?_, ?_⟩⟩
    · rw [q1] at e
      cases e
    · rw [List.length_append]
      rw [List.length_drop] at q2
      omega
    · rw [h1, q3, List.length_append, ← List.drop_drop, List.append_assoc]
    · rw [h2, q4, List.length_append, ← List.drop_drop]
end

variable (ask tell) in
/-- Done alone, some deeds at most: the words, and where the task is then. -/
def alone : Nat → List Int → σ → List Int × σ
  | 0, l, s => (l, s)
  | k + 1, l, s => match ask s with
    | none => (l, s)
    | some d => alone k (nextD l d) (tell s (foundD l d))
theorem alone_done {k : Nat} {l : List Int} (ha : ask s = none) : alone ask tell k l s = (l, s) := by
  cases k with
  | zero => rfl
  | succ k => simp only [alone, ha]
theorem alone_more {k : Nat} {l : List Int} (ha : ask s = some d) : alone ask tell (k + 1) l s = alone ask tell k (nextD l d) (tell s (foundD l d)) := by
  simp only [alone, ha]
theorem alone_pass {τ : Type} {askS : τ → Option D} {tellS : τ → Int → τ} {ι : τ → σ} {κ : σ} (h : Passes ask tell askS tellS ι κ) : ∀ (m k : Nat) (l l' : List Int) (t t' : τ) (d0 : D), askS t = some d0 → alone askS tellS m l t = (l', t') → askS t' = none →
    ∃ j, j ≤ m ∧ alone ask tell (m + k) l (ι t) = alone ask tell (k + j) l' κ
  | 0, k, l, l', t, t', d, ha, hs, hn => by
    cases hs
    rw [ha] at hn
    cases hn
  | m + 1, k, l, l', t, t', d, ha, hs, hn => by
    obtain ⟨h1, h2⟩ := h t d ha
    rw [alone_more ha] at hs
    rw [show m + 1 + k = (m + k) + 1 by omega, alone_more h1, h2]
    cases hb : askS (tellS t (foundD l d)) with
    | none =>
      rw [alone_done hb] at hs
      cases hs
      rw [Option.isSome_none, if_neg (by simp)]
      exact ⟨m, by omega, by rw [Nat.add_comm]⟩
    | some d2 =>
      rw [Option.isSome_some, if_pos rfl]
      obtain ⟨j, hj, e⟩ := alone_pass h m k _ _ _ _ d2 hb hs hn
      exact ⟨j, by omega, e⟩
variable (ask tell) in
/-- Just k deeds, each asked for, done alone. -/
def steps : Nat → List Int → σ → Option (List Int × σ)
  | 0, l, s => some (l, s)
  | k + 1, l, s => match ask s with
    | none => none
    | some d => steps k (nextD l d) (tell s (foundD l d))
theorem steps_more {k : Nat} {l : List Int} (ha : ask s = some d) : steps ask tell (k + 1) l s = steps ask tell k (nextD l d) (tell s (foundD l d)) := by
  simp only [steps, ha]
/-- Amid just so many steps: one is asked for, as long as some are left. -/
theorem steps_amid {k : Nat} {l lf : List Int} {s sf : σ} (h : steps ask tell (k + 1) l s = some (lf, sf)) : ∃ d, ask s = some d ∧ steps ask tell k (nextD l d) (tell s (foundD l d)) = some (lf, sf) := by
  cases ha : ask s with
  | none => simp [steps, ha] at h
  | some d => exact ⟨d, rfl, by rwa [steps_more ha] at h⟩
theorem steps_pass {τ : Type} {askS : τ → Option D} {tellS : τ → Int → τ} {ι : τ → σ} {κ : σ} (h : Passes ask tell askS tellS ι κ) : ∀ (m k : Nat) (l l' : List Int) (t t' : τ) (d0 : D), askS t = some d0 → steps askS tellS m l t = some (l', t') → askS t' = none → steps ask tell (m + k) l (ι t) = steps ask tell k l' κ
  | 0, k, l, l', t, t', d, ha, hs, hn => by
    simp only [steps, Option.some.injEq, Prod.mk.injEq] at hs
    rw [← hs.2, ha] at hn
    cases hn
  | m + 1, k, l, l', t, t', d, ha, hs, hn => by
    obtain ⟨h1, h2⟩ := h t d ha
    rw [steps_more ha] at hs
    rw [show m + 1 + k = (m + k) + 1 by omega, steps_more h1, h2]
    cases hb : askS (tellS t (foundD l d)) with
    | none =>
      cases m with
      | zero =>
        simp only [steps, Option.some.injEq, Prod.mk.injEq] at hs
        rw [Option.isSome_none, if_neg (by simp), Nat.zero_add, hs.1]
      | succ m => simp [steps, hb] at hs
    | some d2 =>
      rw [Option.isSome_some, if_pos rfl]
      exact steps_pass h m k _ _ _ _ d2 hb hs hn
end
end Go.Proofs.YtafjokjmogadnaaGreatDoor.Runs

/- Plans in plain arithmetic, going round at 64 bits: where words are. No program is named. -/
namespace Go.Proofs.YtafjokjmogadnaaGreatDoor.PM
open Go.RowKit

theorem wrap_off (x k : Int) : wrap64 (x - 18446744073709551616 * k) = wrap64 x := by unfold wrap64; omega
theorem wrap_is (a : Int) : ∃ k : Int, wrap64 a = a - 18446744073709551616 * k := ⟨(a + 9223372036854775808) / 18446744073709551616, by unfold wrap64; omega⟩
theorem w_w (a : Int) : wrap64 (wrap64 a) = wrap64 a := by unfold wrap64; omega
theorem add_l (a b : Int) : wrap64 (wrap64 a + b) = wrap64 (a + b) := by unfold wrap64; omega
theorem add_r (a b : Int) : wrap64 (a + wrap64 b) = wrap64 (a + b) := by unfold wrap64; omega
theorem sub_l (a b : Int) : wrap64 (wrap64 a - b) = wrap64 (a - b) := by unfold wrap64; omega
theorem sub_r (a b : Int) : wrap64 (a - wrap64 b) = wrap64 (a - b) := by unfold wrap64; omega
theorem mul_l (a b : Int) : wrap64 (wrap64 a * b) = wrap64 (a * b) := by
  obtain ⟨k, hk⟩ := wrap_is a
  rw [hk, Int.sub_mul, Int.mul_assoc, wrap_off]
theorem mul_r (a b : Int) : wrap64 (a * wrap64 b) = wrap64 (a * b) := by
  rw [Int.mul_comm, mul_l, Int.mul_comm]
theorem wrap_in {n : Int} (h : -9223372036854775808 ≤ n ∧ n ≤ 9223372036854775807) : wrap64 n = n := by unfold wrap64; omega

/-- Where the n-th row of the threads' words begins. -/
def rowI (T n : Int) : Int := wrap64 (4 + n * T)
/-- Where the k-th word of a slot is. -/
def atI (T L s k : Int) : Int := wrap64 (4 + 3 * T + L + (s - 1) * (6 + L) + k)
/-- Where the k-th word behind a row's first one is. -/
def ofI (T n k : Int) : Int := wrap64 (4 + n * T + k)
/-- Where a way on is. -/
def nextI (T L s k : Int) : Int := if s = 0 then ofI T 3 k else atI T L s (6 + k)
theorem next_zero (T L k : Int) : nextI T L 0 k = ofI T 3 k := if_pos rfl
theorem next_some {T L s k : Int} (h : ¬ s = 0) : nextI T L s k = atI T L s (6 + k) := if_neg h

theorem row_of (T n k : Int) : wrap64 (rowI T n + k) = ofI T n k := by unfold rowI ofI; rw [add_l]
theorem at_of (T L s k : Int) : wrap64 (atI T L s 0 + k) = atI T L s k := by unfold atI; rw [add_l, Int.add_zero]
theorem w_six (x k : Int) : wrap64 (wrap64 (wrap64 x + 6) + k) = wrap64 (x + (6 + k)) := by unfold wrap64; omega
theorem at_next (T L s k : Int) : wrap64 (wrap64 (atI T L s 0 + 6) + k) = atI T L s (6 + k) := by unfold atI; rw [w_six, Int.add_zero]
theorem at_wrap (T L s k : Int) : atI T L s (wrap64 k) = atI T L s k := by unfold atI; rw [add_r]
theorem first_of (T L s : Int) : wrap64 (wrap64 (rowI T 3 + L) + wrap64 (wrap64 (s - 1) * wrap64 (6 + L))) = atI T L s 0 := by
  unfold rowI atI
  rw [add_l, mul_l, mul_r, add_r, Int.add_assoc, add_l, Int.add_zero, ← Int.add_assoc]

/-! As the document's answer adds up. -/
theorem ref_pin (T t : Int) : wrap64 (4 + t) = ofI T 0 t := by unfold ofI; rw [Int.zero_mul, Int.add_zero]
theorem ref_sleep (T t : Int) : wrap64 (wrap64 (4 + T) + t) = ofI T 1 t := by unfold ofI; rw [add_l, Int.one_mul]
theorem ref_row (T n t : Int) : wrap64 (wrap64 (4 + wrap64 (n * T)) + t) = ofI T n t := by unfold ofI; rw [add_r, add_l]
theorem w_sum (a L m k : Int) : wrap64 (wrap64 (wrap64 (wrap64 (4 + wrap64 a) + L) + wrap64 m) + k) = wrap64 (4 + a + L + m + k) := by unfold wrap64; omega
theorem ref_slot (T L s k : Int) : wrap64 (wrap64 (wrap64 (wrap64 (4 + wrap64 (3 * T)) + L) + wrap64 (wrap64 (s - 1) * wrap64 (6 + L))) + k) = atI T L s k := by
  unfold atI
  rw [mul_l, mul_r, w_sum]

/-- Whether a plan is right. -/
def rightB (T S L G : Int) : Bool := decide (1 ≤ T ∧ T ≤ 8 ∧ 1 ≤ S ∧ S ≤ 64 ∧ 1 ≤ L ∧ L ≤ 8 ∧ G ≤ 4294967295)
theorem right_yes {T S L G : Int} (h : 1 ≤ T ∧ T ≤ 8 ∧ 1 ≤ S ∧ S ≤ 64 ∧ 1 ≤ L ∧ L ≤ 8 ∧ G ≤ 4294967295) : rightB T S L G = true := decide_eq_true h
theorem right_no {T S L G : Int} (h : ¬ (1 ≤ T ∧ T ≤ 8 ∧ 1 ≤ S ∧ S ≤ 64 ∧ 1 ≤ L ∧ L ≤ 8 ∧ G ≤ 4294967295)) : rightB T S L G = false := decide_eq_false h
theorem right_is {T S L G : Int} (h : rightB T S L G = true) : 1 ≤ T ∧ T ≤ 8 ∧ 1 ≤ S ∧ S ≤ 64 ∧ 1 ≤ L ∧ L ≤ 8 ∧ G ≤ 4294967295 := of_decide_eq_true h
theorem right_not {T S L G : Int} (h : rightB T S L G = false) : ¬ (1 ≤ T ∧ T ≤ 8 ∧ 1 ≤ S ∧ S ≤ 64 ∧ 1 ≤ L ∧ L ≤ 8 ∧ G ≤ 4294967295) := of_decide_eq_false h
end Go.Proofs.YtafjokjmogadnaaGreatDoor.PM

/- Slots taken and given back, in plain arithmetic. No program is named. -/
namespace Go.Proofs.YtafjokjmogadnaaGreatDoor.PoM
open DM PM CM Runs

/-- A task of the stack's: its step (0 done, 1 looks, 2 links, 3 turns), the head it found, what is below. -/
structure St where
  st : Int
  was : Int
  low : Int
def Ok (s : St) : Prop := (s.st = 0 ∨ s.st = 1 ∨ s.st = 2 ∨ s.st = 3) ∧ (0 ≤ s.was ∧ s.was < 18446744073709551616) ∧ 0 ≤ s.low ∧ s.low < 18446744073709551616
/-- The head that comes behind w, with v on top. -/
def turnI (w v : Int) : Int := (w / 4294967296 + 1) % 4294967296 * 4294967296 + v % 4294967296
theorem turn_lo (w v : Int) : 0 ≤ turnI w v ∧ turnI w v < 18446744073709551616 := by unfold turnI; omega
theorem turn_low (w v : Int) : turnI w v % 4294967296 = v % 4294967296 := by unfold turnI; omega
theorem turn_half (w v : Int) : turnI w (v % 4294967296) = turnI w v := by unfold turnI; omega

/-- Taking a slot. -/
def popA (T L : Int) (s : St) : Option D :=
  if s.st = 1 then some (1, 3, 0, 0, 0) else if s.st = 2 then some (1, atI T L (s.was % 4294967296) 5, 0, 0, 0) else if s.st = 3 then some (3, 3, s.was, turnI s.was s.low, 0) else none
def popT (s : St) (f : Int) : St :=
  if s.st = 1 then ⟨if f % 4294967296 = 0 then 0 else 2, f, s.low⟩ else if s.st = 2 then ⟨3, s.was, f⟩ else if s.st = 3 then ⟨if f = s.was then 0 else 1, s.was, s.low⟩ else ⟨0, s.was, s.low⟩
def popI (s : St) : Int := if s.st = 0 then s.was % 4294967296 else 0
/-- Giving one back. -/
def pushA (T L i : Int) (s : St) : Option D :=
  if s.st = 1 then some (1, 3, 0, 0, 0) else if s.st = 2 then some (2, atI T L i 5, s.was % 4294967296, 0, 0) else if s.st = 3 then some (3, 3, s.was, turnI s.was i, 0) else none
def pushT (s : St) (f : Int) : St :=
  if s.st = 1 then ⟨2, f, s.low⟩ else if s.st = 2 then ⟨3, s.was, s.low⟩ else if s.st = 3 then ⟨if f = s.was then 0 else 1, s.was, s.low⟩ else ⟨0, s.was, s.low⟩

theorem popA_0 (T L w b : Int) : popA T L ⟨0, w, b⟩ = none := by simp [popA]
theorem popA_1 (T L w b : Int) : popA T L ⟨1, w, b⟩ = some (1, 3, 0, 0, 0) := by simp [popA]
theorem popA_2 (T L w b : Int) : popA T L ⟨2, w, b⟩ = some (1, atI T L (w % 4294967296) 5, 0, 0, 0) := by simp [popA]
theorem popA_3 (T L w b : Int) : popA T L ⟨3, w, b⟩ = some (3, 3, w, turnI w b, 0) := by simp [popA]
theorem popT_0 (w b f : Int) : popT ⟨0, w, b⟩ f = ⟨0, w, b⟩ := by simp [popT]
theorem popT_1n {w b f : Int} (h : f % 4294967296 = 0) : popT ⟨1, w, b⟩ f = ⟨0, f, b⟩ := by simp [popT, h]
theorem popT_1 {w b f : Int} (h : ¬ f % 4294967296 = 0) : popT ⟨1, w, b⟩ f = ⟨2, f, b⟩ := by simp [popT, h]
theorem popT_2 (w b f : Int) : popT ⟨2, w, b⟩ f = ⟨3, w, f⟩ := by simp [popT]
theorem popT_3 (w b : Int) : popT ⟨3, w, b⟩ w = ⟨0, w, b⟩ := by simp [popT]
theorem popT_3n {w b f : Int} (h : ¬ f = w) : popT ⟨3, w, b⟩ f = ⟨1, w, b⟩ := by simp [popT, h]
theorem popI_0 (w b : Int) : popI ⟨0, w, b⟩ = w % 4294967296 := by simp [popI]
theorem popI_n {s : St} (h : ¬ s.st = 0) : popI s = 0 := if_neg h
theorem pushA_0 (T L i w b : Int) : pushA T L i ⟨0, w, b⟩ = none := by simp [pushA]
theorem pushA_1 (T L i w b : Int) : pushA T L i ⟨1, w, b⟩ = some (1, 3, 0, 0, 0) := by simp [pushA]
theorem pushA_2 (T L i w b : Int) : pushA T L i ⟨2, w, b⟩ = some (2, atI T L i 5, w % 4294967296, 0, 0) := by simp [pushA]
theorem pushA_3 (T L i w b : Int) : pushA T L i ⟨3, w, b⟩ = some (3, 3, w, turnI w i, 0) := by simp [pushA]
theorem pushT_0 (w b f : Int) : pushT ⟨0, w, b⟩ f = ⟨0, w, b⟩ := by simp [pushT]
theorem pushT_1 (w b f : Int) : pushT ⟨1, w, b⟩ f = ⟨2, f, b⟩ := by simp [pushT]
theorem pushT_2 (w b f : Int) : pushT ⟨2, w, b⟩ f = ⟨3, w, b⟩ := by simp [pushT]
theorem pushT_3 (w b : Int) : pushT ⟨3, w, b⟩ w = ⟨0, w, b⟩ := by simp [pushT]
theorem pushT_3n {w b f : Int} (h : ¬ f = w) : pushT ⟨3, w, b⟩ f = ⟨1, w, b⟩ := by simp [pushT, h]
theorem popT_ok {s : St} (h : Ok s) {f : Int} (hf : 0 ≤ f ∧ f < 18446744073709551616) : Ok (popT s f) := by
  obtain ⟨h1, h2, h3⟩ := h
  unfold popT
  split
  · refine ⟨?_, hf, h3⟩
    show (if f % 4294967296 = 0 then (0 : Int) else 2) = 0 ∨ _
    split <;> simp
  · split
    · exact ⟨by simp, h2, hf⟩
    · split
      · refine ⟨?_, h2, h3⟩
        show (if f = s.was then (0 : Int) else 1) = 0 ∨ (if f = s.was then (0 : Int) else 1) = 1 ∨ _
        split <;> simp
      · exact ⟨by simp, h2, h3⟩
theorem pushT_ok {s : St} (h : Ok s) {f : Int} (hf : 0 ≤ f ∧ f < 18446744073709551616) : Ok (pushT s f) := by
  obtain ⟨h1, h2, h3⟩ := h
  unfold pushT
  split
  · exact ⟨by simp, hf, h3⟩
  · split
    · exact ⟨by simp, h2, h3⟩
    · split
      · refine ⟨?_, h2, h3⟩
        show (if f = s.was then (0 : Int) else 1) = 0 ∨ (if f = s.was then (0 : Int) else 1) = 1 ∨ _
        split <;> simp
      · exact ⟨by simp, h2, h3⟩
end Go.Proofs.YtafjokjmogadnaaGreatDoor.PoM

/- All words' places of a plan as a list: how many there are, that each is below that, and that no two are one. No program is named. -/
namespace Go.Proofs.YtafjokjmogadnaaGreatDoor.PM
open Go.RowKit

/-- Where the k-th word of a slot is. -/
def atN (T L i k : Nat) : Nat := 4 + 3 * T + L + (i - 1) * (6 + L) + k
def nextN (T L i k : Nat) : Nat := if i = 0 then 4 + 3 * T + k else atN T L i (6 + k)
def thN (T t : Nat) : List Nat := [4 + t, 4 + T + t, 4 + 2 * T + t]
def waysN (T L i k : Nat) : List Nat := (List.range k).map (nextN T L i)
def ownN (T L i : Nat) : List Nat := if i = 0 then [] else [atN T L i 0, atN T L i 1, atN T L i 2, atN T L i 3, atN T L i 4, atN T L i 5]
def slN (T L i : Nat) : List Nat := waysN T L i L ++ ownN T L i
def headN (T t : Nat) : List Nat := [0, 1, 2, 3] ++ (List.range t).flatMap (thN T)
def sumN (T L i : Nat) : List Nat := headN T T ++ (List.range i).flatMap (slN T L)
def allN (T S L : Nat) : List Nat := sumN T L (S + 1)
def wordsN (T S L : Nat) : Nat := 4 + 3 * T + L + S * (6 + L)

theorem head_succ (T t : Nat) : headN T (t + 1) = headN T t ++ thN T t := by simp [headN, List.range_succ, List.flatMap_append]
theorem sum_succ (T L i : Nat) : sumN T L (i + 1) = sumN T L i ++ slN T L i := by simp [sumN, List.range_succ, List.flatMap_append]
theorem ways_succ (T L i k : Nat) : waysN T L i (k + 1) = waysN T L i k ++ [nextN T L i k] := by simp [waysN, List.range_succ]
theorem sum_zero (T L : Nat) : sumN T L 0 = headN T T := by simp [sumN]
theorem head_zero (T : Nat) : headN T 0 = [0, 1, 2, 3] := by simp [headN]
theorem ways_zero (T L i : Nat) : waysN T L i 0 = [] := by simp [waysN]
theorem own_zero (T L : Nat) : ownN T L 0 = [] := if_pos rfl
theorem own_some (T L i : Nat) (h : ¬ i = 0) : ownN T L i = [atN T L i 0, atN T L i 1, atN T L i 2, atN T L i 3, atN T L i 4, atN T L i 5] := if_neg h

theorem head_length (T : Nat) : ∀ t, (headN T t).length = 4 + 3 * t
  | 0 => by rw [head_zero]; rfl
  | t + 1 => by rw [head_succ, List.length_append, head_length T t]; simp [thN]; omega
theorem ways_length (T L i k : Nat) : (waysN T L i k).length = k := by simp [waysN]
theorem sum_length (T L : Nat) : ∀ i, (sumN T L (i + 1)).length = 4 + 3 * T + L + i * (6 + L)
  | 0 => by rw [sum_succ, sum_zero, List.length_append, head_length]; simp [slN, ways_length, own_zero]
  | i + 1 => by
    rw [sum_succ, List.length_append, sum_length T L i]
    simp [slN, ways_length, own_some, Nat.add_mul]
    omega
theorem all_length (T S L : Nat) : (allN T S L).length = wordsN T S L := sum_length T L S

/-! In order: what stands ahead is less. -/
theorem head_lt (T : Nat) : ∀ t, t ≤ T → ∀ x ∈ headN T t, x < 4 + 3 * T
  | 0, _, x, hx => by rw [head_zero] at hx; simp at hx; omega
  | t + 1, ht, x, hx => by
    rw [head_succ, List.mem_append] at hx
    rcases hx with hx | hx
    · exact head_lt T t (by omega) x hx
    · simp [thN] at hx; omega
theorem mem_head (T t x : Nat) : x ∈ headN T t ↔ x < 4 ∨ ∃ s, s < t ∧ (x = 4 + s ∨ x = 4 + T + s ∨ x = 4 + 2 * T + s) := by
  simp only [headN, List.mem_append, List.mem_flatMap, List.mem_range, thN, List.mem_cons, List.not_mem_nil, or_false]
  constructor
  · rintro (h | ⟨s, hs, h⟩)
    · exact .inl (by omega)
    · exact .inr ⟨s, hs, h⟩
  · rintro (h | ⟨s, hs, h⟩)
    · exact .inl (by omega)
    · exact .inr ⟨s, hs, h⟩
theorem head_nodup (T : Nat) : ∀ t, t ≤ T → (headN T t).Nodup
  | 0, _ => by rw [head_zero]; decide
  | t + 1, ht => by
    rw [head_succ, List.nodup_append]
    refine ⟨head_nodup T t (by omega), ?_, ?_⟩
    · simp [thN]; omega
    · intro a ha b hb
      rw [mem_head] at ha
      simp only [thN, List.mem_cons, List.not_mem_nil, or_false] at hb
      rcases ha with h | ⟨s, hs, h⟩ <;> omega
theorem mem_sl {T L i x : Nat} (h : x ∈ slN T L i) : (i = 0 ∧ 4 + 3 * T ≤ x ∧ x < 4 + 3 * T + L) ∨ (0 < i ∧ 4 + 3 * T + L + (i - 1) * (6 + L) ≤ x ∧ x < 4 + 3 * T + L + i * (6 + L)) := by
  simp only [slN, List.mem_append, waysN, List.mem_map, List.mem_range, nextN, atN] at h
  by_cases hi : i = 0
  · subst hi
    rcases h with ⟨k, hk, rfl⟩ | h
    · left; simp; omega
    · simp [own_zero] at h
  · right
    have e : i * (6 + L) = (i - 1) * (6 + L) + (6 + L) := by rw [← Nat.succ_mul]; congr 1; omega
    rcases h with ⟨k, hk, rfl⟩ | h
    · rw [if_neg hi]; omega
    · rw [own_some T L i hi] at h
      simp only [atN, List.mem_cons, List.not_mem_nil, or_false] at h
      omega
theorem ways_nodup (T L i : Nat) : ∀ k, (waysN T L i k).Nodup
  | 0 => by rw [ways_zero]; exact List.nodup_nil
  | k + 1 => by
    rw [ways_succ, List.nodup_append]
    refine ⟨ways_nodup T L i k, by simp, ?_⟩
    intro a ha b hb
    simp only [waysN, List.mem_map, List.mem_range] at ha
    obtain ⟨j, hj, rfl⟩ := ha
    simp only [List.mem_cons, List.not_mem_nil, or_false] at hb
    subst hb
    unfold nextN atN
    split <;> omega
theorem sl_nodup (T L i : Nat) : (slN T L i).Nodup := by
  unfold slN
  rw [List.nodup_append]
  refine ⟨ways_nodup T L i L, ?_, ?_⟩
  · by_cases hi : i = 0
    · subst hi; rw [own_zero]; exact List.nodup_nil
    · rw [own_some T L i hi]; simp [atN]
  · intro a ha b hb
    by_cases hi : i = 0
    · subst hi; simp [own_zero] at hb
    · rw [own_some T L i hi] at hb
      simp only [waysN, List.mem_map, List.mem_range, nextN, if_neg hi, atN] at ha
      obtain ⟨k, hk, rfl⟩ := ha
      simp only [atN, List.mem_cons, List.not_mem_nil, or_false] at hb
      omega
theorem sum_lt (T L : Nat) : ∀ i, ∀ x ∈ sumN T L (i + 1), x < 4 + 3 * T + L + i * (6 + L)
  | 0, x, hx => by
    rw [sum_succ, sum_zero, List.mem_append] at hx
    rcases hx with hx | hx
    · have := head_lt T T (Nat.le_refl _) x hx; omega
    · rcases mem_sl hx with h | h <;> omega
  | i + 1, x, hx => by
    rw [sum_succ, List.mem_append] at hx
    have e : (i + 1) * (6 + L) = i * (6 + L) + (6 + L) := Nat.succ_mul _ _
    rcases hx with hx | hx
    · have := sum_lt T L i x hx; omega
    · rcases mem_sl hx with h | h
      · omega
      · omega
theorem sum_nodup (T L : Nat) : ∀ i, (sumN T L (i + 1)).Nodup
  | 0 => by
    rw [sum_succ, sum_zero, List.nodup_append]
    refine ⟨head_nodup T T (Nat.le_refl _), sl_nodup T L 0, ?_⟩
    intro a ha b hb
    have h1 := head_lt T T (Nat.le_refl _) a ha
    rcases mem_sl hb with h | h <;> omega
  | i + 1 => by
    rw [sum_succ, List.nodup_append]
    refine ⟨sum_nodup T L i, sl_nodup T L (i + 1), ?_⟩
    intro a ha b hb
    have h1 := sum_lt T L i a ha
    rcases mem_sl hb with h | h
    · omega
    · simp at h; omega
theorem all_lt (T S L x : Nat) (h : x ∈ allN T S L) : x < wordsN T S L := sum_lt T L S x h
theorem all_nodup (T S L : Nat) : (allN T S L).Nodup := sum_nodup T L S

/-! As the numbers that the program reckons. -/
theorem of_cast {T n t : Nat} (h1 : n * T ≤ 100000) (h2 : t ≤ 100000) : ofI (T : Int) (n : Int) (t : Int) = ((4 + n * T + t : Nat) : Int) := by
  unfold ofI
  rw [wrap_in (by have : ((n : Int) * (T : Int)) = ((n * T : Nat) : Int) := by simp
                  rw [this]; omega)]
  simp
theorem slot_small {L i : Nat} (hi : i ≤ 100) (hL : L ≤ 100) : (i - 1) * (6 + L) ≤ 10600 := by
  have := Nat.mul_le_mul (show i - 1 ≤ 100 by omega) (show 6 + L ≤ 106 by omega)
  omega
theorem at_cast {T L i k : Nat} (hT : T ≤ 100) (hL : L ≤ 100) (hi : i ≤ 100) (h1 : 1 ≤ i) (hk : k ≤ 1000) : atI (T : Int) (L : Int) (i : Int) (k : Int) = (atN T L i k : Int) := by
  have hs := slot_small hi hL
  have e : ((i : Int) - 1) * (6 + (L : Int)) = (((i - 1) * (6 + L) : Nat) : Int) := by
    rw [Int.natCast_mul, Int.natCast_add, Int.ofNat_sub h1]; rfl
  unfold atI atN
  rw [e, wrap_in (by omega)]
  omega
theorem next_cast {T L i k : Nat} (hT : T ≤ 100) (hL : L ≤ 100) (hi : i ≤ 100) (hk : k ≤ 900) : nextI (T : Int) (L : Int) (i : Int) (k : Int) = (nextN T L i k : Int) := by
  unfold nextI nextN
  by_cases h : i = 0
  · subst h
    rw [if_pos (by rfl), if_pos rfl]
    exact of_cast (n := 3) (by omega) (by omega)
  · rw [if_neg (by omega), if_neg h]
    have := at_cast hT hL hi (by omega) (show 6 + k ≤ 1000 by omega)
    rw [← this]
    rfl
theorem words_cast {T S L : Nat} (hT : T ≤ 100) (hL : L ≤ 100) (hS : S ≤ 99) : atI (T : Int) (L : Int) (wrap64 ((S : Int) + 1)) 0 = (wordsN T S L : Int) := by
  rw [wrap_in (by omega)]
  have h := at_cast (i := S + 1) (k := 0) hT hL (by omega) (by omega) (by omega)
  simp only [Int.natCast_add, Int.natCast_one] at h
  rw [show ((0 : Nat) : Int) = 0 from rfl] at h
  rw [h]
  simp [atN, wordsN]
theorem words_small {T S L : Nat} (hT : T ≤ 8) (hS : S ≤ 64) (hL : L ≤ 8) : wordsN T S L ≤ 4096 := by
  have := Nat.mul_le_mul hS (show 6 + L ≤ 14 by omega)
  unfold wordsN
  omega

/-- Which places have been met. -/
def seenL (l : List Nat) (m n : Nat) : List Bool := (List.range n).map fun v => decide (v ∈ l.take m)
theorem seen_length (l : List Nat) (m n : Nat) : (seenL l m n).length = n := by simp [seenL]
theorem seen_zero (l : List Nat) (n : Nat) : seenL l 0 n = List.replicate n false := by
  apply List.ext_getElem?
  intro i
  simp [seenL, List.getElem?_replicate]
  by_cases h : i < n <;> simp [h]
theorem seen_get {l : List Nat} (hd : l.Nodup) {m n : Nat} (hm : m < l.length) (hx : l[m] < n) : (seenL l m n)[l[m]]? = some false := by
  have hn : l[m] ∉ l.take m := by
    intro hmem
    obtain ⟨j, hj, he⟩ := List.mem_take_iff_getElem.1 hmem
    have hjm : j < m := by omega
    have := (List.getElem_inj (h₀ := by omega) (h₁ := hm) hd).1 he
    omega
  simp [seenL, hx, hn]
theorem seen_step {l : List Nat} {m n : Nat} (hm : m < l.length) (hx : l[m] < n) : (seenL l m n).set l[m] true = seenL l (m + 1) n := by
  apply List.ext_getElem?
  intro i
  rw [List.getElem?_set, seen_length]
  by_cases e : l[m] = i
  · subst e
    rw [if_pos rfl, if_pos hx]
    simp [seenL, hx, List.take_add_one]
  · rw [if_neg e]
    have hi : (i ∈ l.take (m + 1)) ↔ (i ∈ l.take m) := by
      rw [List.take_add_one, List.mem_append]
      simp [List.getElem?_eq_getElem hm, Ne.symm e]
    by_cases h : i < n
    · simp [seenL, h, hi]
    · simp [seenL, h]
end Go.Proofs.YtafjokjmogadnaaGreatDoor.PM

/- The memory at the beginning, and the free slots that any words tell, in plain lists. No program is named. -/
namespace Go.Proofs.YtafjokjmogadnaaGreatDoor.BM
open Go.RowKit PM CM

/-! Words. -/
theorem get_other {l : List Int} {i j v : Int} (h : i ≠ j) : getI (setI l i v) j = getI l j := by
  by_cases hi : there l i
  · by_cases hj : there l j
    · obtain ⟨a, rfl, ha⟩ := there_nat hi
      obtain ⟨b, rfl, hb⟩ := there_nat hj
      rw [setI_in ha, getI_some (List.getElem?_eq_getElem hb)]
      refine getI_some ?_
      rw [List.getElem?_set_ne (by omega)]
      exact List.getElem?_eq_getElem hb
    · rw [getI_out hj]
      refine getI_out fun h2 => hj ?_
      unfold there at h2 ⊢
      rwa [setI_length] at h2
  · rw [setI_out hi]

/-- All words are such as there can be. -/
def Fits (l : List Int) : Prop := ∀ x ∈ l, 0 ≤ x ∧ x < 18446744073709551616
theorem fits_get {l : List Int} (h : Fits l) (i : Int) : 0 ≤ getI l i ∧ getI l i < 18446744073709551616 := by
  by_cases hi : there l i
  · obtain ⟨a, rfl, ha⟩ := there_nat hi
    rw [getI_some (List.getElem?_eq_getElem ha)]
    exact h _ (List.getElem_mem ha)
  · rw [getI_out hi]
    omega
theorem fits_set {l : List Int} (h : Fits l) (i : Int) {v : Int} (hv : 0 ≤ v ∧ v < 18446744073709551616) : Fits (setI l i v) := by
  unfold setI
  split
  · intro x hx
    rcases List.mem_or_eq_of_mem_set hx with h1 | h1
    · exact h x h1
    · rw [h1]; exact hv
  · exact h

/-! Where a slot's words are. -/
theorem at_less {T L i j a b : Nat} (hi : 1 ≤ i) (h : i < j) (ha : a ≤ 5) : atN T L i a < atN T L j b := by
  have h1 := Nat.mul_le_mul_right (6 + L) (show i ≤ j - 1 by omega)
  have e : i * (6 + L) = (i - 1) * (6 + L) + (6 + L) := by rw [← Nat.succ_mul]; congr 1; omega
  unfold atN
  omega
theorem at_apart {T L i j a b : Nat} (hi : 1 ≤ i) (hj : 1 ≤ j) (ha : a ≤ 5) (hb : b ≤ 5) (h : ¬ (i = j ∧ a = b)) : atN T L i a ≠ atN T L j b := by
  by_cases e : i = j
  · subst e
    unfold atN
    omega
  · rcases Nat.lt_or_gt_of_ne e with h1 | h1
    · have := at_less (T := T) (L := L) (b := b) hi h1 ha
      omega
    · have := at_less (T := T) (L := L) (b := a) hj h1 hb
      omega
theorem at_in {T S L i a : Nat} (hi : 1 ≤ i) (h : i ≤ S) (ha : a ≤ 5) : 4 ≤ atN T L i a ∧ atN T L i a < wordsN T S L := by
  have h1 := Nat.mul_le_mul_right (6 + L) h
  have e : i * (6 + L) = (i - 1) * (6 + L) + (6 + L) := by rw [← Nat.succ_mul]; congr 1; omega
  unfold atN wordsN
  omega
theorem at_nat {T S L i a : Nat} (hT : T ≤ 8) (hS : S ≤ 64) (hL : L ≤ 8) (hi : 1 ≤ i) (h : i ≤ S) (ha : a ≤ 5) : ∃ n : Nat, atI (T : Int) (L : Int) (i : Int) (a : Int) = (n : Int) ∧ n = atN T L i a ∧ 4 ≤ n ∧ n < wordsN T S L :=
  ⟨_, at_cast (by omega) (by omega) (by omega) hi (by omega), rfl, at_in hi h ha⟩

/-! The memory at the beginning. -/
/-- What is below a slot of S. -/
def belowI (S i : Int) : Int := if i < S then i + 1 else 0
theorem below_some {S i : Int} (h : i < S) : belowI S i = i + 1 := if_pos h
theorem below_none {S i : Int} (h : ¬ i < S) : belowI S i = 0 := if_neg h
/-- All words 0, but for the epoch and the stack's head. -/
def headL (n : Nat) : List Int := setI (setI (List.replicate n 0) 0 1) 3 1
/-- So, with the first slots free. -/
def layL (n : Nat) (T S L g : Int) : Nat → List Int
  | 0 => headL n
  | k + 1 => setI (setI (layL n T S L g k) (atI T L ((k : Int) + 1) 0) g) (atI T L ((k : Int) + 1) 5) (belowI S ((k : Int) + 1))
theorem lay_zero (n : Nat) (T S L g : Int) : layL n T S L g 0 = headL n := rfl
theorem lay_succ (n : Nat) (T S L g : Int) (k : Nat) : layL n T S L g (k + 1) = setI (setI (layL n T S L g k) (atI T L ((k : Int) + 1) 0) g) (atI T L ((k : Int) + 1) 5) (belowI S ((k : Int) + 1)) := rfl
theorem head_len (n : Nat) : (headL n).length = n := by unfold headL; rw [setI_length, setI_length, List.length_replicate]
theorem lay_length (n : Nat) (T S L g : Int) : ∀ k, (layL n T S L g k).length = n
  | 0 => head_len n
  | k + 1 => by rw [lay_succ, setI_length, setI_length, lay_length n T S L g k]
theorem fits_head (n : Nat) : Fits (headL n) := by
  refine fits_set (fits_set ?_ _ (by omega)) _ (by omega)
  intro x hx
  rw [List.eq_of_mem_replicate hx]
  omega
theorem fits_lay {S g : Int} (n : Nat) (T L : Int) (hg : 0 ≤ g ∧ g < 18446744073709551616) (hS : S ≤ 64) : ∀ k, Fits (layL n T S L g k)
  | 0 => fits_head n
  | k + 1 => by
    rw [lay_succ]
    refine fits_set (fits_set (fits_lay n T L hg hS k) _ hg) _ ?_
    unfold belowI
    split <;> omega

/-- The head leads to slot 1. -/
theorem head_get {n : Nat} (h : 4 ≤ n) : getI (headL n) 3 = 1 := by
  unfold headL
  refine get_set ?_ 1
  unfold there
  rw [setI_length, List.length_replicate]
  omega
theorem lay_head {T S L : Nat} (g : Int) (hT : T ≤ 8) (hS : S ≤ 64) (hL : L ≤ 8) : ∀ k, k ≤ S → getI (layL (wordsN T S L) T S L g k) 3 = 1
  | 0, _ => head_get (by unfold wordsN; omega)
  | k + 1, hk => by
    obtain ⟨a, ha, _, ha4, _⟩ := at_nat (a := 0) hT hS hL (show 1 ≤ k + 1 by omega) hk (by omega)
    obtain ⟨b, hb, _, hb4, _⟩ := at_nat (a := 5) hT hS hL (show 1 ≤ k + 1 by omega) hk (by omega)
    simp only [Int.natCast_add, Int.natCast_one] at ha hb
    change atI T L ((k : Int) + 1) 0 = _ at ha
    change atI T L ((k : Int) + 1) 5 = _ at hb
    rw [lay_succ, ha, hb, get_other (by omega), get_other (by omega)]
    exact lay_head g hT hS hL k (by omega)
/-- What a slot's word Succ holds. -/
theorem lay_get {T S L : Nat} (g : Int) (hT : T ≤ 8) (hS : S ≤ 64) (hL : L ≤ 8) {i : Nat} (hi : 1 ≤ i) (hiS : i ≤ S) : ∀ k, k ≤ S → getI (layL (wordsN T S L) T S L g k) (atI T L (i : Int) 5) = if i ≤ k then belowI S (i : Int) else 0
  | 0, _ => by
    obtain ⟨a, ha, _, ha4, hal⟩ := at_nat (a := 5) hT hS hL hi hiS (by omega)
    change atI T L (i : Int) 5 = _ at ha
    rw [ha, if_neg (by omega), lay_zero]
    unfold headL
    rw [get_other (by omega), get_other (by omega)]
    exact getI_some (by rw [List.getElem?_replicate, if_pos hal])
  | k + 1, hk => by
    obtain ⟨a, ha, ea, ha4, hal⟩ := at_nat (a := 5) hT hS hL hi hiS (by omega)
    obtain ⟨b, hb, eb, hb4, hbl⟩ := at_nat (a := 0) hT hS hL (show 1 ≤ k + 1 by omega) hk (by omega)
    obtain ⟨c, hc, ec, hc4, hcl⟩ := at_nat (a := 5) hT hS hL (show 1 ≤ k + 1 by omega) hk (by omega)
    have ih := lay_get g hT hS hL hi hiS k (by omega)
    simp only [Int.natCast_add, Int.natCast_one] at hb hc
    change atI T L (i : Int) 5 = _ at ha
    change atI T L ((k : Int) + 1) 0 = _ at hb
    change atI T L ((k : Int) + 1) 5 = _ at hc
    rw [ha] at ih
    rw [lay_succ, ha, hb, hc]
    by_cases e : i = k + 1
    · subst e
      have eac : a = c := by omega
      subst eac
      rw [get_set ?_, if_pos (by omega)]
      · simp
      · unfold there
        rw [setI_length, lay_length]
        omega
    · have n1 : atN T L (k + 1) 5 ≠ atN T L i 5 := at_apart (by omega) hi (by omega) (by omega) (by omega)
      have n2 : atN T L (k + 1) 0 ≠ atN T L i 5 := at_apart (by omega) hi (by omega) (by omega) (by omega)
      rw [get_other (by omega), get_other (by omega), ih]
      by_cases h2 : i ≤ k
      · rw [if_pos h2, if_pos (by omega)]
      · rw [if_neg h2, if_neg (by omega)]
/-- Below the last slot there is none: its word Succ is 0 as it is. -/
theorem lay_last {T S L : Nat} (g : Int) (hT : T ≤ 8) (hS : S ≤ 64) (hL : L ≤ 8) (k : Nat) (h : k + 1 = S) :
    layL (wordsN T S L) T S L g (k + 1) = setI (layL (wordsN T S L) T S L g k) (atI T L ((k : Int) + 1) 0) g := by
  have h0 := lay_get g hT hS hL (i := k + 1) (by omega) (by omega) k (by omega)
  obtain ⟨b, hb, eb, hb4, hbl⟩ := at_nat (a := 0) hT hS hL (show 1 ≤ k + 1 by omega) (show k + 1 ≤ S by omega) (by omega)
  obtain ⟨c, hc, ec, hc4, hcl⟩ := at_nat (a := 5) hT hS hL (show 1 ≤ k + 1 by omega) (show k + 1 ≤ S by omega) (by omega)
  simp only [Int.natCast_add, Int.natCast_one] at hb hc h0
  change atI T L ((k : Int) + 1) 0 = _ at hb
  change atI T L ((k : Int) + 1) 5 = _ at hc
  rw [if_neg (by omega), hc] at h0
  have n1 : atN T L (k + 1) 0 ≠ atN T L (k + 1) 5 := at_apart (by omega) (by omega) (by omega) (by omega) (by omega)
  rw [lay_succ, hb, hc, below_none (by omega)]
  have h1 : getI (setI (layL (wordsN T S L) T S L g k) (b : Int) g) (c : Int) = 0 := by rw [get_other (by omega)]; exact h0
  have h2 := set_get (setI (layL (wordsN T S L) T S L g k) (b : Int) g) (c : Int)
  rwa [h1] at h2

/-! The free slots. -/
/-- From a list on, by what is below each slot. -/
def goF (S : Int) (nx : Int → Int) : Nat → List Int → Int → List Int
  | 0, out, _ => out
  | f + 1, out, b => if 1 ≤ b ∧ b ≤ S ∧ b ∉ out then goF S nx f (out ++ [b]) (nx b) else out
theorem go_zero (S : Int) (nx : Int → Int) (out : List Int) (b : Int) : goF S nx 0 out b = out := rfl
theorem go_stop {S : Int} {nx : Int → Int} {f : Nat} {out : List Int} {b : Int} (h : ¬ (1 ≤ b ∧ b ≤ S ∧ b ∉ out)) : goF S nx f out b = out := by
  cases f with
  | zero => rfl
  | succ f => exact if_neg h
theorem go_step {S : Int} {nx : Int → Int} {f : Nat} {out : List Int} {b : Int} (h : 1 ≤ b ∧ b ≤ S ∧ b ∉ out) : goF S nx (f + 1) out b = goF S nx f (out ++ [b]) (nx b) := if_pos h
theorem go_clip {S : Int} (hS : S ≤ 64) (nx : Int → Int) (f : Nat) (out : List Int) {b : Int} (h : ¬ b ≤ 64) : goF S nx f out b = goF S nx f out 0 := by
  rw [go_stop (by omega), go_stop (by omega)]

/-- Slots that there are, no two one. -/
def Good (S : Nat) (out : List Int) : Prop := out.Nodup ∧ ∀ x ∈ out, 1 ≤ x ∧ x ≤ (S : Int)
theorem good_nil (S : Nat) : Good S [] := ⟨List.nodup_nil, by simp⟩
theorem good_snoc {S : Nat} {out : List Int} {b : Int} (h : Good S out) (hb : 1 ≤ b ∧ b ≤ (S : Int) ∧ b ∉ out) : Good S (out ++ [b]) := by
  refine ⟨?_, ?_⟩
  · rw [List.nodup_append]
    refine ⟨h.1, by simp, ?_⟩
    intro x hx y hy e
    simp at hy
    subst hy
    subst e
    exact hb.2.2 hx
  · intro x hx
    rw [List.mem_append] at hx
    rcases hx with hx | hx
    · exact h.2 x hx
    · simp at hx
      subst hx
      exact ⟨hb.1, hb.2.1⟩
theorem good_len : ∀ (S : Nat) (out : List Int), Good S out → out.length ≤ S
  | 0, out, h => by
    cases out with
    | nil => simp
    | cons x l =>
      have := h.2 x (by simp)
      omega
  | S + 1, out, h => by
    have hg : Good S (out.erase ((S : Int) + 1)) := by
      refine ⟨h.1.erase _, fun x hx => ?_⟩
      have h1 := (h.1.mem_erase_iff).1 hx
      have h2 := h.2 x h1.2
      have h3 := h1.1
      omega
    have ih := good_len S _ hg
    by_cases hm : ((S : Int) + 1) ∈ out
    · rw [List.length_erase_of_mem hm] at ih
      omega
    · rw [List.erase_of_not_mem hm] at ih
      omega
/-- Where all stand already, none is left. -/
theorem good_full {S : Nat} {out : List Int} {b : Int} (h : Good S out) (hl : out.length = S) : ¬ (1 ≤ b ∧ b ≤ (S : Int) ∧ b ∉ out) := fun hb => by
  have := good_len S _ (good_snoc h hb)
  simp at this
  omega
theorem go_good {S : Nat} {nx : Int → Int} : ∀ (f : Nat) (out : List Int) (b : Int), Good S out → Good S (goF (S : Int) nx f out b)
  | 0, _, _, h => h
  | f + 1, out, b, h => by
    by_cases hb : 1 ≤ b ∧ b ≤ (S : Int) ∧ b ∉ out
    · rw [go_step hb]
      exact go_good f _ _ (good_snoc h hb)
    · rw [go_stop hb]
      exact h

/-- The free slots that the words tell. -/
def freeL (T : Int) (S : Nat) (L : Int) (l : List Int) : List Int := goF (S : Int) (fun i => getI l (atI T L i 5)) S [] (getI l 3 % 4294967296)
theorem free_length (T : Int) (S : Nat) (L : Int) (l : List Int) : (freeL T S L l).length ≤ S := good_len S _ (go_good _ _ _ (good_nil S))

/-- Slots 1 to k. -/
def firstL (k : Nat) : List Int := (List.range k).map fun i : Nat => (i : Int) + 1
theorem first_succ (k : Nat) : firstL (k + 1) = firstL k ++ [(k : Int) + 1] := by simp [firstL, List.range_succ]
theorem first_length (k : Nat) : (firstL k).length = k := by simp [firstL]
theorem first_get {k i : Nat} (h : i < k) : (firstL k)[i]? = some ((i : Int) + 1) := by simp [firstL, h]
theorem first_not (k : Nat) : ((k : Int) + 1) ∉ firstL k := by
  intro h
  simp only [firstL, List.mem_map, List.mem_range] at h
  obtain ⟨i, hi, e⟩ := h
  omega
theorem go_first {S : Nat} {nx : Int → Int} (hn : ∀ i : Nat, 1 ≤ i → i ≤ S → nx (i : Int) = belowI (S : Int) (i : Int)) : ∀ (f k : Nat), k + f = S → goF (S : Int) nx f (firstL k) (if k < S then (k : Int) + 1 else 0) = firstL S
  | 0, k, h => by
    rw [go_zero]
    congr 1
  | f + 1, k, h => by
    rw [if_pos (by omega), go_step ⟨by omega, by omega, first_not k⟩, ← first_succ]
    have h1 := hn (k + 1) (by omega) (by omega)
    have ih := go_first hn f (k + 1) (by omega)
    rw [Int.natCast_add, Int.natCast_one] at h1
    rw [h1]
    by_cases h2 : k + 1 < S
    · rw [below_some (by omega)]
      rw [if_pos h2] at ih
      simpa using ih
    · rw [below_none (by omega)]
      rwa [if_neg h2] at ih
/-- At the beginning each slot is free once. -/
theorem free_all {T S L : Nat} (g : Int) (hT : T ≤ 8) (hS1 : 1 ≤ S) (hS : S ≤ 64) (hL : L ≤ 8) : freeL (T : Int) S (L : Int) (layL (wordsN T S L) T S L g S) = firstL S := by
  have h := go_first (S := S) (nx := fun i => getI (layL (wordsN T S L) T S L g S) (atI T L i 5)) (fun i h1 h2 => by
    show getI _ (atI T L (i : Int) 5) = _
    rw [lay_get g hT hS hL h1 h2 S (Nat.le_refl _), if_pos h2]) S 0 (by omega)
  rw [if_pos (by omega)] at h
  unfold freeL
  rw [lay_head g hT hS hL S (Nat.le_refl _)]
  exact h
end Go.Proofs.YtafjokjmogadnaaGreatDoor.BM

/- Deeds whose numbers are those of Go's kinds. No program is named. -/
namespace Go.Proofs.YtafjokjmogadnaaGreatDoor.DM
/-- What a deed's numbers are. -/
def Fits (x : D) : Prop := (-9223372036854775808 ≤ x.2.1 ∧ x.2.1 ≤ 9223372036854775807) ∧ (0 ≤ x.2.2.1 ∧ x.2.2.1 < 18446744073709551616) ∧ (0 ≤ x.2.2.2.1 ∧ x.2.2.2.1 < 18446744073709551616) ∧ 0 ≤ x.2.2.2.2 ∧ x.2.2.2.2 < 18446744073709551616
theorem fits_kind {k k' i a b y : Int} (h : Fits (k, i, a, b, y)) : Fits (k', i, a, b, y) := h
end Go.Proofs.YtafjokjmogadnaaGreatDoor.DM

/- The free slots as a stack, in plain lists: taken off, put back, told by Free. No program is named. -/
namespace Go.Proofs.YtafjokjmogadnaaGreatDoor.PoM
open DM PM CM BM Runs

theorem there_of_get {l : List Int} {i : Int} (h : getI l i ≠ 0) : there l i := by
  by_cases ht : there l i
  · exact ht
  · exact absurd (getI_out ht) h
theorem swap_is {l : List Int} (i b : Int) : swapI l i (getI l i) b = setI l i b := if_pos rfl

/-! Done alone. -/
/-- Taking one where there is none. -/
theorem pop_none {T L : Int} {l : List Int} {b : Int} (k : Nat) (h : getI l 3 % 4294967296 = 0) : alone (popA T L) popT (k + 1) l ⟨1, 0, b⟩ = (l, ⟨0, getI l 3, b⟩) := by
  rw [alone_more (popA_1 T L 0 b), nextD_1, foundD_yes (by simp), popT_1n h]
  exact alone_done (popA_0 T L _ _)
/-- The words behind a slot's taking. -/
def popL (T L : Int) (l : List Int) : List Int := setI l 3 (turnI (getI l 3) (getI l (atI T L (getI l 3 % 4294967296) 5)))
theorem pop_some {T L : Int} {l : List Int} {b : Int} (k : Nat) (h : ¬ getI l 3 % 4294967296 = 0) :
    alone (popA T L) popT (k + 3) l ⟨1, 0, b⟩ = (popL T L l, ⟨0, getI l 3, getI l (atI T L (getI l 3 % 4294967296) 5)⟩) := by
  rw [alone_more (popA_1 T L 0 b), nextD_1, foundD_yes (by simp), popT_1 h, alone_more (popA_2 T L _ _), nextD_1, foundD_yes (by simp), popT_2, alone_more (popA_3 T L _ _), nextD_3, foundD_yes (by simp)]
  simp only
  rw [popT_3, swap_is]
  exact alone_done (popA_0 T L _ _)
/-- The words behind a giving back. -/
def pushL (T L i : Int) (l : List Int) : List Int := setI (setI l (atI T L i 5) (getI l 3 % 4294967296)) 3 (turnI (getI l 3) i)
theorem push_some {T L i : Int} {l : List Int} {b : Int} (k : Nat) (h : getI (setI l (atI T L i 5) (getI l 3 % 4294967296)) 3 = getI l 3) :
    alone (pushA T L i) pushT (k + 3) l ⟨1, 0, b⟩ = (pushL T L i l, ⟨0, getI l 3, b⟩) := by
  rw [alone_more (pushA_1 T L i 0 b), nextD_1, foundD_yes (by simp), pushT_1, alone_more (pushA_2 T L i _ _), nextD_2, foundD_yes (by simp), pushT_2, alone_more (pushA_3 T L i _ _), nextD_3, foundD_yes (by simp)]
  simp only
  rw [h, pushT_3]
  have e : swapI (setI l (atI T L i 5) (getI l 3 % 4294967296)) 3 (getI l 3) (turnI (getI l 3) i) = pushL T L i l := by
    unfold pushL
    conv => lhs; rw [← h]
    rw [h]
    unfold swapI
    rw [if_pos h]
  rw [e]
  exact alone_done (pushA_0 T L i _ _)
theorem popL_length (T L : Int) (l : List Int) : (popL T L l).length = l.length := setI_length _ _ _
theorem pushL_length (T L i : Int) (l : List Int) : (pushL T L i l).length = l.length := by unfold pushL; rw [setI_length, setI_length]
theorem fits_popL {T L : Int} {l : List Int} (h : Fits l) : Fits (popL T L l) := fits_set h _ (turn_lo _ _)
theorem fits_pushL {T L i : Int} {l : List Int} (h : Fits l) : Fits (pushL T L i l) := by
  have := fits_get h 3
  exact fits_set (fits_set h _ (by omega)) _ (turn_lo _ _)

/-! The stack. -/
/-- From b on the words lead through just these. -/
def Chain (nx : Int → Int) : Int → List Int → Prop
  | b, [] => b = 0
  | b, x :: r => b = x ∧ Chain nx (nx x) r
theorem chain_congr {nx nx' : Int → Int} : ∀ {b : Int} {r : List Int}, (∀ x ∈ r, nx' x = nx x) → Chain nx b r → Chain nx' b r
  | _, [], _, h => h
  | _, x :: r, hn, h => ⟨h.1, by rw [hn x List.mem_cons_self]; exact chain_congr (fun y hy => hn y (List.mem_cons_of_mem _ hy)) h.2⟩
theorem go_chain {S : Nat} {nx : Int → Int} : ∀ (r out : List Int) (b : Int) (f : Nat), Chain nx b r → Good S (out ++ r) → r.length ≤ f → goF (S : Int) nx f out b = out ++ r
  | [], out, b, f, hc, _, _ => by
    have h : b = 0 := hc
    rw [go_stop (by omega), List.append_nil]
  | x :: r, out, b, 0, _, _, hl => by simp at hl
  | x :: r, out, b, f + 1, hc, hg, hl => by
    obtain ⟨h1, h2⟩ := hc
    subst h1
    have hx := hg.2 b (by simp)
    have hn : b ∉ out := by
      have h3 := (List.nodup_append.1 hg.1).2.2
      intro hm
      exact h3 b hm b List.mem_cons_self rfl
    have e : out ++ b :: r = out ++ [b] ++ r := by rw [List.append_assoc]; rfl
    rw [go_step ⟨hx.1, hx.2, hn⟩, e]
    exact go_chain r (out ++ [b]) (nx b) f h2 (by rw [← e]; exact hg) (by simp at hl; omega)
/-- The words lead from the head through just these slots. -/
def Stack (T L : Int) (l : List Int) (r : List Int) : Prop := Chain (fun i => getI l (atI T L i 5)) (getI l 3 % 4294967296) r
theorem stack_free {T L : Int} {S : Nat} {l r : List Int} (h : Stack T L l r) (hg : Good S r) : freeL T S L l = r := by
  have := go_chain r [] _ S h (by simpa using hg) (good_len S r hg)
  simpa [freeL] using this
theorem chain_first {S : Nat} {nx : Int → Int} (hn : ∀ i : Nat, 1 ≤ i → i ≤ S → nx (i : Int) = belowI (S : Int) (i : Int)) : ∀ (f k : Nat), k + f = S → Chain nx (if k < S then (k : Int) + 1 else 0) ((List.range f).map fun i : Nat => (k : Int) + 1 + (i : Int))
  | 0, k, h => by
    rw [if_neg (by omega)]
    rfl
  | f + 1, k, h => by
    rw [if_pos (by omega), List.range_succ_eq_map, List.map_cons]
    refine ⟨by simp, ?_⟩
    have h1 := hn (k + 1) (by omega) (by omega)
    have ih := chain_first hn f (k + 1) (by omega)
    rw [Int.natCast_add, Int.natCast_one] at h1
    simp only [Int.natCast_zero, Int.add_zero, h1]
    have e : (List.map (fun i : Nat => (k : Int) + 1 + (i : Int)) (List.map Nat.succ (List.range f))) = (List.range f).map fun i : Nat => ((k + 1 : Nat) : Int) + 1 + (i : Int) := by
      rw [List.map_map]
      apply List.map_congr_left
      intro a _
      simp only [Function.comp]
      omega
    rw [e]
    by_cases h2 : k + 1 < S
    · rw [below_some (by omega)]
      rw [if_pos h2] at ih
      simpa using ih
    · rw [below_none (by omega)]
      rwa [if_neg h2] at ih
theorem stack_first {T S L : Nat} (g : Int) (hT : T ≤ 8) (hS1 : 1 ≤ S) (hS : S ≤ 64) (hL : L ≤ 8) : Stack (T : Int) (L : Int) (layL (wordsN T S L) T S L g S) (firstL S) := by
  have h := chain_first (S := S) (nx := fun i => getI (layL (wordsN T S L) T S L g S) (atI T L i 5)) (fun i h1 h2 => by
    show getI _ (atI T L (i : Int) 5) = _
    rw [lay_get g hT hS hL h1 h2 S (Nat.le_refl _), if_pos h2]) S 0 (by omega)
  rw [if_pos (by omega)] at h
  unfold Stack
  rw [lay_head g hT hS hL S (Nat.le_refl _)]
  have e : firstL S = (List.range S).map fun i : Nat => ((0 : Nat) : Int) + 1 + (i : Int) := by
    unfold firstL
    apply List.map_congr_left
    intro a _
    omega
  rw [e]
  exact h
theorem good_first (S : Nat) : Good S (firstL S) := by
  refine ⟨?_, fun x hx => ?_⟩
  · unfold firstL List.Nodup
    rw [List.pairwise_map]
    exact List.nodup_range.imp fun {a b} h e => h (by omega)
  · simp only [firstL, List.mem_map, List.mem_range] at hx
    obtain ⟨i, hi, e⟩ := hx
    omega

/-- Where the words of slots that there are stand. -/
theorem slot_at {T S L : Nat} (hT : T ≤ 8) (hS : S ≤ 64) (hL : L ≤ 8) {i : Int} (h1 : 1 ≤ i) (h2 : i ≤ S) : 4 ≤ atI T L i 5 ∧ atI T L i 5 < wordsN T S L ∧ ∀ j : Int, 1 ≤ j → j ≤ S → i ≠ j → atI T L i 5 ≠ atI T L j 5 := by
  obtain ⟨i, rfl⟩ := Int.eq_ofNat_of_zero_le (show 0 ≤ i by omega)
  obtain ⟨a, ha, ea, ha4, hal⟩ := at_nat (T := T) (S := S) (L := L) (a := 5) hT hS hL (show 1 ≤ i by omega) (by omega) (by omega)
  change atI (T : Int) (L : Int) (i : Int) 5 = _ at ha
  refine ⟨by rw [ha]; omega, by rw [ha]; omega, fun j hj1 hj2 hne => ?_⟩
  obtain ⟨j, rfl⟩ := Int.eq_ofNat_of_zero_le (show 0 ≤ j by omega)
  obtain ⟨b, hb, eb, hb4, hbl⟩ := at_nat (T := T) (S := S) (L := L) (a := 5) hT hS hL (show 1 ≤ j by omega) (by omega) (by omega)
  change atI (T : Int) (L : Int) (j : Int) 5 = _ at hb
  rw [ha, hb]
  have := at_apart (T := T) (L := L) (i := i) (j := j) (a := 5) (b := 5) (by omega) (by omega) (by omega) (by omega) (by omega)
  omega

/-- The top one is taken. -/
theorem stack_pop {T S L : Nat} (hT : T ≤ 8) (hS : S ≤ 64) (hL : L ≤ 8) {l : List Int} {x : Int} {r : List Int} (h : Stack T L l (x :: r)) (hg : Good S (x :: r)) (h3 : there l 3) :
    getI l 3 % 4294967296 = x ∧ Stack T L (popL T L l) r := by
  obtain ⟨h1, h2⟩ := h
  refine ⟨h1, ?_⟩
  unfold Stack popL
  rw [get_set h3, turn_low, h1]
  have e : getI l (atI T L x 5) % 4294967296 = getI l (atI T L x 5) := by
    cases r with
    | nil => have : getI l (atI T L x 5) = 0 := h2; rw [this]; rfl
    | cons y r =>
      have e1 : getI l (atI T L x 5) = y := h2.1
      have := hg.2 y (by simp)
      omega
  rw [e]
  refine chain_congr (fun y hy => ?_) h2
  have hy1 := hg.2 y (List.mem_cons_of_mem _ hy)
  have := (slot_at (T := T) (S := S) (L := L) hT hS hL hy1.1 hy1.2).1
  exact get_other (by omega)
/-- One is put on top. -/
theorem stack_push {T S L : Nat} (hT : T ≤ 8) (hS : S ≤ 64) (hL : L ≤ 8) {l : List Int} {i : Int} {r : List Int} (h : Stack T L l r) (hg : Good S (i :: r)) (hn : l.length = wordsN T S L) :
    getI (setI l (atI T L i 5) (getI l 3 % 4294967296)) 3 = getI l 3 ∧ Stack T L (pushL T L i l) (i :: r) := by
  have hi := hg.2 i List.mem_cons_self
  obtain ⟨a4, al, an⟩ := slot_at (T := T) (S := S) (L := L) hT hS hL hi.1 hi.2
  have h0 : getI (setI l (atI T L i 5) (getI l 3 % 4294967296)) 3 = getI l 3 := get_other (by omega)
  refine ⟨h0, ?_⟩
  have hw : 4 ≤ wordsN T S L := by omega
  have h3 : there (setI l (atI T L i 5) (getI l 3 % 4294967296)) 3 := by
    unfold there
    rw [setI_length]
    omega
  have hth : there l (atI T L i 5) := by
    unfold there
    omega
  unfold Stack pushL
  rw [get_set h3, turn_low]
  refine ⟨by omega, ?_⟩
  show Chain (fun j => getI (setI (setI l (atI T L i 5) (getI l 3 % 4294967296)) 3 (turnI (getI l 3) i)) (atI T L j 5)) (getI (setI (setI l (atI T L i 5) (getI l 3 % 4294967296)) 3 (turnI (getI l 3) i)) (atI T L i 5)) r
  rw [get_other (show (3 : Int) ≠ atI T L i 5 by omega), get_set hth]
  refine chain_congr (fun y hy => ?_) h
  have hy1 := hg.2 y (List.mem_cons_of_mem _ hy)
  have hy4 := (slot_at (T := T) (S := S) (L := L) hT hS hL hy1.1 hy1.2).1
  have hne : i ≠ y := fun e => by
    subst e
    exact (List.nodup_cons.1 hg.1).1 hy
  show getI (setI (setI l (atI T L i 5) (getI l 3 % 4294967296)) 3 (turnI (getI l 3) i)) (atI T L y 5) = getI l (atI T L y 5)
  rw [get_other (by omega), get_other (an y hy1.1 hy1.2 hne)]
theorem stack_none {T L : Int} {l : List Int} (h : Stack T L l []) : getI l 3 % 4294967296 = 0 := h

/-! Deeds whose numbers are such as there can be. -/
theorem fits_next {l : List Int} {d : D} (h : BM.Fits l) (hd : DM.Fits d) : BM.Fits (nextD l d) := by
  obtain ⟨kd, i, a, b, y⟩ := d
  obtain ⟨h1, h2, h3, h4⟩ := hd
  simp only at h2 h3
  by_cases e1 : kd = 1
  · subst e1; rw [nextD_1]; exact h
  by_cases e2 : kd = 2
  · subst e2; rw [nextD_2]; exact fits_set h _ h2
  by_cases e3 : kd = 3
  · subst e3; rw [nextD_3]; unfold swapI; split
    · exact fits_set h _ h3
    · exact h
  by_cases e4 : kd = 4
  · subst e4; rw [nextD_4]; unfold addI; exact fits_set h _ (by omega)
  rw [nextD_no (by simp only; omega)]
  exact h
theorem fits_found {l : List Int} (h : BM.Fits l) (d : D) : 0 ≤ foundD l d ∧ foundD l d < 18446744073709551616 := by
  unfold foundD
  split
  · exact fits_get h _
  · omega
theorem at_fits (T L s k : Int) : -9223372036854775808 ≤ atI T L s k ∧ atI T L s k ≤ 9223372036854775807 := by unfold atI; generalize 4 + 3 * T + L + (s - 1) * (6 + L) + k = z; unfold Go.RowKit.wrap64; omega
theorem popA_fits {T L : Int} {s : St} {d : D} (hs : Ok s) (h : popA T L s = some d) : DM.Fits d := by
  obtain ⟨st, wa, lo⟩ := s
  obtain ⟨h1, h2, h3⟩ := hs
  simp only at h1 h2 h3
  have := turn_lo wa lo
  have ha := at_fits T L (wa % 4294967296) 5
  rcases h1 with rfl | rfl | rfl | rfl
  · rw [popA_0] at h; cases h
  · rw [popA_1] at h; cases h; unfold DM.Fits; simp only; omega
  · rw [popA_2] at h; cases h; unfold DM.Fits; simp only; omega
  · rw [popA_3] at h; cases h; unfold DM.Fits; simp only; omega
theorem pushA_fits {T L i : Int} {s : St} {d : D} (hs : Ok s) (h : pushA T L i s = some d) : DM.Fits d := by
  obtain ⟨st, wa, lo⟩ := s
  obtain ⟨h1, h2, h3⟩ := hs
  simp only at h1 h2 h3
  have := turn_lo wa i
  have ha := at_fits T L i 5
  rcases h1 with rfl | rfl | rfl | rfl
  · rw [pushA_0] at h; cases h
  · rw [pushA_1] at h; cases h; unfold DM.Fits; simp only; omega
  · rw [pushA_2] at h; cases h; unfold DM.Fits; simp only; omega
  · rw [pushA_3] at h; cases h; unfold DM.Fits; simp only; omega

/-! Free ones and held ones. -/
theorem good_perm {S : Nat} {l l' : List Int} (h : Good S l) (hp : l'.Perm l) : Good S l' := ⟨(hp.nodup_iff).2 h.1, fun x hx => h.2 x (hp.mem_iff.1 hx)⟩
theorem good_take {S : Nat} {x : Int} {r hl : List Int} (h : Good S (x :: r ++ hl)) : Good S (r ++ (hl ++ [x])) :=
  good_perm h (by rw [← List.append_assoc]; exact List.perm_append_singleton x (r ++ hl))
theorem good_give {S : Nat} {i : Int} {r hl : List Int} (h : Good S (r ++ i :: hl)) : Good S (i :: r ++ hl) := good_perm h (List.perm_middle (l₁ := r) (a := i) (l₂ := hl)).symm
theorem good_left {S : Nat} {r hl : List Int} (h : Good S (r ++ hl)) : Good S r := ⟨(List.nodup_append.1 h.1).1, fun x hx => h.2 x (List.mem_append_left _ hx)⟩
/-- The free ones, the last one first, as far as they are listed. -/
def downL (S k : Nat) : List Int := ((firstL S).drop k).reverse
theorem down_all (S : Nat) : downL S S = [] := by unfold downL; rw [List.drop_eq_nil_of_le (by rw [first_length]; exact Nat.le_refl _)]; rfl
theorem down_none (S : Nat) : downL S 0 = (firstL S).reverse := rfl
theorem down_length (S k : Nat) : (downL S k).length = S - k := by unfold downL; rw [List.length_reverse, List.length_drop, first_length]
theorem down_step {S k : Nat} (h : k < S) : downL S k = downL S (k + 1) ++ [(k : Int) + 1] := by
  unfold downL
  rw [List.drop_eq_getElem_cons (by rw [first_length]; exact h), List.reverse_cons]
  congr 2
  have := first_get h
  rw [List.getElem?_eq_getElem (by rw [first_length]; exact h)] at this
  exact Option.some.inj this
end Go.Proofs.YtafjokjmogadnaaGreatDoor.PoM

/- A slot that is handed back, in plain arithmetic. No program is named. -/
namespace Go.Proofs.YtafjokjmogadnaaGreatDoor.GiM
open DM PM CM BM Runs SM
open PoM (pushA pushT pushA_0 pushT_ok turn_lo pushL push_some Stack stack_push slot_at fits_pushL pushL_length)
set_option linter.unusedVariables false
set_option linter.unusedSimpArgs false

/-- A giver: whether its state is not stored yet; what comes behind, if anything. -/
structure St where
  fst : Bool
  psh : Option PoM.St
/-- The word that a slot of the generation g comes to. -/
def wordI (g : Int) : Int := SM.nextI (stI g 3)
theorem word_lo (g : Int) : 0 ≤ wordI g ∧ wordI g < 18446744073709551616 := ⟨SM.nextI_lo _, SM.nextI_hi _⟩
theorem word_any {g : Int} (h0 : 0 ≤ g) (h1 : g ≤ 4294967295) (s : Int) (s0 : 0 ≤ s) (s1 : s ≤ 4294967295) : SM.nextI (stI g s) = wordI g := by
  unfold wordI SM.nextI
  rw [stI_gen h0 h1, stI_gen h0 h1]
theorem word_last : wordI 4294967295 = stI 4294967295 4 := by
  unfold wordI SM.nextI
  rw [stI_gen (by decide) (by decide), if_pos rfl]
theorem word_next {g : Int} (h0 : 0 ≤ g) (h1 : g < 4294967295) : wordI g = stI (g + 1) 0 := by
  unfold wordI SM.nextI
  rw [stI_gen h0 (by omega), if_neg (by omega)]
def giveA (T L i x : Int) (s : St) : Option D := if s.fst then some (2, atI T L i 0, x, 0, 0) else s.psh.bind (pushA T L i)
def giveT (s : St) (f : Int) : St := if s.fst then ⟨false, s.psh⟩ else ⟨false, s.psh.map fun q => pushT q f⟩
def Ok (s : St) : Prop := ∀ q, s.psh = some q → PoM.Ok q
def init (g : Int) : St := ⟨true, if g = 4294967295 then none else some ⟨1, 0, 0⟩⟩
theorem giveA_1 (T L i x : Int) (o : Option PoM.St) : giveA T L i x ⟨true, o⟩ = some (2, atI T L i 0, x, 0, 0) := rfl
theorem giveA_n (T L i x : Int) : giveA T L i x ⟨false, none⟩ = none := rfl
theorem giveA_s (T L i x : Int) (q : PoM.St) : giveA T L i x ⟨false, some q⟩ = pushA T L i q := rfl
theorem giveT_1 (o : Option PoM.St) (f : Int) : giveT ⟨true, o⟩ f = ⟨false, o⟩ := rfl
theorem giveT_n (f : Int) : giveT ⟨false, none⟩ f = ⟨false, none⟩ := rfl
theorem giveT_s (q : PoM.St) (f : Int) : giveT ⟨false, some q⟩ f = ⟨false, some (pushT q f)⟩ := rfl
theorem init_last : init 4294967295 = ⟨true, none⟩ := rfl
theorem init_some {g : Int} (h : ¬ g = 4294967295) : init g = ⟨true, some ⟨1, 0, 0⟩⟩ := by unfold init; rw [if_neg h]
theorem holds_push (T L i x : Int) : Holds (giveA T L i x) giveT (pushA T L i) pushT (fun q => ⟨false, some q⟩) := fun q d h => ⟨by rw [giveA_s, h], fun f => giveT_s q f⟩
theorem giveT_ok {s : St} (h : Ok s) {f : Int} (hf : 0 ≤ f ∧ f < 18446744073709551616) : Ok (giveT s f) := by
  obtain ⟨b, o⟩ := s
  intro q hq
  cases b with
  | true => exact h q hq
  | false =>
    cases o with
    | none => cases hq
    | some p =>
      cases hq
      exact pushT_ok (h p rfl) hf
theorem init_ok (g : Int) : Ok (init g) := by
  intro q hq
  by_cases h : g = 4294967295
  · subst h
    cases hq
  · rw [init_some h] at hq
    cases hq
    unfold PoM.Ok
    decide
theorem giveA_fits {T L i x : Int} (hx : 0 ≤ x ∧ x < 18446744073709551616) {s : St} {d : D} (hs : Ok s) (h : giveA T L i x s = some d) : DM.Fits d := by
  obtain ⟨b, o⟩ := s
  cases b with
  | true =>
    rw [giveA_1] at h
    cases h
    have ha := PoM.at_fits T L i 0
    unfold DM.Fits
    simp only
    omega
  | false =>
    cases o with
    | none => rw [giveA_n] at h; cases h
    | some q => exact PoM.pushA_fits (hs q rfl) h

/-! Done alone. -/
theorem give_last {T L i x : Int} {l : List Int} (k : Nat) : alone (giveA T L i x) giveT (k + 1) l ⟨true, none⟩ = (setI l (atI T L i 0) x, ⟨false, none⟩) := by
  rw [alone_more (giveA_1 T L i x none), nextD_2, giveT_1]
  exact alone_done (giveA_n T L i x)
theorem alone_in {σ τ : Type} {ask : σ → Option D} {tell : σ → Int → σ} {askS : τ → Option D} {tellS : τ → Int → τ} {ι : τ → σ} (h : Holds ask tell askS tellS ι) (hn : ∀ t, askS t = none → ask (ι t) = none) : ∀ (k : Nat) (l : List Int) (t : τ),
    alone ask tell k l (ι t) = ((alone askS tellS k l t).1, ι (alone askS tellS k l t).2)
  | 0, l, t => rfl
  | k + 1, l, t => by
    cases ha : askS t with
    | none => rw [alone_done ha, alone_done (hn t ha)]
    | some d =>
      obtain ⟨h1, h2⟩ := h t d ha
      rw [alone_more ha, alone_more h1, h2]
      exact alone_in h hn k _ _
/-- The words behind. -/
def giveL (T L i x : Int) (l : List Int) : List Int := pushL T L i (setI l (atI T L i 0) x)
theorem give_some {T L i x : Int} {l : List Int} (k : Nat) (h : getI (setI (setI l (atI T L i 0) x) (atI T L i 5) (getI (setI l (atI T L i 0) x) 3 % 4294967296)) 3 = getI (setI l (atI T L i 0) x) 3) :
    alone (giveA T L i x) giveT (k + 4) l ⟨true, some ⟨1, 0, 0⟩⟩ = (giveL T L i x l, ⟨false, some ⟨0, getI (setI l (atI T L i 0) x) 3, 0⟩⟩) := by
  rw [alone_more (giveA_1 T L i x _), nextD_2, giveT_1]
  rw [alone_in (holds_push T L i x) (fun t h => by rw [giveA_s, h]) (k + 3), push_some k h]
  rfl
end Go.Proofs.YtafjokjmogadnaaGreatDoor.GiM

/- Deeds done to words such as there can be; the memory at the beginning, word by word. No program is named. -/
namespace Go.Proofs.YtafjokjmogadnaaGreatDoor.MM
open DM PM CM BM

theorem fits_next {l : List Int} {d : D} (h : BM.Fits l) (hd : DM.Fits d) : BM.Fits (nextD l d) := by
  obtain ⟨kd, i, a, b, y⟩ := d
  obtain ⟨h1, h2, h3, h4⟩ := hd
  simp only at h2 h3
  by_cases e1 : kd = 1
  · subst e1; rw [nextD_1]; exact h
  by_cases e2 : kd = 2
  · subst e2; rw [nextD_2]; exact fits_set h _ h2
  by_cases e3 : kd = 3
  · subst e3; rw [nextD_3]; unfold swapI; split
    · exact fits_set h _ h3
    · exact h
  by_cases e4 : kd = 4
  · subst e4; rw [nextD_4]; unfold addI; exact fits_set h _ (by omega)
  rw [nextD_no (by simp only; omega)]
  exact h
theorem fits_found {l : List Int} (h : BM.Fits l) (d : D) : 0 ≤ foundD l d ∧ foundD l d < 18446744073709551616 := by
  unfold foundD
  split
  · exact fits_get h _
  · omega
theorem wrap_lo (z : Int) : -9223372036854775808 ≤ Go.RowKit.wrap64 z ∧ Go.RowKit.wrap64 z ≤ 9223372036854775807 := by unfold Go.RowKit.wrap64; omega
theorem at_fits (T L s k : Int) : -9223372036854775808 ≤ atI T L s k ∧ atI T L s k ≤ 9223372036854775807 := wrap_lo _
theorem of_fits (T n k : Int) : -9223372036854775808 ≤ ofI T n k ∧ ofI T n k ≤ 9223372036854775807 := wrap_lo _
theorem next_fits (T L s k : Int) : -9223372036854775808 ≤ PM.nextI T L s k ∧ PM.nextI T L s k ≤ 9223372036854775807 := by
  unfold PM.nextI
  split
  · exact of_fits _ _ _
  · exact at_fits _ _ _ _
theorem swap_is {l : List Int} (i b : Int) : swapI l i (getI l i) b = setI l i b := if_pos rfl
theorem swap_no {l : List Int} {i a b : Int} (h : ¬ getI l i = a) : swapI l i a b = l := if_neg h

/-- What stands outside of the slots at the beginning: nothing but the epoch and the stack's head. -/
theorem lay_low {T S L : Nat} (g : Int) (hT : T ≤ 8) (hS : S ≤ 64) (hL : L ≤ 8) {j : Nat} (h0 : j ≠ 0) (h3 : j ≠ 3) (hj : j < 4 + 3 * T + L) : ∀ k, k ≤ S → getI (layL (wordsN T S L) T S L g k) (j : Int) = 0
  | 0, _ => by
    rw [lay_zero]
    unfold headL
    rw [get_other (by omega), get_other (by omega)]
    exact getI_some (by rw [List.getElem?_replicate, if_pos (by unfold wordsN; omega)])
  | k + 1, hk => by
    obtain ⟨b, hb, eb, _, _⟩ := at_nat (a := 0) hT hS hL (show 1 ≤ k + 1 by omega) hk (by omega)
    obtain ⟨c, hc, ec, _, _⟩ := at_nat (a := 5) hT hS hL (show 1 ≤ k + 1 by omega) hk (by omega)
    simp only [Int.natCast_add, Int.natCast_one] at hb hc
    change atI T L ((k : Int) + 1) 0 = _ at hb
    change atI T L ((k : Int) + 1) 5 = _ at hc
    have b1 : 4 + 3 * T + L ≤ b := by rw [eb]; unfold atN; omega
    have c1 : 4 + 3 * T + L ≤ c := by rw [ec]; unfold atN; omega
    rw [lay_succ, hb, hc, get_other (by omega), get_other (by omega)]
    exact lay_low g hT hS hL h0 h3 hj k (by omega)
/-- Where a thread's words are. -/
theorem of_nat {T S L n k : Nat} (hT : T ≤ 8) (hn : n ≤ 2) (hk : k < T) : ofI (T : Int) (n : Int) (k : Int) = ((4 + n * T + k : Nat) : Int) ∧ 4 ≤ 4 + n * T + k ∧ 4 + n * T + k < 4 + 3 * T + L ∧ 4 + n * T + k < wordsN T S L := by
  have h1 : n * T ≤ 2 * T := Nat.mul_le_mul_right _ hn
  have h2 : 2 * T ≤ 16 := by omega
  exact ⟨of_cast (by omega) (by omega), by omega, by omega, by unfold wordsN; omega⟩
theorem there_in {l : List Int} {T S L j : Nat} (hl : l.length = wordsN T S L) (hj : j < wordsN T S L) : there l (j : Int) := by
  unfold there
  omega
end Go.Proofs.YtafjokjmogadnaaGreatDoor.MM

/- A slot that is handed back alone, where no other one is free, in plain lists. No program is named. -/
namespace Go.Proofs.YtafjokjmogadnaaGreatDoor.GiM
open DM PM CM BM Runs SM
open PoM (pushL Stack stack_push stack_free slot_at)
set_option linter.unusedVariables false
set_option linter.unusedSimpArgs false

theorem frees_all {T S L i : Nat} (hT : T ≤ 8) (hS : S ≤ 64) (hL : L ≤ 8) (h1 : 1 ≤ i) (h2 : i ≤ S) (ls : List Int) (hn : ls.length = wordsN T S L) (h3 : getI ls 3 = 0) (x : Int) :
    (freeL T S L (setI ls (atI (T : Int) (L : Int) (i : Int) 0) x) = [] ∧ getI (setI ls (atI (T : Int) (L : Int) (i : Int) 0) x) (atI (T : Int) (L : Int) (i : Int) 0) = x) ∧
    (getI (setI (setI ls (atI (T : Int) (L : Int) (i : Int) 0) x) (atI (T : Int) (L : Int) (i : Int) 5) (getI (setI ls (atI (T : Int) (L : Int) (i : Int) 0) x) 3 % 4294967296)) 3 = getI (setI ls (atI (T : Int) (L : Int) (i : Int) 0) x) 3 ∧
      freeL T S L (giveL T L i x ls) = [(i : Int)] ∧ getI (giveL T L i x ls) (atI (T : Int) (L : Int) (i : Int) 0) = x) := by
  obtain ⟨a, ha, ea, ha4, hal⟩ := at_nat (T := T) (S := S) (L := L) (a := 0) hT hS hL h1 h2 (by omega)
  obtain ⟨b, hb, eb, hb4, hbl⟩ := at_nat (T := T) (S := S) (L := L) (a := 5) hT hS hL h1 h2 (by omega)
  change atI (T : Int) (L : Int) (i : Int) 0 = _ at ha
  change atI (T : Int) (L : Int) (i : Int) 5 = _ at hb
  have hab : a ≠ b := by
    rw [ea, eb]
    exact at_apart h1 h1 (by omega) (by omega) (by omega)
  have hga : Good S [(i : Int)] := ⟨List.nodup_cons.2 ⟨by simp, List.nodup_nil⟩, fun y hy => by rw [List.mem_singleton] at hy; omega⟩
  have hst : Stack (T : Int) (L : Int) (setI ls (atI (T : Int) (L : Int) (i : Int) 0) x) [] := by
    show getI _ 3 % 4294967296 = 0
    rw [ha, get_other (by omega), h3]
    rfl
  have hl1 : (setI ls (atI (T : Int) (L : Int) (i : Int) 0) x).length = wordsN T S L := by rw [setI_length]; exact hn
  have hx1 : getI (setI ls (atI (T : Int) (L : Int) (i : Int) 0) x) (atI (T : Int) (L : Int) (i : Int) 0) = x := by
    rw [ha]
    exact get_set (by unfold there; omega) x
  obtain ⟨q1, q2⟩ := stack_push hT hS hL hst hga hl1
  refine ⟨⟨stack_free hst ⟨List.nodup_nil, fun y hy => by cases hy⟩, hx1⟩, q1, stack_free q2 hga, ?_⟩
  unfold giveL pushL
  rw [get_other (by rw [ha]; omega), get_other (by rw [ha, hb]; omega)]
  exact hx1
theorem word_yes_last : isI (wordI 4294967295) 4294967295 4 = true := by decide
theorem word_yes_next {g : Int} (h0 : 0 ≤ g) (h1 : g < 4294967295) : isI (wordI g) (g + 1) 0 = true := by
  rw [word_next h0 h1]
  unfold isI
  simp
  omega
theorem give_length (T L i x : Int) (l : List Int) : (giveL T L i x l).length = l.length := by unfold giveL; rw [PoM.pushL_length, setI_length]
end Go.Proofs.YtafjokjmogadnaaGreatDoor.GiM

/- Heights of towers, in plain arithmetic: how many of the lowest bits are 1, the height that a number draws, those that a list draws, how many draw each. No program is named. -/
namespace Go.Proofs.YtafjokjmogadnaaGreatDoor.DM

/-- How many of the lowest bits are 1, one behind the other. -/
def ones (n : Nat) : Nat := if n % 2 = 1 then ones (n / 2) + 1 else 0
decreasing_by omega
theorem ones_odd {n : Nat} (h : n % 2 = 1) : ones n = ones (n / 2) + 1 := by rw [ones, if_pos h]
theorem ones_even {n : Nat} (h : ¬ n % 2 = 1) : ones n = 0 := by rw [ones, if_neg h]
theorem ones_le : ∀ (k n : Nat), n < 2 ^ k → ones n ≤ k
  | 0, n, h => by
    obtain rfl : n = 0 := by simpa using h
    rw [ones_even (by decide)]
    exact Nat.le_refl _
  | k + 1, n, h => by
    by_cases hn : n % 2 = 1
    · rw [ones_odd hn]
      have := ones_le k (n / 2) (by rw [Nat.pow_succ] at h; omega)
      omega
    · rw [ones_even hn]
      omega

def onesI (v : Int) : Nat := ones v.toNat
theorem onesI_odd {v : Int} (h0 : 0 ≤ v) (h : v % 2 = 1) : onesI v = onesI (v / 2) + 1 := by
  unfold onesI
  rw [ones_odd (by omega), show (v / 2).toNat = v.toNat / 2 by omega]
theorem onesI_even {v : Int} (h : ¬ v % 2 = 1) : onesI v = 0 := by
  have hn : ¬ v.toNat % 2 = 1 := by omega
  exact ones_even hn
theorem onesI_le {v : Int} (h0 : 0 ≤ v) (h1 : v < 18446744073709551616) : onesI v ≤ 64 := ones_le 64 _ (by
  have : (2 : Nat) ^ 64 = 18446744073709551616 := by decide
  rw [this]; omega)

/-- The number without its lowest k bits. -/
def tailI (v : Int) (k : Nat) : Int := v / 2 ^ k
theorem tail_zero (v : Int) : tailI v 0 = v := by simp [tailI]
theorem tail_succ (v : Int) (k : Nat) : tailI v (k + 1) = tailI v k / 2 := by
  unfold tailI
  rw [Int.pow_succ, Int.ediv_ediv_of_nonneg (by exact Int.le_of_lt (Int.pow_pos (by decide)))]
theorem tail_lo {v : Int} (h : 0 ≤ v) (k : Nat) : 0 ≤ tailI v k := Int.ediv_nonneg h (Int.le_of_lt (Int.pow_pos (by decide)))
theorem tail_le {v : Int} (h : 0 ≤ v) : ∀ k, tailI v k ≤ v
  | 0 => by rw [tail_zero]; exact Int.le_refl _
  | k + 1 => by rw [tail_succ]; have := tail_le h k; have := tail_lo h k; omega
theorem tail_end {v : Int} (h0 : 0 ≤ v) (h1 : v < 18446744073709551616) : tailI v 64 = 0 := by
  unfold tailI
  rw [show (2 : Int) ^ 64 = 18446744073709551616 by decide]
  omega
theorem tail_odd {v : Int} (h0 : 0 ≤ v) {k : Nat} (he : onesI v = k + onesI (tailI v k)) (h : tailI v k % 2 = 1) : onesI v = (k + 1) + onesI (tailI v (k + 1)) := by
  rw [tail_succ]
  have := onesI_odd (tail_lo h0 k) h
  omega
theorem tail_even {v : Int} {k : Nat} (he : onesI v = k + onesI (tailI v k)) (h : ¬ tailI v k % 2 = 1) : onesI v = k := by
  have := onesI_even h
  omega
theorem tail_done {v : Int} (h0 : 0 ≤ v) (h1 : v < 18446744073709551616) (he : onesI v = 64 + onesI (tailI v 64)) : onesI v = 64 := by
  have hz : onesI 0 = 0 := onesI_even (v := 0) (by decide)
  rw [tail_end h0 h1, hz] at he
  exact he

/-- The height that v draws, of so many levels. -/
def heightI (v lv : Int) : Int := if lv < 1 then 0 else if lv ≤ (onesI v : Int) + 1 then lv else (onesI v : Int) + 1
theorem height_none {v lv : Int} (h : lv < 1) : heightI v lv = 0 := if_pos h
theorem height_all {v lv : Int} (h : ¬ lv < 1) (h2 : lv ≤ (onesI v : Int) + 1) : heightI v lv = lv := by unfold heightI; rw [if_neg h, if_pos h2]
theorem height_some {v lv : Int} (h : ¬ lv < 1) (h2 : ¬ lv ≤ (onesI v : Int) + 1) : heightI v lv = (onesI v : Int) + 1 := by unfold heightI; rw [if_neg h, if_neg h2]
theorem height_lo (v lv : Int) : 0 ≤ heightI v lv := by
  unfold heightI
  split
  · omega
  · split <;> omega
theorem height_pos {v lv : Int} (h : ¬ lv < 1) : 1 ≤ heightI v lv := by
  unfold heightI
  rw [if_neg h]
  split <;> omega
theorem height_hi {v lv : Int} (h : ¬ lv < 1) : heightI v lv ≤ lv := by
  unfold heightI
  rw [if_neg h]
  split <;> omega

theorem height_mono {v lv mo : Int} (h : ¬ lv < 1) (hm : lv ≤ mo) : heightI v lv ≤ heightI v mo := by
  have h2 : ¬ mo < 1 := by omega
  unfold heightI
  rw [if_neg h, if_neg h2]
  split <;> split <;> omega
theorem height_stays {v lv mo : Int} (h : ¬ lv < 1) (hm : lv ≤ mo) : ¬ heightI v lv = lv → heightI v lv = heightI v mo := by
  have h2 : ¬ mo < 1 := by omega
  unfold heightI
  rw [if_neg h, if_neg h2]
  split <;> split <;> omega
theorem height_even {v lv : Int} (h : ¬ lv < 1) (he : v % 2 = 0) : heightI v lv = 1 := by
  have := onesI_even (v := v) (by omega)
  unfold heightI
  rw [if_neg h, this]
  split <;> omega
theorem height_odd {v lv : Int} (h0 : 0 ≤ v) (h : ¬ lv < 1) (he : v % 2 = 1) (h1 : ¬ lv = 1) : 1 < heightI v lv := by
  have := onesI_odd h0 he
  unfold heightI
  rw [if_neg h, this]
  split <;> omega

/-- How many of l draw h, of so many levels. -/
def drawn (l : List Int) (lv h : Int) : Nat := l.countP fun v => heightI v lv == h
theorem drawn_nil (lv h : Int) : drawn [] lv h = 0 := rfl
theorem drawn_le (l : List Int) (lv h : Int) : drawn l lv h ≤ l.length := List.countP_le_length
theorem drawn_take (l : List Int) (lv h : Int) (k : Nat) (hk : k < l.length) : drawn (l.take (k + 1)) lv h = drawn (l.take k) lv h + if heightI l[k] lv = h then 1 else 0 := by
  unfold drawn
  rw [List.take_succ_eq_append_getElem hk, List.countP_append]
  by_cases e : heightI l[k] lv = h <;> simp [e]

/-- How many draw 1, 2, .., m. -/
def counts (l : List Int) (lv : Int) (m : Nat) : List Int := (List.range m).map fun j : Nat => ((drawn l lv ((j : Int) + 1) : Nat) : Int)
theorem counts_length (l : List Int) (lv : Int) (m : Nat) : (counts l lv m).length = m := by simp [counts]
theorem counts_get (l : List Int) (lv : Int) (m : Nat) {j : Nat} (hj : j < m) : (counts l lv m)[j]? = some (drawn l lv ((j : Int) + 1) : Int) := by simp [counts, hj]
theorem counts_nil (lv : Int) (m : Nat) : counts [] lv m = List.replicate m 0 := by
  apply List.ext_getElem?
  intro i
  simp [counts, drawn_nil, List.getElem?_replicate]
  by_cases h : i < m <;> simp [h]
theorem counts_succ (l : List Int) (lv : Int) (m : Nat) : counts l lv (m + 1) = counts l lv m ++ [(drawn l lv ((m : Int) + 1) : Int)] := by simp [counts, List.range_succ]
/-- One more number is counted at its height. -/
theorem counts_step (l : List Int) (lv : Int) (m k : Nat) (hk : k < l.length) (t : Nat) (ht : t < m) (hh : heightI l[k] lv = (t : Int) + 1) :
    counts (l.take (k + 1)) lv m = (counts (l.take k) lv m).set t ((drawn (l.take k) lv ((t : Int) + 1) : Int) + 1) := by
  apply List.ext_getElem?
  intro i
  by_cases hi : i < m
  · rw [counts_get _ _ _ hi, drawn_take l lv _ k hk, List.getElem?_set]
    by_cases e : t = i
    · subst e
      rw [if_pos hh, if_pos rfl, if_pos (by rw [counts_length]; exact ht)]
      simp
    · rw [if_neg e, counts_get _ _ _ hi, if_neg (by omega)]
      simp
  · rw [List.getElem?_eq_none (by rw [counts_length]; omega), List.getElem?_eq_none (by rw [List.length_set, counts_length]; omega)]
theorem counts_zero (l l' : List Int) (lv : Int) (m : Nat) (hm : m = 0) : counts l lv m = counts l' lv m := by rw [hm]; rfl

/-- So many heights are counted: levels below 0 as 0, above 64 as 64. -/
def levelsN (lv : Int) : Nat := (min (max lv 0) 64).toNat
theorem levels_cast (lv : Int) : min (max lv 0) 64 = (levelsN lv : Int) := by unfold levelsN; omega
theorem levels_le (lv : Int) : levelsN lv ≤ 64 := by unfold levelsN; omega

/-- A row half filled with heights. -/
def filled (l : List Int) (lv : Int) (k : Nat) : List Int := (l.take k).map (heightI · lv) ++ List.replicate (l.length - k) 0
theorem filled_zero (l : List Int) (lv : Int) : filled l lv 0 = List.replicate l.length 0 := by simp [filled]
theorem filled_all (l : List Int) (lv : Int) : filled l lv l.length = l.map (heightI · lv) := by simp [filled]
theorem filled_length (l : List Int) (lv : Int) (k : Nat) (hk : k ≤ l.length) : (filled l lv k).length = l.length := by simp [filled]; omega
theorem filled_step (l : List Int) (lv : Int) (k : Nat) (hk : k < l.length) : (filled l lv k).set k (heightI l[k] lv) = filled l lv (k + 1) := by
  have hl : ((l.take k).map (heightI · lv)).length = k := by simp; omega
  unfold filled
  rw [List.set_append_right _ _ (by omega), hl, Nat.sub_self, show l.length - k = (l.length - (k + 1)) + 1 by omega, List.replicate_succ, List.set_cons_zero,
    List.take_succ_eq_append_getElem hk, List.map_append, List.append_assoc]
  rfl
theorem map_take (l : List Int) (lv : Int) (k : Nat) (hk : k < l.length) : (l.take (k + 1)).map (heightI · lv) = (l.take k).map (heightI · lv) ++ [heightI l[k] lv] := by
  rw [List.take_succ_eq_append_getElem hk, List.map_append]
  rfl
end Go.Proofs.YtafjokjmogadnaaGreatDoor.DM
