/- A slot that is handed back alone, where no other one is free, in plain lists. No program is named. -/
import Derived.Test.YtcnbbflgccdfjaaDoorGiveMath
import Derived.Test.YtcnbbflgccdfjaaDoorMem
namespace Go.Proofs.YtcnbbflgccdfjaaDoor.GiM
open DM PM CM BM Runs SM
open PoM (pushL Stack stack_push stack_free slot_at)
set_option linter.unusedVariables false
set_option linter.unusedSimpArgs false

theorem frees_all {T S L i : Nat} (hT : T ≤ 8) (hS : S ≤ 64) (hL : L ≤ 8) (h1 : 1 ≤ i) (h2 : i ≤ S) (ls : List Int) (hn : ls.length = wordsN T S L) (h3 : getI ls 3 = 0) (x : Int) :
    (freeL T S L (setI ls (atI (T : Int) (L : Int) (i : Int) 0) x) = [] ∧ getI (setI ls (atI (T : Int) (L : Int) (i : Int) 0) x) (atI (T : Int) (L : Int) (i : Int) 0) = x) ∧
    (getI (setI (setI ls (atI (T : Int) (L : Int) (i : Int) 0) x) (atI (T : Int) (L : Int) (i : Int) 5) (getI (setI ls (atI (T : Int) (L : Int) (i : Int) 0) x) 3 % 4294967296)) 3 = getI (setI ls (atI (T : Int) (L : Int) (i : Int) 0) x) 3 ∧
      freeL T S L (giveL T L i x ls) = [(i : Int)] ∧ getI (giveL T L i x ls) (atI (T : Int) (L : Int) (i : Int) 0) = x) := by
  obtain ⟨a, ha, ea, ha4, hal⟩ := at_nat (T := T) (S := S) (L := L) (a := 0) hT hS hL h1 h2 (by omega)
  obtain ⟨b, hb, eb, hb4, hbl⟩ := at_nat (T := T) (S := S) (L := L) (a := 5) hT hS hL h1 h2 (by omega)
  change atI (T : Int) (L : Int) (i : Int) 0 = _ at ha
  change atI (T : Int) (L : Int) (i : Int) 5 = _ at hb
  have hab : a ≠ b := by
    rw [ea, eb]
    exact at_apart h1 h1 (by omega) (by omega) (by omega)
  have hga : Good S [(i : Int)] := ⟨List.nodup_cons.2 ⟨by simp, List.nodup_nil⟩, fun y hy => by rw [List.mem_singleton] at hy; omega⟩
  have hst : Stack (T : Int) (L : Int) (setI ls (atI (T : Int) (L : Int) (i : Int) 0) x) [] := by
    show getI _ 3 % 4294967296 = 0
    rw [ha, get_other (by omega), h3]
    rfl
  have hl1 : (setI ls (atI (T : Int) (L : Int) (i : Int) 0) x).length = wordsN T S L := by rw [setI_length]; exact hn
  have hx1 : getI (setI ls (atI (T : Int) (L : Int) (i : Int) 0) x) (atI (T : Int) (L : Int) (i : Int) 0) = x := by
    rw [ha]
    exact get_set (by unfold there; omega) x
  obtain ⟨q1, q2⟩ := stack_push hT hS hL hst hga hl1
  refine ⟨⟨stack_free hst ⟨List.nodup_nil, fun y hy => by cases hy⟩, hx1⟩, q1, stack_free q2 hga, ?_⟩
  unfold giveL pushL
  rw [get_other (by rw [ha]; omega), get_other (by rw [ha, hb]; omega)]
  exact hx1
theorem word_yes_last : isI (wordI 4294967295) 4294967295 4 = true := by decide
theorem word_yes_next {g : Int} (h0 : 0 ≤ g) (h1 : g < 4294967295) : isI (wordI g) (g + 1) 0 = true := by
  rw [word_next h0 h1]
  unfold isI
  simp
  omega
theorem give_length (T L i x : Int) (l : List Int) : (giveL T L i x l).length = l.length := by unfold giveL; rw [PoM.pushL_length, setI_length]
end Go.Proofs.YtcnbbflgccdfjaaDoor.GiM
