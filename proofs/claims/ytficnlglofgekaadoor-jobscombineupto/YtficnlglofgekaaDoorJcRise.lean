/-
  Numbers, rising, each once: by insertion, and by sorting and leaving out neighbours that are alike.
-/
import Derived.Test.YtficnlglofgekaaDoorJcNums
import Derived.Lib.SlicesCompact
namespace Go.Proofs.YtficnlglofgekaaDoor.Jb
set_option linter.unusedVariables false
/-- A list that rises strictly. -/
def Up (l : List Int) : Prop := l.Pairwise (· < ·)
theorem up_ext : ∀ {a b : List Int}, Up a → Up b → (∀ x, x ∈ a ↔ x ∈ b) → a = b
  | [], [], _, _, _ => rfl
  | [], y :: b, _, _, h => absurd ((h y).2 (by simp)) (by simp)
  | x :: a, [], _, _, h => absurd ((h x).1 (by simp)) (by simp)
  | x :: a, y :: b, ha, hb, h => by
    have ha2 := List.pairwise_cons.1 ha
    have hb2 := List.pairwise_cons.1 hb
    have hxy : x = y := by
      have h1 := (h x).1 (by simp)
      have h2 := (h y).2 (by simp)
      rcases List.mem_cons.1 h1 with e | e
      · exact e
      · rcases List.mem_cons.1 h2 with e2 | e2
        · exact e2.symm
        · have := hb2.1 x e
          have := ha2.1 y e2
          omega
    subst hxy
    rw [up_ext ha2.2 hb2.2 (fun z => by
      constructor
      · intro hz
        have h1 := (h z).1 (List.mem_cons_of_mem _ hz)
        rcases List.mem_cons.1 h1 with e | e
        · have := ha2.1 z hz; omega
        · exact e
      · intro hz
        have h1 := (h z).2 (List.mem_cons_of_mem _ hz)
        rcases List.mem_cons.1 h1 with e | e
        · have := hb2.1 z hz; omega
        · exact e)]
/-- How many stand below v, at the head. -/
def posU (l : List Int) (v : Int) : Nat := (l.takeWhile (fun x => decide (x < v))).length
def insU : List Int → Int → List Int
  | [], v => [v]
  | x :: l, v => if x < v then x :: insU l v else if x = v then x :: l else v :: x :: l
theorem insU_mem : ∀ (l : List Int) (v z : Int), z ∈ insU l v ↔ z = v ∨ z ∈ l
  | [], v, z => by simp [insU]
  | x :: l, v, z => by
    unfold insU
    by_cases h1 : x < v
    · rw [if_pos h1, List.mem_cons, insU_mem l v z, List.mem_cons]
      constructor
      · rintro (h | h | h)
        · exact .inr (.inl h)
        · exact .inl h
        · exact .inr (.inr h)
      · rintro (h | h | h)
        · exact .inr (.inl h)
        · exact .inl h
        · exact .inr (.inr h)
    · rw [if_neg h1]
      by_cases h2 : x = v
      · rw [if_pos h2, List.mem_cons]
        subst h2
        constructor
        · intro h; exact .inr h
        · rintro (h | h)
          · exact .inl h
          · exact h
      · rw [if_neg h2, List.mem_cons]
theorem insU_up : ∀ (l : List Int) (v : Int), Up l → Up (insU l v)
  | [], v, _ => by unfold insU Up; simp
  | x :: l, v, h => by
    have h2 := List.pairwise_cons.1 h
    unfold insU
    by_cases h1 : x < v
    · rw [if_pos h1]
      refine List.pairwise_cons.2 ⟨fun z hz => ?_, insU_up l v h2.2⟩
      rcases (insU_mem l v z).1 hz with e | e
      · omega
      · exact h2.1 z e
    · rw [if_neg h1]
      by_cases h3 : x = v
      · rw [if_pos h3]; exact h
      · rw [if_neg h3]
        refine List.pairwise_cons.2 ⟨fun z hz => ?_, h⟩
        rcases List.mem_cons.1 hz with e | e
        · omega
        · have := h2.1 z e; omega
/-- As the document's loop does it: by the place. -/
theorem insU_at : ∀ (l : List Int) (v : Int), insU l v = if posU l v < l.length ∧ l.getD (posU l v) 0 = v then l else l.take (posU l v) ++ [v] ++ l.drop (posU l v)
  | [], v => by unfold insU posU; simp
  | x :: l, v => by
    unfold insU
    by_cases h1 : x < v
    · have e : posU (x :: l) v = posU l v + 1 := by unfold posU; rw [List.takeWhile_cons_of_pos (by simpa using h1)]; rfl
      rw [if_pos h1, insU_at l v, e]
      simp only [List.length_cons, List.getD_cons_succ, List.take_succ_cons, List.drop_succ_cons, Nat.add_lt_add_iff_right]
      split
      · rfl
      · rfl
    · have e : posU (x :: l) v = 0 := by unfold posU; rw [List.takeWhile_cons_of_neg (by simpa using h1)]; rfl
      rw [if_neg h1, e]
      by_cases h2 : x = v
      · rw [if_pos h2, if_pos ⟨by simp, by simpa using h2⟩]
      · rw [if_neg h2, if_neg (by simpa using h2)]; rfl
/-- The numbers, rising, each once. -/
def riseL (xs : List Int) : List Int := xs.foldl insU []
theorem rise_mem : ∀ (xs l : List Int) (z : Int), z ∈ xs.foldl insU l ↔ z ∈ xs ∨ z ∈ l
  | [], l, z => by simp
  | x :: xs, l, z => by
    rw [List.foldl_cons, rise_mem xs (insU l x) z, insU_mem, List.mem_cons]
    constructor
    · rintro (h | h | h)
      · exact .inl (.inr h)
      · exact .inl (.inl h)
      · exact .inr h
    · rintro ((h | h) | h)
      · exact .inr (.inl h)
      · exact .inl h
      · exact .inr (.inr h)
theorem rise_up : ∀ (xs l : List Int), Up l → Up (xs.foldl insU l)
  | [], l, h => h
  | x :: xs, l, h => by rw [List.foldl_cons]; exact rise_up xs _ (insU_up l x h)
theorem riseL_uniq {xs l : List Int} (h : Up l) (hm : ∀ z, z ∈ l ↔ z ∈ xs) : l = riseL xs :=
  up_ext h (rise_up xs [] List.Pairwise.nil) (fun z => by rw [hm z]; unfold riseL; rw [rise_mem]; simp)
theorem riseL_snoc (xs : List Int) (v : Int) : riseL (xs ++ [v]) = insU (riseL xs) v := by unfold riseL; rw [List.foldl_append]; rfl
end Go.Proofs.YtficnlglofgekaaDoor.Jb
