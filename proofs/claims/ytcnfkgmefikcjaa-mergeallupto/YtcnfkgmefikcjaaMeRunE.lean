/-
  What a merge of feeds tells is told: a run there always is, and each Next tells its next thing.
-/
import Derived.Test.YtcnfkgmefikcjaaMeRunA
import Derived.Test.YtcnfkgmefikcjaaMeRefR
namespace Go.Proofs.Ytcnfkgmefikcjaa.Me
open Go.ChangeShapes Go.WideShapes Go.ChangeAt Go.RowKit
open Go.Proofs.Ytcnfkgmefikcjaa.Base
set_option linter.unusedVariables false
theorem best_ex (B : Nat → Fd) (pos : Nat → Nat) : ∀ n, ∃ bi, BestTo B pos n bi
  | 0 => ⟨-1, .inl ⟨rfl, fun j hj => absurd hj (by omega)⟩⟩
  | n + 1 => by
    obtain ⟨bi, h⟩ := best_ex B pos n
    by_cases hp : pos n < (B n).ts.length
    · rcases h with ⟨h1, h2⟩ | ⟨v, h1, h2, h3, h4⟩
      · exact ⟨_, BestTo.first h2 hp⟩
      · by_cases hk : keyP B pos n < keyP B pos v
        · exact ⟨_, BestTo.take h4 hp hk⟩
        · exact ⟨_, BestTo.keep h4 h2 h3 hk⟩
    · exact ⟨_, h.skip hp⟩
theorem run_ex (B : Nat → Fd) (n : Nat) : ∀ (k : Nat) (pos : Nat → Nat), (∀ j, j < n → pos j ≤ (B j).ts.length) → sumN (lens B) n ≤ sumN pos n + k → ∃ L e A, RunA B n pos L e A
  | k, pos, hle, hk => by
    obtain ⟨bi, hb⟩ := best_ex B pos n
    rcases hb.best with ⟨_, h⟩ | ⟨v, _, h⟩
    · exact ⟨[], 0, fun j => pos j + 1, rfl, fun j hj => by have := h j hj; have := hle j hj; omega, fun j hj => rfl⟩
    · by_cases hc : codP B pos v = 0
      · have hs := sum_live h.1 h.2.1 hle
        have hu := sum_up pos v n h.1
        match k, hk with
        | 0, hk => omega
        | k + 1, hk =>
          obtain ⟨L, e, A, hr⟩ := run_ex B n k (upP pos v) (fun j hj => upP_le hle h.2.1 j hj) (by omega)
          exact ⟨_ :: L, e, A, v, h, rfl, .inr ⟨hc, hr⟩⟩
      · exact ⟨[_], codP B pos v, fun j => upP pos v j + 1, v, h, rfl, .inl ⟨hc, rfl, rfl, fun j hj => rfl⟩⟩
/-- What a merge has told is the head of all that it tells. -/
theorem AtA.head {w : World} {gm gs n : Nat} {gf : Nat → Nat} {B : Nat → Fd} {P L : List Th} {x : Int} {A : Nat → Nat} (h : AtA w gm gs n gf B P) (hR : RunsA B n L x A) : ∃ L', L = P ++ L' := by
  rcases h with ⟨rfl, _⟩ | ⟨pos, v, h, q1, q2, q3⟩
  · exact ⟨L, rfl⟩
  · have hex : ∃ L' e' A', RestA B n pos v L' e' A' := by
      by_cases hc : codP B pos v = 0
      · obtain ⟨L', e', A', hr⟩ := run_ex B n (sumN (lens B) n) (upP pos v) (fun j hj => upP_le h.le h.pv j hj) (by omega)
        exact ⟨L', e', A', .inr ⟨hc, hr⟩⟩
      · exact ⟨[], codP B pos v, fun j => upP pos v j + 1, .inl ⟨hc, rfl, rfl, fun j hj => rfl⟩⟩
    obtain ⟨L', e', A', hr⟩ := hex
    exact ⟨L', (hR.uniq (q3 L' e' A' hr)).1⟩
theorem take_next {L P L' : List Th} {t : Th} (h : L = P ++ [t] ++ L') : P.length < L.length ∧ t = L.getD P.length th0 ∧ P ++ [t] = L.take (P.length + 1) := by
  subst h
  refine ⟨by simp, ?_, ?_⟩
  · rw [List.getD_eq_getElem?_getD, List.append_assoc, List.getElem?_append_right (Nat.le_refl _), Nat.sub_self]; rfl
  · rw [List.take_left' (by simp)]
/-- One Next, held against all that is told. -/
theorem next_tells (gm gs n : Nat) (gf : Nat → Nat) (B : Nat → Fd) (i : Nat) (L : List Th) (x : Int) (A : Nat → Nat) (w : World) (hi : i ≤ L.length) (h : AtA w gm gs n gf B (L.take i)) (hR : RunsA B n L x A) (hl : ∀ j, j < n → (B j).ts.length + 2 ≤ 4611686018427387904) :
    Calls Try.prog 7 #[.pointer (some ⟨gm, 0, none⟩)] w fun e w' => Tn w w' (All n gm gs gf) ∧ ((i = L.length ∧ e = .returned (.tuple #[th0.val, .bool false, .int .i64 x]) ∧ EndA w' gm n gf x A) ∨ (i < L.length ∧ e = .returned (.tuple #[(L.getD i th0).val, .bool true, .int .i64 0]) ∧ AtA w' gm gs n gf B (L.take (i + 1)))) := by
  have hP : (L.take i).length = i := by rw [List.length_take]; omega
  refine (next_atA gm gs n gf B (L.take i) w h hl).mono ?_
  rintro e w' ⟨ht, ⟨x', A', rfl, hr, he⟩ | ⟨t, rfl, ha⟩⟩
  · obtain ⟨q1, q2, q3⟩ := hR.uniq hr
    have hlen : L.length = i := by rw [q1, hP]
    refine ⟨ht, .inl ⟨hlen.symm, by rw [q2], ?_⟩⟩
    obtain ⟨o1, fd, o2, o3⟩ := he
    exact ⟨by rw [q2]; exact o1, fd, o2, fun j hj => ⟨(o3 j hj).1.trans (q3 j hj).symm, (o3 j hj).2⟩⟩
  · obtain ⟨L', hL⟩ := ha.head hR
    obtain ⟨r1, r2, r3⟩ := take_next hL
    rw [hP] at r1 r2 r3
    refine ⟨ht, .inr ⟨r1, by rw [r2], ?_⟩⟩
    rw [← r3]; exact ha
theorem AtA.below {w w' : World} {gm gs n : Nat} {gf : Nat → Nat} {B : Nat → Fd} {P : List Th} (h : AtA w gm gs n gf B P) (hb : Below w.heap.size w w') : AtA w' gm gs n gf B P :=
  h.apart (Tn.of_below (fun _ => False) hb) (fun _ _ h => h) (fun _ _ _ _ _ _ h => h)
/-- All of a merge's blocks are there. -/
theorem AtA.lt {w : World} {gm gs n : Nat} {gf : Nat → Nat} {B : Nat → Fd} {P : List Th} (h : AtA w gm gs n gf B P) : ∀ j, All n gm gs gf j → j < w.heap.size := by
  have key : ∀ {pl : Nat → Nat} {bg ov : Bool} {er : Int} {F : Nat → Sc} {fd : Nat → Fd}, MS w gm gs n pl bg ov er F → FSt w n gf fd gm gs → ∀ j, All n gm gs gf j → j < w.heap.size := by
    intro pl bg ov er F fd hm hf j hj
    rcases hj with rfl | rfl | ⟨k, hk, rfl⟩
    · exact hm.m.lt
    · exact hm.s.lt
    · exact lt_row (hf.fb k hk)
  rcases h with ⟨_, h⟩ | ⟨pos, v, h, _⟩
  · obtain ⟨pl, hm⟩ := h.ms
    exact key hm h.fs
  · obtain ⟨pl, hm, _⟩ := h.ms
    exact key hm h.fs
/-- A block of ints is none of a merge's. -/
theorem AtA.int {w : World} {gm gs n g m : Nat} {gf : Nat → Nat} {B : Nat → Fd} {P : List Th} {F : Nat → Nat} (h : AtA w gm gs n gf B P) (hi : IA w g m F) : ¬ All n gm gs gf g := by
  obtain ⟨cur, hc, _⟩ := hi
  have key : ∀ {pl : Nat → Nat} {bg ov : Bool} {er : Int} {F : Nat → Sc} {fd : Nat → Fd}, MS w gm gs n pl bg ov er F → FSt w n gf fd gm gs → ¬ All n gm gs gf g := by
    intro pl bg ov er F fd hm hf hj
    rcases hj with rfl | rfl | ⟨k, hk, rfl⟩
    · obtain ⟨cur', h0, _⟩ := hm.m
      rw [hc] at h0
      simp at h0
    · obtain ⟨cur', h0, _⟩ := hm.s
      rw [hc] at h0
      simp at h0
    · have h0 : w.heap[gf k]? = _ := hf.fb k hk
      rw [hc] at h0
      simp at h0
  rcases h with ⟨_, h⟩ | ⟨pos, v, h, _⟩
  · obtain ⟨pl, hm⟩ := h.ms
    exact key hm h.fs
  · obtain ⟨pl, hm, _⟩ := h.ms
    exact key hm h.fs
theorem RunA.len {B : Nat → Fd} {n : Nat} : ∀ (L : List Th) (pos : Nat → Nat) (e : Int) (A : Nat → Nat), RunA B n pos L e A → (∀ j, j < n → pos j ≤ (B j).ts.length) → L.length + sumN pos n ≤ sumN (lens B) n
  | [], pos, e, A, h, hle => by
    rw [List.length_nil, Nat.zero_add]
    exact sum_le hle
  | t :: L, pos, e, A, h, hle => by
    obtain ⟨v, hb, _, h⟩ := h
    have hs := sum_live hb.1 hb.2.1 hle
    rw [List.length_cons]
    rcases h with ⟨_, h1, _⟩ | ⟨_, h1⟩
    · rw [h1, List.length_nil]; omega
    · have := RunA.len L (upP pos v) e A h1 (fun j hj => upP_le hle hb.2.1 j hj)
      rw [sum_up pos v n hb.1] at this
      omega
theorem RunsA.len {B : Nat → Fd} {n : Nat} {L : List Th} {e : Int} {A : Nat → Nat} (h : RunsA B n L e A) : L.length ≤ sumN (lens B) n := by
  rcases h with ⟨m, _, _, _, _, h, _⟩ | ⟨_, h⟩
  · rw [h]; exact Nat.zero_le _
  · have := RunA.len L pos0 e A h (fun j _ => Nat.zero_le _)
    omega
/-- Ahead of a region that draws: it ends plainly, and in no other way. -/
def onlyNormal (Q : Exit → Act → World → Prop) : Exit → Act → World → Prop
  | .normal, a, w => Q .normal a w
  | _, _, _ => False
theorem only_normal {P : Program} {c : Code} {Q : Exit → Act → World → Prop} {a : Act} {w : World} (h : c.wp P (onlyNormal Q) a w) : c.wp P Q a w :=
  Code.wp_mono (fun e a w q => by cases e <;> first | exact q | exact q.elim) h
end Go.Proofs.Ytcnfkgmefikcjaa.Me
