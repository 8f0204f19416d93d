/-
  The statements' helpers: texts with a mark behind them; do they stand; written over where they lie.
-/
import Derived.Test.YtdpihfmbkimgpaaPaRefB
import Derived.Laws.Concat
namespace Go.Proofs.Ytdpihfmbkimgpaa.Pa
open Go.ChangeShapes Go.WideShapes Go.ChangeAt Go.RowKit
open Go.Proofs.Ytdpihfmbkimgpaa.Base
set_option linter.unusedVariables false
theorem elemS : Try.prog.underlying 24 = some (.slice 9) := Try.underlying24
theorem OwnS.cut {w : World} {base g n cap : Nat} {ss : List ByteArray} (h : OwnS w base (.slice (some ⟨g, 0, none⟩) n cap) ss) (hs : ∀ s ∈ ss, s.size ≤ 9223372036854775807) (hl : n ≤ 140737488355328) (m : Nat) (hm : m ≤ n) : RdS w (some ⟨g, 0, none⟩) m (ss.take m) := by
  have hn := h.len
  exact (h.rds (by omega) hs).cut m hm
theorem take_mark (ss : List ByteArray) (y : ByteArray) (n : Nat) (h : ss.length = n) : (ss ++ [y]).take n = ss := by
  rw [← h, List.take_left]
set_option maxHeartbeats 1000000 in
theorem roomy_any (a : Option Addr) (len cap : Nat) (ss : List ByteArray) (w : World) (hr : RdS w a len ss) (hz : a = none → len = 0 ∧ cap = 0) (hl : len ≤ 8796093021952) :
    Calls Try.prog 10 #[.slice a len cap] w fun e w' => ∃ g c, e = .returned (.slice (some ⟨g, 0, none⟩) len c) ∧ OwnS w' w.heap.size (.slice (some ⟨g, 0, none⟩) (len + 1) c) (ss ++ [markS]) ∧ Below w.heap.size w w' := by
  have HL := hide hr.1
  have HR1 := hide (hr.below ((Below.refl w.heap.size w).alloc (Nat.le_refl _) (.cells #[] 9)))
  have HO1 : Hid (OwnS (w.alloc (.cells #[] 9)) w.heap.size (.slice (some ⟨w.heap.size, 0, none⟩) 0 0) []) := owns_empty w _ (Nat.le_refl _)
  clear hr
  go_enter Try.func10, Try.ntmps10
  go_wp2_with (first
    | (at_builtin; refine joinS _ rfl _ _ rfl w.heap.size (.slice (some ⟨w.heap.size, 0, none⟩) 0 0) [] rfl HO1.out a len cap ss rfl HR1.out hz (by simp; omega) (by simp) ?_
       intro v3 w3 ho3 hg3
       rw [List.nil_append] at ho3
       have HO3 := hide ho3
       have HB3 : Hid (Below w.heap.size w w3) := ((Below.refl w.heap.size w).alloc (Nat.le_refl _) _).grown hg3 (by simp) (fun i e => by cases e; exact Nat.le_refl _)
       clear ho3 hg3)
    | (at_builtin; refine pushS _ rfl _ _ rfl w.heap.size _ ss rfl (HO3.out.below ((Below.refl _ _).alloc (Nat.le_refl _) _)) ⟨w3.heap.size, 0, none⟩ 1 markS rfl ?_ (by rw [HL.out]; omega) (by have := HB3.out.size; simp; omega) ?_
       · simp [Addr.add, markS]
       intro v5 w5 ho5 hg5
       have HB5 := hide ((HB3.out.alloc HB3.out.size _).grown hg5 (by have := HB3.out.size; simp; omega) (fun i e => (HO3.out.blk i e).1))
       obtain ⟨a5, c5, hv5⟩ := ho5.shape
       obtain ⟨g5, hg5'⟩ : ∃ g, a5 = some ⟨g, 0, none⟩ := by
         rcases ho5.2 with ⟨_, h2⟩ | ⟨g, _, _, h1, _⟩
         · rw [List.length_append, List.length_singleton] at h2; omega
         · rw [hv5] at h1; simp only [Value.slice.injEq] at h1; exact ⟨g, h1.1⟩
       rw [List.length_append, List.length_singleton, HL.out, hg5'] at hv5
       subst hv5
       have hcap := ho5.cap
       obtain ⟨-, hc1, hc2⟩ := hcap
       have hlc : (len : Int) ≤ (c5 : Int) := by omega
       have HO5 := hide ho5
       clear ho5 hg5 hg5'))
  go_ret
  exact ⟨_, _, rfl, HO5.out, HB5.out⟩
set_option maxHeartbeats 1000000 in
theorem kept_any (g len c base lb cb : Nat) (b : Option Addr) (ss : List ByteArray) (w : World) (ho : OwnS w base (.slice (some ⟨g, 0, none⟩) (len + 1) c) (ss ++ [markS])) (hr : RdS w b lb ss) (hs : ∀ s ∈ ss, s.size ≤ 140737488351232) (hl : len ≤ 8796093021952) (hll : ss.length = len) :
    Calls Try.prog 12 #[.slice (some ⟨g, 0, none⟩) len c, .slice b lb cb] w fun e w' => e = .returned (.bool true) ∧ Below w.heap.size w w' := by
  have hlb : lb = len := by have := hr.1; omega
  subst hlb
  have hcap := ho.cap
  obtain ⟨-, hc1, hc2⟩ := hcap
  have hlc : (lb : Int) + 1 ≤ (c : Int) := by omega
  have HS : Hid (RdS w (some ⟨g, 0, none⟩) lb ss) := by
    have h := ho.cut (fun s hs2 => by
      rcases List.mem_append.1 hs2 with h | h
      · have := hs s h; omega
      · rw [List.mem_singleton] at h; rw [h]; decide) (by omega) lb (by omega)
    rwa [take_mark ss markS lb hll] at h
  have cm : w.cell? ⟨g, lb, none⟩ = some (.string markS) := by
    rw [ho.cell lb (by omega), List.getD_eq_getElem?_getD, ← hll, List.getElem?_append_right (Nat.le_refl _), Nat.sub_self]; rfl
  have CM := hide cm
  have HLL := hide hll
  clear hll
  have HG := hide ho.lt'.2
  have HR := hide hr
  clear ho hr cm
  go_enter Try.func12, Try.ntmps12
  go_wp2_with fail
  refine (sameTexts_eq (some ⟨g, 0, none⟩) b lb c lb cb ss w HS.out HR.out).mono ?_
  rintro e w2 ⟨rfl, hb2⟩
  have cm2 : w2.cell? ⟨g, lb, none⟩ = some (.string ⟨#[109, 97, 114, 107]⟩) := (hb2.cell (p := ⟨g, lb, none⟩) HG.out).trans CM.out
  have HB2 := hide hb2
  clear hb2
  go_wp2_with fail
  go_ret
  exact ⟨rfl, HB2.out⟩
/-- The texts from the last to the first, of the first k and the last k places alone. -/
def rv (ss : List ByteArray) (k : Nat) : List ByteArray := (List.range ss.length).map fun p => if p < k ∨ ss.length - k ≤ p then ss.getD (ss.length - 1 - p) ⟨#[]⟩ else ss.getD p ⟨#[]⟩
theorem rv_len (ss : List ByteArray) (k : Nat) : (rv ss k).length = ss.length := by simp [rv]
theorem rv_get (ss : List ByteArray) (k p : Nat) (h : p < ss.length) : (rv ss k).getD p ⟨#[]⟩ = if p < k ∨ ss.length - k ≤ p then ss.getD (ss.length - 1 - p) ⟨#[]⟩ else ss.getD p ⟨#[]⟩ := by
  unfold rv
  rw [List.getD_eq_getElem?_getD, List.getElem?_map, List.getElem?_range h]
  rfl
theorem rv_zero (ss : List ByteArray) : rv ss 0 = ss := by
  apply List.ext_getElem
  · rw [rv_len]
  · intro p h1 h2
    have h := rv_get ss 0 p h2
    rw [if_neg (by omega), List.getD_eq_getElem?_getD, List.getElem?_eq_getElem h1, List.getD_eq_getElem?_getD, List.getElem?_eq_getElem h2] at h
    exact h
theorem rv_step (ss : List ByteArray) (k : Nat) (h : k < ss.length / 2) : ((rv ss k).set k (ss.getD (ss.length - 1 - k) ⟨#[]⟩)).set (ss.length - 1 - k) (ss.getD k ⟨#[]⟩) = rv ss (k + 1) := by
  apply List.ext_getElem
  · simp [rv_len]
  · intro p h1 h2
    have hp : p < ss.length := by rw [rv_len] at h2; exact h2
    have e2 := rv_get ss (k + 1) p hp
    have e1 := rv_get ss k p hp
    rw [List.getD_eq_getElem?_getD, List.getElem?_eq_getElem h2] at e2
    rw [List.getD_eq_getElem?_getD, List.getElem?_eq_getElem (by rw [rv_len]; exact hp)] at e1
    simp only [Option.getD_some] at e1 e2
    rw [e2, List.getElem_set, List.getElem_set]
    by_cases c1 : ss.length - 1 - k = p
    · rw [if_pos c1, if_pos (by omega), show ss.length - 1 - p = k by omega]
    · rw [if_neg c1]
      by_cases c2 : k = p
      · rw [if_pos c2, if_pos (by omega), c2]
      · rw [if_neg c2, e1]
        by_cases c3 : p < k ∨ ss.length - k ≤ p
        · rw [if_pos c3, if_pos (by omega)]
        · rw [if_neg c3, if_neg (by omega)]
theorem rv_mem (ss : List ByteArray) (k : Nat) : ∀ s ∈ rv ss k, s ∈ ss := by
  intro s hs
  unfold rv at hs
  obtain ⟨p, hp, rfl⟩ := List.mem_map.1 hs
  rw [List.mem_range] at hp
  split
  · exact getS_mem (by omega)
  · exact getS_mem hp
/-- A letter more. -/
def addz (s : ByteArray) : ByteArray := s ++ ⟨#[122]⟩
theorem addz_size (s : ByteArray) : (addz s).size = s.size + 1 := by unfold addz; simp; rfl
/-- The texts written over. -/
def turn (ss : List ByteArray) : List ByteArray := if ss.length = 0 then [] else (rv ss (ss.length / 2)).set (ss.length - 1) (addz ((rv ss (ss.length / 2)).getD (ss.length - 1) ⟨#[]⟩))
theorem turn_len (ss : List ByteArray) : (turn ss).length = ss.length := by
  unfold turn
  split
  · simp; omega
  · rw [List.length_set, rv_len]
theorem turn_size {ss : List ByteArray} {B : Nat} (h : ∀ s ∈ ss, s.size ≤ B) : ∀ s ∈ turn ss, s.size ≤ B + 1 := by
  intro s hs
  unfold turn at hs
  split at hs
  · cases hs
  · rcases List.mem_or_eq_of_mem_set hs with h1 | h1
    · have := h s (rv_mem ss _ s h1); omega
    · rw [h1, addz_size]
      have := h _ (rv_mem ss _ _ (getS_mem (ss := rv ss (ss.length / 2)) (i := ss.length - 1) (by rw [rv_len]; omega)))
      omega
theorem set_mark (xs : List ByteArray) (k : Nat) (c y : ByteArray) (h : k < xs.length) : (xs ++ [y]).set k c = xs.set k c ++ [y] := by
  rw [List.set_append_left _ _ h]
theorem get_mark (xs : List ByteArray) (k : Nat) (y : ByteArray) (h : k < xs.length) : (xs ++ [y]).getD k ⟨#[]⟩ = xs.getD k ⟨#[]⟩ := by
  rw [List.getD_eq_getElem?_getD, List.getElem?_append_left h, List.getD_eq_getElem?_getD]
set_option maxHeartbeats 1000000 in
set_option maxRecDepth 100000 in
theorem turned_any (g len c base : Nat) (ss : List ByteArray) (w : World) (ho : OwnS w base (.slice (some ⟨g, 0, none⟩) (len + 1) c) (ss ++ [markS])) (hs : ∀ s ∈ ss, s.size ≤ 140737488351232) (hl : len ≤ 8796093021952) (hll : ss.length = len) :
    Calls Try.prog 13 #[.slice (some ⟨g, 0, none⟩) len c] w fun e w' => ∃ v, e = .returned v ∧ OwnS w' w.heap.size v (turn ss) ∧ OwnS w' base (.slice (some ⟨g, 0, none⟩) (len + 1) c) (turn ss ++ [markS]) ∧ w.grownBy w' (some g) := by
  have HO0 := hide ho
  have HLL := hide hll
  have HSZ := hide hs
  have HG0 := hide ho.lt'
  clear ho hll hs
  go_enter Try.func13, Try.ntmps13
  go_wp2_with fail
  go_loopw [3] (fun i wr => ∃ k : Nat, k ≤ len / 2 ∧ i = .int .i64 (k : Int) ∧ Hid (OwnS wr base (.slice (some ⟨g, 0, none⟩) (len + 1) c) (rv ss k ++ [markS])) ∧ Hid (w.grownBy wr (some g))) (fun i _ => len / 2 - (intOf i).toNat)
  case atStart => exact ⟨0, Nat.zero_le _, rfl, by rw [rv_zero]; exact HO0, World.grownBy.refl _ _⟩
  case round =>
    obtain ⟨k, hk, rfl, HO, HG⟩ := hrel
    by_cases hlt : k < len / 2
    · have hki : (k : Int) < (len : Int) / 2 := by omega
      have hkl : k < len := by omega
      have hki2 : (k : Int) < (len : Int) := by omega
      obtain ⟨m, hm⟩ : ∃ m : Nat, len - 1 - k = m := ⟨_, rfl⟩
      have hmi : (len : Int) - 1 - (k : Int) = (m : Int) := by omega
      have hml : m < len := by omega
      have hmk : m ≠ k := by omega
      have c1 := HO.out.cell k (by omega)
      have f1 := HO.out.frozen k
      have c2 := HO.out.cell m (by omega)
      have HRL := hide (rv_len ss k)
      rw [get_mark _ _ _ (by rw [HRL.out, HLL.out]; omega), rv_get ss k k (by rw [HLL.out]; omega), if_neg (by rw [HLL.out]; omega)] at c1
      rw [get_mark _ _ _ (by rw [HRL.out, HLL.out]; omega), rv_get ss k m (by rw [HLL.out]; omega), if_neg (by rw [HLL.out]; omega)] at c2
      have HStep := hide (rv_step ss k (by rw [HLL.out]; omega))
      rw [HLL.out, hm] at HStep
      have HS1 := hide (HO.out.store k (ss.getD m ⟨#[]⟩))
      have HS2 := hide (HS1.out.1.store m (ss.getD k ⟨#[]⟩))
      rw [set_mark _ _ _ _ (by rw [HRL.out, HLL.out]; omega), set_mark _ _ _ _ (by rw [List.length_set, HRL.out, HLL.out]; omega), HStep.out] at HS2
      have c3 := HS1.out.1.cell m (by omega)
      have f3 := HS1.out.1.frozen m
      generalize ss.getD k ⟨#[]⟩ = x at c1 HS2
      generalize ss.getD m ⟨#[]⟩ = y at c2 c3 f3 HS1 HS2
      generalize ((rv ss k ++ [markS]).set k y).getD m ⟨#[]⟩ = z at c3
      have HM := hide hm
      clear hm HStep
      go_wp2_with fail
      go_roundw
      case rel => exact ⟨k + 1, by omega, by go_num, HS2.out.1, grown_trans (grown_trans HG.out HS1.out.2) HS2.out.2⟩
      case measure => (simp [intOf] <;> omega)
    · have hkl : k = len / 2 := by omega
      have hki : ¬ (k : Int) < (len : Int) / 2 := by omega
      have HKE := hide hkl
      rename World => V0
      have HOF := hide HO.out
      rw [hkl] at HOF
      clear hkl
      have HLT : Hid (base ≤ w.heap.size) := hide (by have := HG0.out; omega)
      by_cases h0 : 0 < len
      · have h0i : (0 : Int) < (len : Int) := by omega
        obtain ⟨m, hm⟩ : ∃ m : Nat, len - 1 = m := ⟨_, rfl⟩
        have hmi : (len : Int) - 1 = (m : Int) := by omega
        have hml : m < len := by omega
        have hmli : (m : Int) < (len : Int) := by omega
        have c1 := HOF.out.cell m (by omega)
        have f1 := HOF.out.frozen m
        have HRL := hide (rv_len ss (len / 2))
        rw [get_mark _ _ _ (by rw [HRL.out, HLL.out]; omega)] at c1
        have hsz := HSZ.out _ (rv_mem ss (len / 2) _ (getS_mem (ss := rv ss (len / 2)) (i := m) (by rw [HRL.out, HLL.out]; omega)))
        have hadd : ∀ W : World, (Op.stringOp .add ((rv ss (len / 2)).getD m ⟨#[]⟩) ⟨#[122]⟩).run Try.prog W = .ok (.string (addz ((rv ss (len / 2)).getD m ⟨#[]⟩))) W := fun W => run_string_add_sum W _ _ (by
          have e : (⟨#[122]⟩ : ByteArray).size = 1 := rfl
          rw [e]; omega)
        have HST := hide (HOF.out.store m (addz ((rv ss (len / 2)).getD m ⟨#[]⟩)))
        rw [set_mark _ _ _ _ (by rw [HRL.out, HLL.out]; omega)] at HST
        have HTU : Hid ((rv ss (len / 2)).set m (addz ((rv ss (len / 2)).getD m ⟨#[]⟩)) = turn ss) := hide (by
          unfold turn
          rw [if_neg (by rw [HLL.out]; omega), HLL.out, hm])
        rw [HTU.out] at HST
        generalize addz ((rv ss (len / 2)).getD m ⟨#[]⟩) = y at hadd HST
        generalize (rv ss (len / 2)).getD m ⟨#[]⟩ = x at c1 hsz hadd
        have HGr := hide (grown_trans HG.out HST.out.2)
        obtain ⟨W1, hW1⟩ : ∃ W1, V0.setCell ⟨g, m, none⟩ (.string y) = W1 := ⟨_, rfl⟩
        rw [hW1] at HST HGr
        have HRW : Hid (RdS (W1.alloc (.cells #[] 9)) (some ⟨g, 0, none⟩) len (turn ss)) := by
          have h := (HST.out.1.below ((Below.refl _ _).alloc (Nat.le_refl _) (.cells #[] 9))).cut (fun s hs2 => by
            rcases List.mem_append.1 hs2 with h | h
            · have := turn_size HSZ.out s h; omega
            · rw [List.mem_singleton] at h; rw [h]; decide) (by omega) len (by omega)
          rwa [take_mark (turn ss) markS len (by rw [turn_len, HLL.out])] at h
        have HO1 : Hid (OwnS (W1.alloc (.cells #[] 9)) W1.heap.size (.slice (some ⟨W1.heap.size, 0, none⟩) 0 0) []) := owns_empty W1 _ (Nat.le_refl _)
        have HM := hide hm
        clear hm HTU
        go_wp2_with (at_builtin; refine joinS _ rfl _ _ rfl W1.heap.size (.slice (some ⟨W1.heap.size, 0, none⟩) 0 0) [] rfl HO1.out (some ⟨g, 0, none⟩) len c (turn ss) rfl HRW.out (fun e => by cases e) (by simp; omega) (by simp) ?_
                     intro v3 w3 ho3 hg3
                     rw [List.nil_append] at ho3
                     have HO3 := hide ho3
                     have HB3 : Hid (Below W1.heap.size W1 w3) := ((Below.refl W1.heap.size W1).alloc (Nat.le_refl _) _).grown hg3 (by simp) (fun i e => by cases e; exact Nat.le_refl _)
                     clear ho3 hg3)
        go_ret
        exact ⟨_, rfl, HO3.out.mono HGr.out.size, HST.out.1.below HB3.out, grown_trans HGr.out (grown_of_below HB3.out)⟩
      · have h0i : ¬ (0 : Int) < (len : Int) := by omega
        have hl0 : len = 0 := by omega
        subst hl0
        have HTU : Hid (turn ss = []) := hide (by unfold turn; rw [if_pos HLL.out])
        have HSN : Hid (rv ss (0 / 2) = []) := hide (List.length_eq_zero_iff.1 (by rw [rv_len, HLL.out]))
        rw [HSN.out] at HOF
        have HO1 : Hid (OwnS (V0.alloc (.cells #[] 9)) V0.heap.size (.slice (some ⟨V0.heap.size, 0, none⟩) 0 0) []) := owns_empty V0 _ (Nat.le_refl _)
        have HRW : Hid (RdS (V0.alloc (.cells #[] 9)) (some ⟨g, 0, none⟩) 0 []) := hide ⟨rfl, by omega, (fun s hs => absurd hs List.not_mem_nil), (fun h => absurd h (by omega))⟩
        go_wp2_with (at_builtin; refine joinS _ rfl _ _ rfl V0.heap.size (.slice (some ⟨V0.heap.size, 0, none⟩) 0 0) [] rfl HO1.out (some ⟨g, 0, none⟩) 0 c [] rfl HRW.out (fun e => by cases e) (by simp) (by simp) ?_
                     intro v3 w3 ho3 hg3
                     rw [List.nil_append] at ho3
                     have HO3 := hide ho3
                     have HB3 : Hid (Below V0.heap.size V0 w3) := ((Below.refl V0.heap.size V0).alloc (Nat.le_refl _) _).grown hg3 (by simp) (fun i e => by cases e; exact Nat.le_refl _)
                     clear ho3 hg3)
        go_ret
        refine ⟨_, rfl, ?_, ?_, grown_trans HG.out (grown_of_below HB3.out)⟩
        · rw [HTU.out]; exact HO3.out.mono HG.out.size
        · rw [HTU.out]; exact HOF.out.below HB3.out
end Go.Proofs.Ytdpihfmbkimgpaa.Pa
