/-
  The walk of the statement NumsOneToOne.
-/
import Derived.Test.YtclddadhddljgaaNumsHead
import Derived.WalkArith
namespace Go.Proofs.Ytclddadhddljgaa.numsOneToOne
open Go.ChangeShapes Go.WideShapes Go.ChangeAt Go.RowKit
open Go.Proofs.Ytclddadhddljgaa.Base Go.Proofs.Ytclddadhddljgaa.Nums
set_option linter.unusedVariables false
theorem grown_from {w0 w w' : World} {r : Option Nat} (hb : Below w0.heap.size w0 w) (hg : w.grownBy w' r) (h : ∀ k, r = some k → w0.heap.size ≤ k) : Below w0.heap.size w0 w' :=
  hb.grown hg hb.size h
theorem own_empty' (w w0 : World) (hb : w0.heap.size ≤ w.heap.size) : Own (w.alloc (.cells #[] 5)) w0.heap.size (.slice (some ⟨w.heap.size, 0, none⟩) 0 0) [] := own_empty w w0.heap.size hb
set_option maxHeartbeats 4000000 in
set_option maxRecDepth 100000 in
theorem walk (n0 : Int) (a1 : Option Addr) (len1 cap1 : Nat) (b1 : List (BitVec 8)) (a2 : Option Addr) (len2 cap2 : Nat) (b2 : List (BitVec 8)) (w : World) (w0 : (Lit.int .i64 n0).wf = true)
    (r1 : Rd w a1 len1 b1) (l1 : len1 ≤ cap1) (m1 : cap1 ≤ 140737488351232) (z1 : a1 = none → len1 = 0 ∧ cap1 = 0) (r2 : Rd w a2 len2 b2) (l2 : len2 ≤ cap2) (m2 : cap2 ≤ 140737488351232) (z2 : a2 = none → len2 = 0 ∧ cap2 = 0) :
    Calls Try.prog 3 #[.int .i64 n0, .slice a1 len1 cap1, .slice a2 len2 cap2] w fun e w' => e = .returned (.bool true) ∧ Below w.heap.size w w' := by
  have hbd := bounds_i64 w0
  have R1 := hide r1
  have R2 := hide r2
  have HL1 := hide r1.1
  have HL2 := hide r2.1
  have Z1 := hide z1
  have Z2 := hide z2
  have W0 := hide w0
  clear r1 r2 z1 z2 w0
  go_enter Try.func3, Try.ntmps3
  go_wp2_with fail
  refine (put_any _ _ W0.out).mono ?_
  rintro e w1 ⟨u, rfl, ho, hb⟩
  obtain ⟨a, c, rfl⟩ := ho.shape
  by_cases hn : n0 < 0
  · rw [putI_neg n0 hn] at ho ⊢
    have HB1 := hide hb
    clear hb ho
    go_wp2_with fail
    refine (head_any _).mono ?_
    rintro e w2 ⟨rfl, hb⟩
    have HB2 := hide (below_trans HB1.out hb)
    clear hb
    go_wp2_with fail
    go_ret
    exact ⟨rfl, HB2.out⟩
  · obtain ⟨v, rfl⟩ := Int.eq_ofNat_of_zero_le (by omega : 0 ≤ n0)
    have hv : v < 9223372036854775808 := by omega
    have HGP := hide (get_put v b1 hv)
    have hpl := put_nine v hv
    rw [putI_nat v] at ho ⊢
    have hpr := ho.room
    have hpc := (Got.cap ho).1
    have HP := hide ho
    have HB1 := hide hb
    clear hb ho hv
    generalize hpp : put v = P at hpl hpr hpc HP HGP
    clear hpp
    have hsz := HB1.out.size
    generalize hPl : P.length = pl at hpl hpr hpc HP HGP
    have HPL := hide hPl
    clear hPl
    obtain ⟨hp1, hp9⟩ := hpl
    go_wp2_with (first
      | (at_builtin; refine join _ rfl _ _ rfl w.heap.size _ [] rfl (own_empty' w1 w hsz) a pl c P rfl ?_ ?_ (by simp; omega) (by simp; omega) ?_
         · exact Got.rd (HP.out.below ((Below.refl _ _).alloc (Nat.le_refl _) _)) (by rw [HPL.out]; omega)
         · exact fun h => Got.nil HP.out h
         intro v' w2 hown hgrow
         rw [List.nil_append] at hown
         obtain ⟨aq, cq, hv'⟩ := hown.shape
         rw [HPL.out] at hv'
         subst hv'
         have HQ := hide hown
         have HB2 : Hid (Below w.heap.size w w2) := (HB1.out.alloc hsz _).grown hgrow (by simp; omega) (fun k e => by cases e; exact hsz)
         clear hown hgrow)
      | (at_builtin; refine join _ rfl _ _ rfl w.heap.size _ P rfl HQ.out a1 len1 cap1 b1 rfl (R1.out.below HB2.out) Z1.out (by rw [HPL.out]; omega) HB2.out.size ?_
         intro v' w3 hown hgrow
         obtain ⟨ar, cr, hv'⟩ := hown.shape
         rw [show (P ++ b1).length = pl + len1 by rw [List.length_append, HPL.out, HL1.out]] at hv'
         subst hv'
         have HR := hide hown
         have HB3 : Hid (Below w.heap.size w w3) := HB2.out.grown hgrow HB2.out.size (own_blk HQ.out)
         clear hown hgrow)
      | fail)
    refine (get_any _ _ _ _ _ (Got.rd HR.out (by rw [List.length_append, HPL.out, HL1.out]; omega)) (Got.cap HR.out).1 HR.out.room).mono ?_
    rintro e w4 ⟨rfl, hb⟩
    have HB4 := hide (below_trans HB3.out hb)
    rw [HGP.out]
    clear hb HR HB3 HQ HB2 HP HGP
    have q1 : ((v : Int) != (v : Int)) = false := by simp
    have q2 : ((pl : Int) != (pl : Int)) = false := by simp
    go_wp2_with fail
    refine (get_any _ _ _ _ _ (R2.out.below HB4.out) l2 (by omega)).mono ?_
    rintro e w5 ⟨rfl, hb⟩
    have HB5 := hide (below_trans HB4.out hb)
    clear hb HB4
    have hsz5 := HB5.out.size
    rcases get_cases b2 with ⟨u, m, g1, g2, g3, g4, g5, g6⟩ | ⟨g1, g2, m, g3⟩ | ⟨g1, g2⟩
    · rw [g1]
      have hml : m ≤ len2 := by have := HL2.out; omega
      have HPU := hide g5
      have wu : (Lit.int .i64 (u : Int)).wf = true := WalkArith.wf_i64 (by omega)
      have CP : Hid (∀ W, Below w.heap.size w W → Calls Try.prog 8 #[.int .i64 (u : Int)] W fun e w' => ∃ a c, e = .returned (.slice a m c) ∧ Own w' W.heap.size (.slice a m c) (b2.take m) ∧ Below W.heap.size W w') := by
        intro W hW
        refine (put_any (u : Int) W wu).mono ?_
        rintro e w6 ⟨x, rfl, ho, hb⟩
        rw [putI_nat, g5] at ho
        obtain ⟨a, c, rfl⟩ := ho.shape
        have hl : (b2.take m).length = m := by rw [List.length_take]; omega
        rw [hl] at ho ⊢
        exact ⟨a, c, rfl, ho, hb⟩
      have CS : Hid (∀ W a c base, Below w.heap.size w W → Own W base (.slice a m c) (b2.take m) → Calls Try.prog 11 #[.slice a m c, .slice a2 m cap2] W fun e w' => e = .returned (.bool true) ∧ Below W.heap.size W w') := by
        intro W a c base hW ho
        have h := same_any a a2 m c m cap2 _ _ W (Got.rd ho (by have := HL2.out; rw [List.length_take]; omega)) ((R2.out.below hW).cut m hml)
        rw [show decide (b2.take m = b2.take m) = true from by simp] at h
        exact h
      have hmi : (m : Int) ≤ (len2 : Int) := by omega
      have hm1 : (1 : Int) ≤ (m : Int) := by omega
      have hmc : m ≤ cap2 := by omega
      have hmci : (m : Int) ≤ (cap2 : Int) := by omega
      have d1 : decide ((1 : Int) ≤ (m : Int)) = true := by simpa using hm1
      have d2 : decide ((m : Int) ≤ (len2 : Int)) = true := by simpa using hmi
      have d2n : decide (m ≤ len2) = true := by simpa using hml
      have d1n : decide (1 ≤ m) = true := by simpa using g2
      have d3 : decide ((0 : Int) ≤ (u : Int)) = true := by rw [decide_eq_true_iff]; omega
      clear g1 g5 wu
      go_wp2_with fail
      go_region_held (fun _ => True) (trivial) (first
        | (go_at_call 9; refine (head_any _).mono ?_; rintro e v4 ⟨rfl, hbh⟩; have HBh := hide (below_trans HBc.out hbh); clear hbh)
        | (go_at_call 8; refine (CP.out _ (by first | exact HB5.out | exact HB5.out.drew | exact HB5.out.drew.drew)).mono ?_; rintro e v3 ⟨ax, cx, rfl, hox, hbb⟩; have HBb := hide (below_trans (by first | exact HB5.out | exact HB5.out.drew | exact HB5.out.drew.drew) hbb); have HOx := hide hox; clear hbb hox)
        | (go_at_call 11; refine (CS.out _ _ _ _ HBb.out HOx.out).mono ?_; rintro e v3 ⟨rfl, hbb⟩; have HBc := hide (below_trans HBb.out hbb); clear hbb))
      all_goals
        go_wp2_with fail
        go_ret
        exact ⟨rfl, HBh.out⟩
    · rw [g1]
      have hl8 : len2 ≤ 8 := by have := HL2.out; omega
      have hl8i : ¬ (8 : Int) < (len2 : Int) := by omega
      rw [HL2.out] at g3
      have HG3 := hide g3
      clear g1 g2 g3
      have q3 : ((len2 : Int) + 1 == (len2 : Int) + 1) = true := by simp
      go_wp2_with (first
        | (at_builtin; refine join _ rfl _ _ rfl w.heap.size _ [] rfl (own_empty' w5 w hsz5) a2 len2 cap2 b2 rfl (R2.out.below (HB5.out.alloc hsz5 _)) Z2.out (by simp; omega) (by simp; omega) ?_
           intro v' w6 hown hgrow
           rw [List.nil_append] at hown
           obtain ⟨aq, cq, hv'⟩ := hown.shape
           rw [HL2.out] at hv'
           subst hv'
           have HQ := hide hown
           have HB6 : Hid (Below w.heap.size w w6) := (HB5.out.alloc hsz5 _).grown hgrow (by simp; omega) (fun k e => by cases e; exact hsz5)
           have hsz6 := HB6.out.size
           clear hown hgrow)
        | (at_builtin; refine push _ rfl _ _ rfl w.heap.size _ b2 rfl (HQ.out.below ((Below.refl w6.heap.size w6).alloc (Nat.le_refl _) _)) ⟨w6.heap.size, 0, none⟩ 1 (B8 1) rfl ?_ (by rw [HL2.out]; omega) (by simp; omega) ?_
           · exact cell_one_new _ _ _ 0 _ rfl
           intro v' w7 hown hgrow
           obtain ⟨ar, cr, hv'⟩ := hown.shape
           rw [show (b2 ++ [B8 1]).length = len2 + 1 by rw [List.length_append, HL2.out]; rfl] at hv'
           subst hv'
           have HR := hide hown
           have HB7 : Hid (Below w.heap.size w w7) := (HB6.out.alloc hsz6 _).grown hgrow (by simp; omega) (own_blk HQ.out)
           clear hown hgrow)
        | fail)
      refine (get_any _ _ _ _ _ (Got.rd HR.out (by rw [List.length_append, HL2.out]; simp; omega)) (Got.cap HR.out).1 HR.out.room).mono ?_
      rintro e w8 ⟨rfl, hb⟩
      have HB8 := hide (below_trans HB7.out hb)
      rw [HG3.out]
      clear hb HR HB7 HQ HB6
      go_wp2_with fail
      refine (head_any _).mono ?_
      rintro e w9 ⟨rfl, hb⟩
      have HB9 := hide (below_trans HB8.out hb)
      clear hb
      go_wp2_with fail
      go_ret
      exact ⟨rfl, HB9.out⟩
    · rw [g1]
      have HG3 := hide g2
      clear g1 g2
      go_wp2_with (first
        | (at_builtin; refine join _ rfl _ _ rfl w.heap.size _ [] rfl (own_empty' w5 w hsz5) a2 len2 cap2 b2 rfl (R2.out.below (HB5.out.alloc hsz5 _)) Z2.out (by simp; omega) (by simp; omega) ?_
           intro v' w6 hown hgrow
           rw [List.nil_append] at hown
           obtain ⟨aq, cq, hv'⟩ := hown.shape
           rw [HL2.out] at hv'
           subst hv'
           have HQ := hide hown
           have HB6 : Hid (Below w.heap.size w w6) := (HB5.out.alloc hsz5 _).grown hgrow (by simp; omega) (fun k e => by cases e; exact hsz5)
           have hsz6 := HB6.out.size
           clear hown hgrow)
        | (at_builtin; refine push _ rfl _ _ rfl w.heap.size _ b2 rfl (HQ.out.below ((Below.refl w6.heap.size w6).alloc (Nat.le_refl _) _)) ⟨w6.heap.size, 0, none⟩ 1 (B8 1) rfl ?_ (by rw [HL2.out]; omega) (by simp; omega) ?_
           · exact cell_one_new _ _ _ 0 _ rfl
           intro v' w7 hown hgrow
           obtain ⟨ar, cr, hv'⟩ := hown.shape
           rw [show (b2 ++ [B8 1]).length = len2 + 1 by rw [List.length_append, HL2.out]; rfl] at hv'
           subst hv'
           have HR := hide hown
           have HB7 : Hid (Below w.heap.size w w7) := (HB6.out.alloc hsz6 _).grown hgrow (by simp; omega) (own_blk HQ.out)
           clear hown hgrow)
        | fail)
      refine (get_any _ _ _ _ _ (Got.rd HR.out (by rw [List.length_append, HL2.out]; simp; omega)) (Got.cap HR.out).1 HR.out.room).mono ?_
      rintro e w8 ⟨rfl, hb⟩
      have HB8 := hide (below_trans HB7.out hb)
      rw [HG3.out]
      clear hb HR HB7 HQ HB6
      go_wp2_with fail
      refine (head_any _).mono ?_
      rintro e w9 ⟨rfl, hb⟩
      have HB9 := hide (below_trans HB8.out hb)
      clear hb
      go_wp2_with fail
      go_ret
      exact ⟨rfl, HB9.out⟩
end Go.Proofs.Ytclddadhddljgaa.numsOneToOne
