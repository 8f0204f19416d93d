/-
  The document's Of; of bounds that lie in two places: is every Range, Check and Of the document's?
-/
import Derived.Test.YtdpihfmbkimgpaaPaRefC
namespace Go.Proofs.Ytdpihfmbkimgpaa.Pa
open Go.ChangeShapes Go.WideShapes Go.ChangeAt Go.RowKit
open Go.Proofs.Ytdpihfmbkimgpaa.Base
set_option linter.unusedVariables false
set_option maxHeartbeats 1000000 in
theorem refOf_any (j : Jb) (n : Int) (a : Option Addr) (len cap : Nat) (ss : List ByteArray) (k : ByteArray) (w : World) (hr : RdS w a len ss) (hk : k.size ≤ 140737488351232) :
    Calls Try.prog 27 #[j.val n a len cap, .string k] w fun e w' => e = .returned (.int .i64 (ofP ss n k : Nat)) ∧ Below w.heap.size w w' := by
  have hl := hr.2.1
  have HL := hide hr.1
  have HA := hide ((Below.refl w.heap.size w).alloc (Nat.le_refl _) (.cells #[.int .i64 j.k, .int .i64 n, .slice a len cap, .bool j.cb, .int .i64 j.bu, .int .i64 j.fa, .int .i64 j.tr, .int .i64 j.b, .int .i64 j.r, .int .i64 j.t] 28))
  have HR := hide (hr.below HA.out)
  have HJ := hide (jc_new w j n (.slice a len cap))
  clear hr
  unfold Jb.val
  go_enter Try.func27, Try.ntmps27
  go_wp2_with fail
  refine (refCheck_any j n a len cap ss _ HR.out).mono ?_
  rintro e w2 ⟨rfl, hb2⟩
  have HJ2 := hide (HJ.out.below hb2)
  have HR2 := hide (HR.out.below hb2)
  have HB2 := hide (below_trans HA.out hb2)
  obtain ⟨-, k1, k2, -⟩ := HJ2.out.cells
  clear hb2 HJ HR HA
  by_cases hc : chk ss n = 0
  · have HC := hide hc
    rw [hc]
    clear hc
    by_cases h0 : len = 0
    · have HO : Hid (ofP ss n k = hashP k n) := hide (by unfold ofP; rw [if_pos HC.out, if_pos (by rw [HL.out, h0])])
      subst h0
      go_wp2_with fail
      refine (refHash_any k n w2 hk).mono ?_
      rintro e w3 ⟨rfl, hb3⟩
      have HB3 := hide (below_trans HB2.out hb3)
      clear hb3
      go_wp2_with fail
      go_ret
      exact ⟨ret_int (by rw [HO.out]), HB3.out⟩
    · have HO : Hid (ofP ss n k = rank ss k) := hide (by unfold ofP; rw [if_pos HC.out, if_neg (by rw [HL.out]; exact h0)])
      have h0b : ((len : Int) == 0) = false := by simp; omega
      go_wp2_with fail
      refine (refRange_any a len cap ss k w2 HR2.out (by omega)).mono ?_
      rintro e w3 ⟨rfl, hb3⟩
      have HB3 := hide (below_trans HB2.out hb3)
      clear hb3
      go_wp2_with fail
      go_ret
      exact ⟨ret_int (by rw [HO.out]), HB3.out⟩
  · have HO : Hid (ofP ss n k = 0) := hide (by unfold ofP; rw [if_neg hc])
    have hz : (((chk ss n : Nat) : Int) != 0) = true := by simp; omega
    generalize ((chk ss n : Nat) : Int) = x at hz
    clear hc
    go_wp2_with fail
    go_ret
    exact ⟨ret_int (by rw [HO.out]; rfl), HB2.out⟩
set_option maxHeartbeats 2000000 in
set_option maxRecDepth 100000 in
theorem ranged_any (j : Jb) (n : Int) (a : Option Addr) (l c : Nat) (ax : Option Addr) (lx cx : Nat) (ao : Option Addr) (lo co : Nat) (ak : Option Addr) (lk ck : Nat) (ss ks : List ByteArray) (w : World) (hx : RdS w ax lx ss) (ho : RdS w ao lo ss) (hk : RdS w ak lk ks) (hz : ∀ s ∈ ks, s.size ≤ 140737488351232) :
    Calls Try.prog 11 #[j.val n a l c, .slice ax lx cx, .slice ao lo co, .slice ak lk ck] w fun e w' => e = .returned (.bool true) ∧ Below w.heap.size w w' := by
  have hl := hk.2.1
  have HX := hide hx
  have HO := hide ho
  have HK := hide hk
  have HZ := hide hz
  clear hx ho hk hz
  unfold Jb.val
  go_enter Try.func11, Try.ntmps11
  go_wp2_with fail
  obtain ⟨w1, hw1⟩ : ∃ w1, (w.alloc (.cells #[.int .i64 j.k, .int .i64 n, .slice ax lx cx, .bool j.cb, .int .i64 j.bu, .int .i64 j.fa, .int .i64 j.tr, .int .i64 j.b, .int .i64 j.r, .int .i64 j.t] 28)).alloc (.cells #[.int .i64 j.k, .int .i64 n, .slice ao lo co, .bool j.cb, .int .i64 j.bu, .int .i64 j.fa, .int .i64 j.tr, .int .i64 j.b, .int .i64 j.r, .int .i64 j.t] 28) = w1 := ⟨_, rfl⟩
  have HB1 : Hid (Below w.heap.size w w1) := hide (by
    rw [← hw1]
    have h := (Below.refl w.heap.size w).alloc (Nat.le_refl _) (.cells #[.int .i64 j.k, .int .i64 n, .slice ax lx cx, .bool j.cb, .int .i64 j.bu, .int .i64 j.fa, .int .i64 j.tr, .int .i64 j.b, .int .i64 j.r, .int .i64 j.t] 28)
    exact h.alloc h.size _)
  have HJ1 : Hid (JC w1 w.heap.size j n (.slice ax lx cx)) := hide (by
    have h := jc_new w j n (.slice ax lx cx)
    rw [← hw1]
    exact h.below ((Below.refl _ _).alloc (Nat.le_refl _) _))
  have HD1 : Hid (JC w1 (w.heap.size + 1) j n (.slice ao lo co)) := hide (by
    rw [← hw1]
    exact heap_two _ _ _)
  generalize hgg : w.heap.size = g at HJ1 HD1 hw1 ⊢
  have HGG := hide hgg
  clear hgg
  first | rw [hw1] | skip
  clear hw1
  have HX1 := hide (HX.out.below HB1.out)
  have HO1 := hide (HO.out.below HB1.out)
  have HK1 := hide (HK.out.below HB1.out)
  have HC1 : Hid (∀ W, Below w1.heap.size w1 W → Calls Try.prog 20 #[.agg #[.int .i64 j.k, .int .i64 n, .slice ax lx cx, .bool j.cb, .int .i64 j.bu, .int .i64 j.fa, .int .i64 j.tr, .int .i64 j.b, .int .i64 j.r, .int .i64 j.t]] W fun e w' => e = .returned (.int .i64 (chk ss n : Nat)) ∧ Below w1.heap.size w1 w') := fun W hW =>
    (check_any j n ax lx cx ss W (HX1.out.below hW)).mono fun e w' ⟨h1, h2⟩ => ⟨h1, hW.trans (h2.mono hW.size)⟩
  have HC2 : Hid (∀ W, Below w1.heap.size w1 W → Calls Try.prog 25 #[.agg #[.int .i64 j.k, .int .i64 n, .slice ao lo co, .bool j.cb, .int .i64 j.bu, .int .i64 j.fa, .int .i64 j.tr, .int .i64 j.b, .int .i64 j.r, .int .i64 j.t]] W fun e w' => e = .returned (.int .i64 (chk ss n : Nat)) ∧ Below w1.heap.size w1 w') := fun W hW =>
    (refCheck_any j n ao lo co ss W (HO1.out.below hW)).mono fun e w' ⟨h1, h2⟩ => ⟨h1, hW.trans (h2.mono hW.size)⟩
  obtain ⟨x0, x1, x2, x3, x4, x5, x6, x7, x8, x9⟩ := HJ1.out.cells
  obtain ⟨y0, y1, y2, y3, y4, y5, y6, y7, y8, y9⟩ := HD1.out.cells
  generalize hE : ((chk ss n : Nat) : Int) = E at HC1 HC2
  clear hE
  have hEq : ((E : Int) != E) = false := by simp
  go_region_held (fun V => (V.cell? ⟨g, 0, none⟩ = some (.int .i64 j.k) ∧ V.cell? ⟨g, 1, none⟩ = some (.int .i64 n) ∧ V.cell? ⟨g, 2, none⟩ = some (.slice ax lx cx) ∧ V.cell? ⟨g, 3, none⟩ = some (.bool j.cb) ∧ V.cell? ⟨g, 4, none⟩ = some (.int .i64 j.bu) ∧ V.cell? ⟨g, 5, none⟩ = some (.int .i64 j.fa) ∧ V.cell? ⟨g, 6, none⟩ = some (.int .i64 j.tr) ∧ V.cell? ⟨g, 7, none⟩ = some (.int .i64 j.b) ∧ V.cell? ⟨g, 8, none⟩ = some (.int .i64 j.r) ∧ V.cell? ⟨g, 9, none⟩ = some (.int .i64 j.t)) ∧ V.cell? ⟨g + 1, 0, none⟩ = some (.int .i64 j.k) ∧ V.cell? ⟨g + 1, 1, none⟩ = some (.int .i64 n) ∧ V.cell? ⟨g + 1, 2, none⟩ = some (.slice ao lo co) ∧ V.cell? ⟨g + 1, 3, none⟩ = some (.bool j.cb) ∧ V.cell? ⟨g + 1, 4, none⟩ = some (.int .i64 j.bu) ∧ V.cell? ⟨g + 1, 5, none⟩ = some (.int .i64 j.fa) ∧ V.cell? ⟨g + 1, 6, none⟩ = some (.int .i64 j.tr) ∧ V.cell? ⟨g + 1, 7, none⟩ = some (.int .i64 j.b) ∧ V.cell? ⟨g + 1, 8, none⟩ = some (.int .i64 j.r) ∧ V.cell? ⟨g + 1, 9, none⟩ = some (.int .i64 j.t)) (first | go_keep | exact E8.out | exact E9.out) (first
    | (go_at_call 20; refine (HC1.out _ ((Below.refl _ _).drew)).mono ?_; rintro e w6 ⟨rfl, hb6⟩; have HB6 := hide hb6; have E8 := hide (And.intro (HJ1.out.below hb6).cells (HD1.out.below hb6).cells); clear hb6)
    | (go_at_call 25; refine (HC2.out _ HB6.out).mono ?_; rintro e w7 ⟨rfl, hb7⟩; have HB7 := hide hb7; have E9 := hide (And.intro (HJ1.out.below hb7).cells (HD1.out.below hb7).cells); clear hb7))
  clear x0 y0 x1 y1 x2 y2 x3 y3 x4 y4 x5 y5 x6 y6 x7 y7 x8 y8 x9 y9 E8 E9 HB6 HC1 HC2
  go_wp2_with fail
  go_loopw [10] (fun i wr => ∃ k : Nat, k ≤ lk ∧ i = .int .i64 (k : Int) ∧ Hid (Below w1.heap.size w1 wr)) (fun i _ => lk - (intOf i).toNat)
  case atStart => exact ⟨0, Nat.zero_le _, rfl, HB7⟩
  case round =>
    obtain ⟨k, hk, rfl, HB⟩ := hrel
    by_cases hlt : k < lk
    · have hki : (k : Int) < (lk : Int) := by omega
      obtain ⟨b2, o2, rfl, hb2, hc2⟩ := (HK1.out.below HB.out).2.2.2 (by omega)
      have HKL : Hid (b2 < wr.heap.size) := hb2
      have kc := hc2 k hlt
      have HSZ := hide (HZ.out _ (getS_mem (i := k) (by rw [HK1.out.1]; exact hlt)))
      generalize ks.getD k ⟨#[]⟩ = s at kc HSZ
      have KC := hide kc
      clear hc2
      have K9 := hide (HJ1.out.below HB.out)
      have K10 := hide (HD1.out.below HB.out)
      obtain ⟨x0, x1, x2, x3, x4, x5, x6, x7, x8, x9⟩ := K9.out.cells
      obtain ⟨y0, y1, y2, y3, y4, y5, y6, y7, y8, y9⟩ := K10.out.cells
      have HR1 : Hid (∀ W, Below wr.heap.size wr W → Calls Try.prog 16 #[.slice ax lx cx, .string s] W fun e w' => e = .returned (.int .i64 (rank ss s : Nat)) ∧ Below wr.heap.size wr w') := fun W hW =>
        (range_any ax lx cx ss s W (HX1.out.below (below_trans HB.out hW)) (by have := HSZ.out; omega)).mono fun e w' ⟨h1, h2⟩ => ⟨h1, hW.trans (h2.mono hW.size)⟩
      have HR2 : Hid (∀ W, Below wr.heap.size wr W → Calls Try.prog 26 #[.slice ao lo co, .string s] W fun e w' => e = .returned (.int .i64 (rank ss s : Nat)) ∧ Below wr.heap.size wr w') := fun W hW =>
        (refRange_any ao lo co ss s W (HO1.out.below (below_trans HB.out hW)) (by have := HSZ.out; omega)).mono fun e w' ⟨h1, h2⟩ => ⟨h1, hW.trans (h2.mono hW.size)⟩
      have HO2 : Hid (∀ W, Below wr.heap.size wr W → Calls Try.prog 21 #[.agg #[.int .i64 j.k, .int .i64 n, .slice ax lx cx, .bool j.cb, .int .i64 j.bu, .int .i64 j.fa, .int .i64 j.tr, .int .i64 j.b, .int .i64 j.r, .int .i64 j.t], .string s] W fun e w' => e = .returned (.int .i64 (ofP ss n s : Nat)) ∧ Below wr.heap.size wr w') := fun W hW =>
        (of_any j n ax lx cx ss s W (HX1.out.below (below_trans HB.out hW)) HSZ.out).mono fun e w' ⟨h1, h2⟩ => ⟨h1, hW.trans (h2.mono hW.size)⟩
      have HO3 : Hid (∀ W, Below wr.heap.size wr W → Calls Try.prog 27 #[.agg #[.int .i64 j.k, .int .i64 n, .slice ao lo co, .bool j.cb, .int .i64 j.bu, .int .i64 j.fa, .int .i64 j.tr, .int .i64 j.b, .int .i64 j.r, .int .i64 j.t], .string s] W fun e w' => e = .returned (.int .i64 (ofP ss n s : Nat)) ∧ Below wr.heap.size wr w') := fun W hW =>
        (refOf_any j n ao lo co ss s W (HO1.out.below (below_trans HB.out hW)) HSZ.out).mono fun e w' ⟨h1, h2⟩ => ⟨h1, hW.trans (h2.mono hW.size)⟩
      generalize hP : ((rank ss s : Nat) : Int) = P at HR1 HR2
      generalize hQ : ((ofP ss n s : Nat) : Int) = Q at HO2 HO3
      clear hP hQ
      have d1 : ((P : Int) != P) = false := by simp
      have d2 : ((Q : Int) != Q) = false := by simp
      go_wp2_with fail
      go_region_held (fun V => V.cell? ⟨b2, o2 + k, none⟩ = some (.string s) ∧ (V.cell? ⟨g, 0, none⟩ = some (.int .i64 j.k) ∧ V.cell? ⟨g, 1, none⟩ = some (.int .i64 n) ∧ V.cell? ⟨g, 2, none⟩ = some (.slice ax lx cx) ∧ V.cell? ⟨g, 3, none⟩ = some (.bool j.cb) ∧ V.cell? ⟨g, 4, none⟩ = some (.int .i64 j.bu) ∧ V.cell? ⟨g, 5, none⟩ = some (.int .i64 j.fa) ∧ V.cell? ⟨g, 6, none⟩ = some (.int .i64 j.tr) ∧ V.cell? ⟨g, 7, none⟩ = some (.int .i64 j.b) ∧ V.cell? ⟨g, 8, none⟩ = some (.int .i64 j.r) ∧ V.cell? ⟨g, 9, none⟩ = some (.int .i64 j.t)) ∧ V.cell? ⟨g + 1, 0, none⟩ = some (.int .i64 j.k) ∧ V.cell? ⟨g + 1, 1, none⟩ = some (.int .i64 n) ∧ V.cell? ⟨g + 1, 2, none⟩ = some (.slice ao lo co) ∧ V.cell? ⟨g + 1, 3, none⟩ = some (.bool j.cb) ∧ V.cell? ⟨g + 1, 4, none⟩ = some (.int .i64 j.bu) ∧ V.cell? ⟨g + 1, 5, none⟩ = some (.int .i64 j.fa) ∧ V.cell? ⟨g + 1, 6, none⟩ = some (.int .i64 j.tr) ∧ V.cell? ⟨g + 1, 7, none⟩ = some (.int .i64 j.b) ∧ V.cell? ⟨g + 1, 8, none⟩ = some (.int .i64 j.r) ∧ V.cell? ⟨g + 1, 9, none⟩ = some (.int .i64 j.t)) (first | go_keep | exact E5.out | exact E6.out | exact E7.out | exact E8.out) (first
        | (go_at_call 16; refine (HR1.out _ ((Below.refl _ _).drew)).mono ?_; rintro e w5 ⟨rfl, hb5⟩; have HB5 := hide hb5; have E5 := hide (And.intro ((hb5.cell (p := ⟨b2, o2 + k, none⟩) HKL.out).trans KC.out) (And.intro (K9.out.below hb5).cells (K10.out.below hb5).cells)); clear hb5)
        | (go_at_call 26; refine (HR2.out _ HB5.out).mono ?_; rintro e w6 ⟨rfl, hb6⟩; have HB6 := hide hb6; have E6 := hide (And.intro ((hb6.cell (p := ⟨b2, o2 + k, none⟩) HKL.out).trans KC.out) (And.intro (K9.out.below hb6).cells (K10.out.below hb6).cells)); clear hb6)
        | (go_at_call 21; refine (HO2.out _ HB6.out).mono ?_; rintro e w7 ⟨rfl, hb7⟩; have HB7' := hide hb7; have E7 := hide (And.intro ((hb7.cell (p := ⟨b2, o2 + k, none⟩) HKL.out).trans KC.out) (And.intro (K9.out.below hb7).cells (K10.out.below hb7).cells)); clear hb7)
        | (go_at_call 27; refine (HO3.out _ HB7'.out).mono ?_; rintro e w8 ⟨rfl, hb8⟩; have HB8 := hide hb8; have E8 := hide (And.intro ((hb8.cell (p := ⟨b2, o2 + k, none⟩) HKL.out).trans KC.out) (And.intro (K9.out.below hb8).cells (K10.out.below hb8).cells)); clear hb8))
      all_goals
        clear x0 y0 x1 y1 x2 y2 x3 y3 x4 y4 x5 y5 x6 y6 x7 y7 x8 y8 x9 y9
        go_wp2_with fail
        go_roundw
        case rel => exact ⟨k + 1, by omega, by go_num, below_trans HB.out HB8.out⟩
        case measure => (simp [intOf] <;> omega)
    · have hkl : k = lk := by omega
      subst hkl
      have hki : ¬ (k : Int) < (k : Int) := by omega
      go_wp2_with fail
      go_ret
      exact ⟨rfl, by first | exact below_trans HB1.out HB.out | (rw [← HGG.out]; exact below_trans HB1.out HB.out)⟩
end Go.Proofs.Ytdpihfmbkimgpaa.Pa
