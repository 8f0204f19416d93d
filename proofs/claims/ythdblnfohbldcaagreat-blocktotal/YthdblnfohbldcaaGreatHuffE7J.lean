/-
  Encode: the counts of a text, its lengths, its words.
-/
import Derived.Test.YthdblnfohbldcaaGreatHuffE4J
import Derived.Test.YthdblnfohbldcaaGreatHuffL3J
import Derived.Test.YthdblnfohbldcaaGreatHuffC5J
import Derived.Test.YthdblnfohbldcaaGreatPaStrsJ
namespace Go.Proofs.YthdblnfohbldcaaGreat.Huff
open Go.ChangeShapes Go.WideShapes Go.ChangeAt Go.RowKit
open Go.Proofs.YthdblnfohbldcaaGreat.Base
set_option linter.unusedVariables false
def countsOf (t : List (BitVec 8)) : List Int := (List.range 256).map fun s => ((t.countP fun c => decide (c.toNat = s) : Nat) : Int)
theorem countsOf_len (t : List (BitVec 8)) : (countsOf t).length = 256 := by simp [countsOf]
theorem countsOf_get (t : List (BitVec 8)) (s : Nat) (h : s < 256) : (countsOf t).getD s 0 = ((t.countP fun c => decide (c.toNat = s) : Nat) : Int) := by
  unfold countsOf
  rw [List.getD_eq_getElem?_getD, List.getElem?_map, List.getElem?_range h]; rfl
theorem countsOf_nil : countsOf [] = List.replicate 256 0 := by
  refine List.ext_getElem? fun i => ?_
  unfold countsOf
  rw [List.getElem?_map, List.getElem?_replicate]
  by_cases h : i < 256
  · rw [List.getElem?_range h, if_pos h]; rfl
  · rw [List.getElem?_eq_none (by simp; omega), if_neg h]; rfl
theorem countsOf_next (t : List (BitVec 8)) (c : BitVec 8) : (countsOf t).set c.toNat ((countsOf t).getD c.toNat 0 + 1) = countsOf (t ++ [c]) := by
  have hc := lt8 c
  refine List.ext_getElem? fun i => ?_
  rw [List.getElem?_set, countsOf_len]
  by_cases e : c.toNat = i
  · subst e
    rw [if_pos rfl, if_pos hc, countsOf_get _ _ hc]
    unfold countsOf
    rw [List.getElem?_map, List.getElem?_range hc]
    simp [List.countP_append, List.countP_cons]
  · rw [if_neg e]
    unfold countsOf
    rw [List.getElem?_map, List.getElem?_map]
    by_cases h : i < 256
    · rw [List.getElem?_range h]
      simp [List.countP_append, List.countP_cons, e]
    · rw [List.getElem?_eq_none (by simp; omega)]; rfl
theorem countsOf_in (t : List (BitVec 8)) (h : t.length ≤ 1099511627776) : allIn 1099511627776 (countsOf t) = true := by
  unfold allIn
  rw [List.all_eq_true]
  intro x hx
  obtain ⟨s, _, rfl⟩ := List.mem_map.1 hx
  have := List.countP_le_length (p := fun c : BitVec 8 => decide (c.toNat = s)) (l := t)
  exact decide_eq_true ⟨by omega, by omega⟩
/-- The last word's place is the sum of the shares. -/
def firstK (ls : List Int) (k : Nat) : Nat → Nat
  | 0 => 0
  | l + 1 => 2 * (firstK ls k l + cntW ls k l)
theorem firstK_all (ls : List Int) : ∀ l, firstK ls ls.length l = first ls l
  | 0 => rfl
  | l + 1 => by simp only [firstK, first]; rw [firstK_all ls l]
theorem cntW_succ (ls : List Int) (k l : Nat) : cntW ls (k + 1) l = cntW ls k l + if l ≠ 0 ∧ ls.getD k 0 = (l : Int) then 1 else 0 := by
  unfold cntW
  by_cases h : l = 0
  · rw [if_pos h, if_pos h, if_neg (fun e => e.1 h)]
  · rw [if_neg h, if_neg h]
    simp only [cnt]
    by_cases e : ls.getD k 0 = (l : Int)
    · rw [if_pos e, if_pos ⟨h, e⟩]
    · rw [if_neg e, if_neg (fun x => e x.2)]
/-- One symbol of length m more. -/
theorem firstK_succ (ls : List Int) (k m : Nat) (h : ls.getD k 0 = (m : Int)) : ∀ l, firstK ls (k + 1) l = firstK ls k l + if 0 < m ∧ m < l then 2 ^ (l - m) else 0
  | 0 => by simp [firstK]
  | l + 1 => by
    simp only [firstK]
    rw [firstK_succ ls k m h l, cntW_succ, h]
    by_cases h0 : 0 < m
    · by_cases h1 : m < l
      · rw [if_pos ⟨h0, h1⟩, if_neg (by omega), if_pos ⟨h0, by omega⟩, show l + 1 - m = (l - m) + 1 by omega, Nat.pow_succ]; omega
      · rw [if_neg (by omega)]
        by_cases h2 : m = l
        · rw [if_pos ⟨by omega, by omega⟩, if_pos ⟨h0, by omega⟩, show l + 1 - m = 1 by omega]; omega
        · rw [if_neg (by omega), if_neg (by omega)]; omega
    · rw [if_neg (by omega), if_neg (by omega), if_neg (by omega)]; omega
theorem last_kraft (ls : List Int) (hin : allIn 15 ls = true) : ∀ k, k ≤ ls.length → firstK ls k 15 + cntW ls k 15 = Pm.kraftTo ls k
  | 0, _ => by
    have h0 : ∀ l, firstK ls 0 l = 0 := by
      intro l
      induction l with
      | zero => rfl
      | succ l ih => simp only [firstK]; rw [ih]; simp [cntW, cnt]
    rw [h0]; simp [cntW, cnt, Pm.kraftTo]
  | k + 1, h => by
    have hx := allIn_get hin k (by omega)
    obtain ⟨m, hm⟩ : ∃ m : Nat, ls.getD k 0 = (m : Int) := ⟨(ls.getD k 0).toNat, by omega⟩
    rw [Pm.kraftTo_add ls k (by omega), ← last_kraft ls hin k (by omega), firstK_succ ls k m hm, cntW_succ, hm]
    rw [hm] at hx
    unfold Pm.share
    by_cases h0 : 0 < m
    · rw [if_pos (c := 0 < (m : Int) ∧ (m : Int) ≤ 15) ⟨by omega, by omega⟩, Int.toNat_natCast]
      by_cases h1 : m < 15
      · rw [if_pos ⟨h0, h1⟩, if_neg (by omega)]; omega
      · have : m = 15 := by omega
        subst this
        rw [if_neg (by omega), if_pos ⟨by omega, rfl⟩]; simp; omega
    · rw [if_neg (by omega), if_neg (by omega), if_neg (by omega)]; omega
theorem right_kraft (ls : List Int) (hin : allIn 15 ls = true) (h : Pm.kraftTo ls ls.length ≤ 32768) : right ls = true := by
  unfold right last
  rw [← firstK_all, last_kraft ls hin ls.length (Nat.le_refl _)]
  exact decide_eq_true h
/-- The lengths of a text's words. -/
def textLens (t : List (BitVec 8)) : List Int := Pm.lensBy (countsOf t) 15
theorem textLens_len (t : List (BitVec 8)) : (textLens t).length = 256 := by simp [textLens, Pm.lensBy, countsOf_len]
theorem order_small (cs : List Int) (h : cs.length ≤ 256) : (Pm.orderOf cs).length ≤ 256 :=
  Nat.le_trans (Pm.ordered_len (Pm.orderOf_ok cs)) h
theorem textLens_ok (t : List (BitVec 8)) (h : t.length ≤ 65536) : Pm.Lens (countsOf t) 15 ∧ Pm.lengthsd (countsOf t) 15 = (textLens t, 0) ∧ coded (textLens t) = (codesOf (textLens t), 0) ∧ right (textLens t) = true := by
  have hin := countsOf_in t (by omega)
  have ho := order_small (countsOf t) (by rw [countsOf_len]; omega)
  have L := Pm.lens_ok (countsOf t) (by rw [countsOf_len]; omega) hin 15 (by omega) (by omega) (by omega)
  have hall : allIn 15 (textLens t) = true := L.all
  have hk : Pm.kraftTo (textLens t) (textLens t).length ≤ 32768 := by
    have := L.right
    rw [countsOf_len] at this
    rw [textLens_len]; exact this
  have hr := right_kraft _ hall hk
  refine ⟨L, ?_, ?_, hr⟩
  · unfold Pm.lengthsd
    rw [if_neg (by rw [countsOf_len]; omega), if_neg (by rw [hin]; simp), if_neg (by show ¬ 2 ^ 15 < _; omega)]
    rfl
  · unfold coded
    rw [if_neg (by rw [textLens_len]; omega), if_neg (by rw [hall]; simp), if_pos hr]
/-- What Encode answers. -/
def encoded (t : List (BitVec 8)) : List (BitVec 8) × Int :=
  if 65536 < t.length then ([], 2) else (flush (packed (pairsOf (textLens t) ++ [0]) (bitsOf (codesOf (textLens t)) t)), 0)
theorem codes_lenOk (t : List (BitVec 8)) (h : t.length ≤ 65536) : LenOk (codesOf (textLens t)) := by
  have hall := (textLens_ok t h).1.all
  have hr := (textLens_ok t h).2.2.2
  refine ⟨by rw [codesOf_len, textLens_len], fun k hk => ?_⟩
  have e : (codesOf (textLens t)).getD k (0, 0) = codeAt (textLens t) k := by
    unfold codesOf
    rw [List.getD_eq_getElem?_getD, List.getElem?_map, textLens_len, List.getElem?_range hk]; rfl
  have hx := allIn_get hall k (by have := textLens_len t; unfold textLens at this; omega)
  have hx2 : 0 ≤ (textLens t).getD k 0 ∧ (textLens t).getD k 0 ≤ 15 := hx
  rw [e]
  by_cases h0 : (textLens t).getD k 0 = 0
  · unfold codeAt
    rw [if_pos h0]
    exact ⟨by decide, by decide, by decide⟩
  · obtain ⟨l, hl⟩ : ∃ l : Nat, (textLens t).getD k 0 = (l : Int) := ⟨((textLens t).getD k 0).toNat, by omega⟩
    have hc : codeAt (textLens t) k = ((l : Int), first (textLens t) l + cnt (textLens t) l k) := by
      unfold codeAt
      rw [if_neg h0, hl]; rfl
    have hs := word_small (textLens t) hr (i := k) (by rw [textLens_len]; exact hk) (l := l) (by omega) (by omega) hc
    rw [hc]
    have h15 : 2 ^ l ≤ 2 ^ 15 := Nat.pow_le_pow_right (by decide) (by omega)
    exact ⟨by simp only []; omega, by simp only []; omega, by simp only []; omega⟩
end Go.Proofs.YthdblnfohbldcaaGreat.Huff
/-
  Encode, at any text.
-/
namespace Go.Proofs.YthdblnfohbldcaaGreat.Huff
open Go.ChangeShapes Go.WideShapes Go.ChangeAt Go.RowKit
open Go.Proofs.YthdblnfohbldcaaGreat.Base
set_option linter.unusedVariables false
theorem z256 : Tryz.zeroCells95 = (ivals (List.replicate 256 0)).toArray := by kernel_rfl
theorem trimmed_le (ls : List Int) : (trimmed ls).length ≤ ls.length := by
  unfold trimmed
  have := (List.dropWhile_sublist (fun x : Int => decide (x = 0)) (l := ls.reverse)).length_le
  rw [List.length_reverse] at this ⊢
  exact this
theorem pairs_small (ls : List Int) (h : ls.length ≤ 256) : (pairsOf ls ++ [0]).length ≤ 65536 ∧ 0 < (pairsOf ls ++ [0]).length := by
  have h1 := trimmed_le ls
  have h2 := pairs_len (trimmed ls).length (trimmed ls) (by omega)
  unfold pairsOf
  rw [List.length_append, List.length_singleton]
  omega
theorem pm_shape {w : World} {base : Nat} {v : Value} {xs : List Int} (h : Pm.OwnI w base v xs) (hx : 0 < xs.length) : ∃ g c, v = .slice (some ⟨g, 0, none⟩) xs.length c ∧ c ≤ 9223372036854775807 ∧ xs.length ≤ c := by
  rcases h.2 with ⟨h1, h2⟩ | ⟨g, c, cur, h1, _, _, h4, h5, _⟩
  · omega
  · exact ⟨g, c, h1, by unfold maxLen at h5; omega, h4⟩
set_option maxHeartbeats 2000000 in
set_option maxRecDepth 100000 in
theorem encode_any (a : Option Addr) (len cap : Nat) (t : List (BitVec 8)) (w : World) (hr : Rd w a len t) (hc : len ≤ cap) :
    Calls Tryz.prog 15 #[.slice a len cap] w fun e w' => ∃ v, e = .returned (.tuple #[v, .int .i64 (encoded t).2]) ∧ Own w' w.heap.size v (encoded t).1 ∧ Below w.heap.size w w' := by
  have HL := hide hr.1
  by_cases h1 : 65536 < len
  · have HE : Hid (encoded t = ([], 2)) := if_pos (by rw [HL.out]; exact h1)
    have h1i : (65536 : Int) < (len : Int) := by omega
    clear hr
    go_enter Tryz.func15, Tryz.ntmps15
    go_wp2_with fail
    go_ret2
    rw [HE.out]
    exact ⟨_, rfl, own_none _ _, Below.refl _ _⟩
  · have HE : Hid (encoded t = (flush (packed (pairsOf (textLens t) ++ [0]) (bitsOf (codesOf (textLens t)) t)), 0)) := if_neg (by rw [HL.out]; exact h1)
    have ht : t.length ≤ 65536 := by rw [HL.out]; omega
    have HTL := hide (textLens_ok t ht)
    have HLO := hide (codes_lenOk t ht)
    have HT := hide ht
    have HR := hide hr
    clear hr ht
    have h1i : (len : Int) ≤ 65536 := by omega
    go_enter Tryz.func15, Tryz.ntmps15
    go_wp2_with fail
    generalize hW1 : w.alloc _ = W1
    have HN : Hid (RowI 95 W1 w.heap.size (List.replicate 256 0)) := by rw [← hW1, z256]; exact rowi_new _ _ _
    have HB0 : Hid (Below w.heap.size w W1) := by rw [← hW1]; exact (Below.refl _ _).alloc (Nat.le_refl _) _
    clear hW1
    obtain ⟨g, hg⟩ : ∃ g, w.heap.size = g := ⟨_, rfl⟩
    rw [hg] at HN ⊢
    have HG : Hid (w.heap.size = g) := hg
    clear hg
    go_loopw [15] (fun i wr => ∃ k : Nat, k ≤ len ∧ i = .int .i64 (k : Int) ∧ Hid (RowI 95 wr g (countsOf (t.take k))) ∧ Hid (Below w.heap.size w wr)) (fun i _ => len - (intOf i).toNat)
    case atStart => exact ⟨0, Nat.zero_le _, rfl, by rw [List.take_zero, countsOf_nil]; exact HN, HB0⟩
    case round =>
      clear HN HB0
      obtain ⟨k, hk, rfl, HRW, HB⟩ := hrel
      by_cases hlt : k < len
      · have hki : (k : Int) < (len : Int) := by omega
        obtain ⟨b1, o1, rfl, hb1, hc1⟩ := HR.out.2.2 (by omega)
        have g1 := hc1 k hlt
        rw [← HB.out.cell (p := ⟨b1, o1 + k, none⟩) hb1] at g1
        have HNX := hide (countsOf_next (t.take k) (t.getD k 0))
        rw [← getD_take t k (by rw [HL.out]; exact hlt)] at HNX
        have g2 := HRW.out.cell (t.getD k 0).toNat (by rw [countsOf_len]; exact lt8 _)
        have f2 := HRW.out.frozen (t.getD k 0).toNat
        have HCT : Hid (0 ≤ (countsOf (t.take k)).getD (t.getD k 0).toNat 0 ∧ (countsOf (t.take k)).getD (t.getD k 0).toNat 0 ≤ 1099511627776) := allIn_get (countsOf_in (t.take k) (by rw [List.length_take]; have := HT.out; omega)) _ (by rw [countsOf_len]; exact lt8 _)
        have hC := lt8 (t.getD k 0)
        generalize (t.getD k 0).toNat = C at g1 g2 f2 HNX HCT hC
        generalize (countsOf (t.take k)).getD C 0 = x at g2 HNX HCT
        have hx0 : 0 ≤ x := HCT.out.1
        have hx1 : x ≤ 1099511627776 := HCT.out.2
        clear HCT hc1
        go_wp2_with fail
        go_roundw
        case rel => exact ⟨k + 1, by omega, by go_num, by rw [← HNX.out]; exact HRW.out.store C _, HB.out.setCell (Nat.le_of_eq HG.out) _⟩
        case measure => simp [intOf]; omega
      · have h0 : k = len := by omega
        subst h0
        rw [List.take_of_length_le (by rw [HL.out]; exact Nat.le_refl _)] at HRW
        have HRD : Hid (RdI wr (some ⟨g, 0, none⟩) 256 (countsOf t)) := by
          have := HRW.out.rd 256 (by rw [countsOf_len]; omega) (by omega)
          rwa [List.take_of_length_le (by rw [countsOf_len]; omega)] at this
        have HLE := hide (fun W h => Pm.lengths_any (some ⟨g, 0, none⟩) 256 256 (countsOf t) 15 W h (fun e => by cases e))
        rw [HTL.out.2.1] at HLE
        have HCO := hide (fun a c W h => codes_any a 256 c (textLens t) W h)
        rw [HTL.out.2.2.1] at HCO
        go_wp2_with fail
        refine (HLE.out _ HRD.out).mono ?_
        rintro e w1 ⟨v1, rfl, ho1, hb1⟩
        obtain ⟨g1, c1, hv1, hc1, hc2⟩ := pm_shape ho1 (by rw [textLens_len]; omega)
        rw [textLens_len] at hv1 hc2
        subst hv1
        have HO1 := hide ho1
        have HR1 : Hid (RdI w1 (some ⟨g1, 0, none⟩) 256 (textLens t)) := ho1.rd (by rw [textLens_len]; omega)
        have HB1 : Hid (Below w.heap.size w w1) := HB.out.trans (hb1.mono HB.out.size)
        clear ho1 hb1 HLE HRD
        go_wp2_with fail
        refine (HCO.out _ _ _ HR1.out).mono ?_
        rintro e w2 ⟨v2, rfl, ho2, hb2⟩
        obtain ⟨a2, c2, hv2⟩ := OwnC.shape ho2
        rw [HLO.out.1] at hv2
        subst hv2
        obtain ⟨g2, rfl⟩ := OwnC.some' ho2 (by omega)
        have HO2 := hide ho2
        have HB2 : Hid (Below w.heap.size w w2) := HB1.out.trans (hb2.mono HB1.out.size)
        have HR2 := hide (HR1.out.below hb2)
        have HRT := hide (HR.out.below HB2.out)
        clear ho2 hb2 HCO
        have HPL := hide (putLengths_any (some ⟨g1, 0, none⟩) 256 c1 (textLens t) w2 HR2.out hc2 hc1 (by omega) HTL.out.1.all)
        go_wp2_with fail
        refine HPL.out.mono ?_
        rintro e w3 ⟨v3, rfl, ho3, hb3⟩
        have HPW : Hid ((pairsOf (textLens t) ++ [0]).length ≤ 65536 ∧ 0 < (pairsOf (textLens t) ++ [0]).length) := pairs_small _ (by rw [textLens_len]; omega)
        obtain ⟨g3, c3, hv3⟩ : ∃ g c, v3 = .slice (some ⟨g, 0, none⟩) (pairsOf (textLens t) ++ [0]).length c := by
          rcases ho3.2 with ⟨h1, h2⟩ | ⟨g, c, cur, h1, _⟩
          · have := HPW.out.2; omega
          · exact ⟨g, c, h1⟩
        subst hv3
        have HPX := hide (putWords_any g3 c3 (pairsOf (textLens t) ++ [0]) t a k cap _ g2 c2 (codesOf (textLens t)) w2 w3 ho3 hb3 HRT.out (by omega) HO2.out HLO.out HPW.out.1)
        clear ho3
        generalize (pairsOf (textLens t) ++ [0]).length = n3 at HPX ⊢
        go_wp2_with fail
        refine HPX.out.mono ?_
        rintro e w4 ⟨v4, rfl, ho4, hb4⟩
        have HO4 := hide (ho4.mono HB2.out.size)
        have HB4 : Hid (Below w.heap.size w w4) := HB2.out.trans (hb4.mono HB2.out.size)
        clear ho4 hb4
        go_wp2_with fail
        go_ret2
        rw [HE.out]
        exact ⟨v4, rfl, HO4.out, HB4.out⟩
end Go.Proofs.YthdblnfohbldcaaGreat.Huff
/-
  A text there and back: the mathematics.
-/
namespace Go.Proofs.YthdblnfohbldcaaGreat.Huff
open Go.Proofs.YthdblnfohbldcaaGreat.Base
set_option linter.unusedVariables false
/- The lengths. -/
theorem run_split (rs : List Int) : rs = List.replicate (runOf rs) (rs.getD 0 0) ++ rs.drop (runOf rs) := by
  cases rs with
  | nil => rfl
  | cons x r =>
    have key : ∀ r : List Int, r = List.replicate (r.takeWhile fun y => decide (y = x)).length x ++ r.drop (r.takeWhile fun y => decide (y = x)).length := by
      intro r
      induction r with
      | nil => rfl
      | cons y r ih =>
        by_cases e : y = x
        · rw [List.takeWhile_cons, if_pos (by simpa using e), List.length_cons, List.replicate_succ, List.drop_succ_cons, List.cons_append, ← ih, e]
        · rw [List.takeWhile_cons, if_neg (by simpa using e)]; rfl
    show x :: r = List.replicate (1 + _) x ++ (x :: r).drop (1 + _)
    rw [Nat.add_comm 1, List.replicate_succ, List.drop_succ_cons, List.cons_append, ← key r]
theorem run_next (rs : List Int) (h : rs.drop (runOf rs) ≠ []) : (rs.drop (runOf rs)).getD 0 0 ≠ rs.getD 0 0 := by
  cases rs with
  | nil => exact absurd rfl h
  | cons x r =>
    have key : ∀ r : List Int, r.drop (r.takeWhile fun y => decide (y = x)).length ≠ [] → (r.drop (r.takeWhile fun y => decide (y = x)).length).getD 0 0 ≠ x := by
      intro r
      induction r with
      | nil => intro h; exact absurd rfl h
      | cons y r ih =>
        by_cases e : y = x
        · rw [List.takeWhile_cons, if_pos (by simpa using e), List.length_cons, List.drop_succ_cons]; exact ih
        · rw [List.takeWhile_cons, if_neg (by simpa using e)]; intro _; exact e
    have e : (x :: r).drop (runOf (x :: r)) = r.drop (r.takeWhile fun y => decide (y = x)).length := by
      show (x :: r).drop (1 + _) = _
      rw [Nat.add_comm 1, List.drop_succ_cons]
    rw [e] at h ⊢
    exact key r h
theorem put0 : Nums.put 0 = [(0 : BitVec 8)] := by rw [Nums.put_small 0 (by omega)]; rfl
theorem get0 (rest : List (BitVec 8)) : Nums.get ((0 : BitVec 8) :: rest) = (0, 1, 0) := by
  have := Nums.get_put 0 rest (by omega)
  rw [put0] at this
  exact this
theorem lens_back : ∀ (f n : Nat) (rs acc : List Int) (rest : List (BitVec 8)), (pairsGo rs.length rs).length < f → rs.length ≤ n → acc.length + rs.length ≤ 256 → (∀ x ∈ rs, 0 ≤ x ∧ x ≤ 15) → (rs ≠ [] → lastLen acc ≠ rs.getD 0 0) → lastLen (acc ++ rs) ≠ 0 →
    lensGo f (pairsGo n rs ++ (0 :: rest)) acc = some (acc ++ rs, rest)
  | 0, _, rs, acc, rest, h, _, _, _, _, _ => by omega
  | f + 1, n, rs, acc, rest, hf, hn, hl, hin, hd, hz => by
    by_cases e : rs = []
    · subst e
      have e2 : pairsGo n ([] : List Int) = [] := by cases n <;> simp [pairsGo]
      rw [e2, List.nil_append, List.append_nil]
      rw [List.append_nil] at hz
      simp only [lensGo, get0]
      rw [if_neg (by omega), if_pos trivial, if_neg hz]
      rfl
    · have hp := runOf_pos e
      rw [pairs_step e] at hf
      rw [pairsGo_more n rs rs.length hn (Nat.le_refl _), pairs_step e]
      have hx := hin (rs.getD 0 0) (by
        cases rs with
        | nil => exact absurd rfl e
        | cons x r => exact List.mem_cons_self ..)
      have hs := run_split rs
      have hnx := run_next rs
      have hb := b8_of (rs.getD 0 0) hx.1 hx.2
      have hdd := hd e
      generalize rs.getD 0 0 = x at hs hnx hx hb hdd hf ⊢
      generalize runOf rs = q at hs hnx hp hf ⊢
      have hdl : (rs.drop q).length = rs.length - q := List.length_drop ..
      have hin2 : ∀ y ∈ rs.drop q, 0 ≤ y ∧ y ≤ 15 := fun y hy => hin y (List.mem_of_mem_drop hy)
      generalize rs.drop q = r2 at hs hnx hdl hin2 hf ⊢
      simp only [List.length_append, List.length_singleton] at hf
      have hg : Nums.get (Nums.put q ++ [BitVec.ofNat 8 x.toNat] ++ pairsGo r2.length r2 ++ (0 :: rest)) = (q, (Nums.put q).length, 0) := by
        rw [List.append_assoc, List.append_assoc]; exact Nums.get_put q _ (by omega)
      have hdr : (Nums.put q ++ [BitVec.ofNat 8 x.toNat] ++ pairsGo r2.length r2 ++ (0 :: rest)).drop (Nums.put q).length = BitVec.ofNat 8 x.toNat :: (pairsGo r2.length r2 ++ (0 :: rest)) := by
        rw [List.append_assoc, List.append_assoc, List.drop_left]; rfl
      simp only [lensGo, hg, hdr]
      rw [if_neg (by omega), if_neg (by omega), if_neg (by rw [hb]; omega), hb]
      have hl2 : lastLen (acc ++ List.replicate q x) = x := lastLen_app acc q x (by omega)
      rw [lens_back f r2.length r2 (acc ++ List.replicate q x) rest (by omega) (Nat.le_refl _) (by rw [List.length_append, List.length_replicate]; omega) hin2 (fun h => by rw [hl2]; exact (hnx h).symm) (by rw [List.append_assoc, ← hs]; exact hz)]
      rw [List.append_assoc, ← hs]
theorem trimmed_last (ls : List Int) : lastLen (trimmed ls) ≠ 0 := by
  unfold lastLen trimmed
  rw [List.getLast?_reverse]
  generalize ls.reverse = r
  induction r with
  | nil => decide
  | cons y r ih =>
    by_cases e : y = 0
    · rw [List.dropWhile_cons, if_pos (by simpa using e)]; exact ih
    · rw [List.dropWhile_cons, if_neg (by simpa using e)]; exact e
theorem trimmed_pre (ls : List Int) : ∃ n, ls = trimmed ls ++ List.replicate n 0 := by
  have key : ∀ r : List Int, ∃ n, r = List.replicate n 0 ++ r.dropWhile fun x => decide (x = 0) := by
    intro r
    induction r with
    | nil => exact ⟨0, rfl⟩
    | cons y r ih =>
      by_cases e : y = 0
      · obtain ⟨n, hn⟩ := ih
        refine ⟨n + 1, ?_⟩
        rw [List.dropWhile_cons, if_pos (by simpa using e), List.replicate_succ, List.cons_append, ← hn, e]
      · exact ⟨0, by rw [List.dropWhile_cons, if_neg (by simpa using e)]; rfl⟩
  obtain ⟨n, hn⟩ := key ls.reverse
  refine ⟨n, ?_⟩
  have := congrArg List.reverse hn
  rw [List.reverse_reverse, List.reverse_append, List.reverse_replicate] at this
  exact this
theorem getD_mem {xs : List Int} (h : xs ≠ []) : xs.getD 0 0 ∈ xs := by
  cases xs with
  | nil => exact absurd rfl h
  | cons x r => exact List.mem_cons_self ..
theorem lensOf_pairs (ls : List Int) (hl : ls.length ≤ 256) (hin : allIn 15 ls = true) (rest : List (BitVec 8)) : lensOf (pairsOf ls ++ [0] ++ rest) = some (trimmed ls, rest) := by
  obtain ⟨n, hn⟩ := trimmed_pre ls
  have h1 : ∀ x ∈ trimmed ls, 0 ≤ x ∧ x ≤ 15 := by
    intro x hx
    have hm : x ∈ ls := by rw [hn]; exact List.mem_append_left _ hx
    unfold allIn at hin
    have := List.all_eq_true.1 hin x hm
    exact of_decide_eq_true this
  have h2 : (trimmed ls).length ≤ ls.length := by
    have := congrArg List.length hn
    rw [List.length_append] at this; omega
  unfold lensOf pairsOf
  rw [List.append_assoc]
  have := lens_back ((pairsGo (trimmed ls).length (trimmed ls) ++ ([0] ++ rest)).length + 1) (trimmed ls).length (trimmed ls) [] rest (by rw [List.length_append]; omega) (Nat.le_refl _) (by simp; omega) h1 (fun h => by rw [lastLen_nil]; have := h1 ((trimmed ls).getD 0 0) (getD_mem h); omega) (by rw [List.nil_append]; exact trimmed_last ls)
  exact this
/- The same words without the zeros at the end. -/
theorem trimmed_get (ls : List Int) (i : Nat) : (trimmed ls).getD i 0 = ls.getD i 0 := by
  obtain ⟨n, hn⟩ := trimmed_pre ls
  generalize trimmed ls = ts at hn ⊢
  subst hn
  rw [List.getD_eq_getElem?_getD, List.getD_eq_getElem?_getD, List.getElem?_append]
  by_cases h : i < ts.length
  · rw [if_pos h]
  · rw [if_neg h, List.getElem?_eq_none (by omega), List.getElem?_replicate]
    split <;> rfl
theorem cnt_congr {a b : List Int} (h : ∀ i, a.getD i 0 = b.getD i 0) (l : Nat) : ∀ k, cnt a l k = cnt b l k
  | 0 => rfl
  | k + 1 => by simp only [cnt]; rw [cnt_congr h l k, h k]
theorem cnt_far {ls : List Int} {l m : Nat} (hl : 0 < l) : ∀ n, (∀ j, m ≤ j → j < n → ls.getD j 0 = 0) → m ≤ n → cnt ls l n = cnt ls l m
  | 0, _, h => by rw [show m = 0 by omega]
  | n + 1, h0, h => by
    by_cases e : m = n + 1
    · rw [e]
    · simp only [cnt]
      rw [cnt_far hl n (fun j h1 h2 => h0 j h1 (by omega)) (by omega), h0 n (by omega) (by omega), if_neg (by omega)]; rfl
theorem trimmed_cntW (ls : List Int) (l : Nat) : cntW (trimmed ls) (trimmed ls).length l = cntW ls ls.length l := by
  unfold cntW
  by_cases h : l = 0
  · rw [if_pos h, if_pos h]
  · rw [if_neg h, if_neg h, cnt_congr (trimmed_get ls) l]
    symm
    refine cnt_far (by omega) _ (fun j h1 h2 => ?_) ?_
    · rw [← trimmed_get, List.getD_eq_getElem?_getD, List.getElem?_eq_none h1]; rfl
    · obtain ⟨n, hn⟩ := trimmed_pre ls
      have := congrArg List.length hn
      rw [List.length_append] at this; omega
theorem trimmed_first (ls : List Int) : ∀ l, first (trimmed ls) l = first ls l
  | 0 => rfl
  | l + 1 => by simp only [first]; rw [trimmed_first ls l, trimmed_cntW]
theorem trimmed_code (ls : List Int) (i : Nat) : codeAt (trimmed ls) i = codeAt ls i := by
  unfold codeAt
  rw [trimmed_get, trimmed_first, cnt_congr (trimmed_get ls)]
theorem trimmed_right (ls : List Int) : right (trimmed ls) = right ls := by
  unfold right last
  rw [trimmed_first, trimmed_cntW]
/- The bits. -/
structure Pk8 (S : List Nat) (s : List (BitVec 8) × Nat × Nat) : Prop where
  f : s.2.2 = S.length % 8
  len : s.1.length = S.length / 8
  low : ∀ i, i < 8 * s.1.length → bitAt s.1 i = S.getD i 0
  part : ∀ j, j < s.2.2 → s.2.1 / 2 ^ j % 2 = S.getD (8 * s.1.length + j) 0
  small : s.2.1 < 2 ^ s.2.2
theorem bitAt_app (B : List (BitVec 8)) (c : BitVec 8) (i : Nat) (h : i < 8 * B.length) : bitAt (B ++ [c]) i = bitAt B i := by
  unfold bitAt
  rw [List.getD_eq_getElem?_getD, List.getElem?_append_left (by omega), ← List.getD_eq_getElem?_getD]
theorem bitAt_new (B : List (BitVec 8)) (c : BitVec 8) (j : Nat) (h : j < 8) : bitAt (B ++ [c]) (8 * B.length + j) = c.toNat / 2 ^ j % 2 := by
  unfold bitAt
  rw [show (8 * B.length + j) / 8 = B.length by omega, show (8 * B.length + j) % 8 = j by omega, List.getD_eq_getElem?_getD, List.getElem?_append_right (by omega), Nat.sub_self]
  rfl
theorem add_bit (g b f j : Nat) (hg : g < 2 ^ f) (hb : b ≤ 1) : (g + b * 2 ^ f) / 2 ^ j % 2 = if j < f then g / 2 ^ j % 2 else if j = f then b else 0 := by
  by_cases h : j < f
  · rw [if_pos h, show b * 2 ^ f = 2 ^ j * (b * (2 * 2 ^ (f - j - 1))) by
      rw [← Nat.pow_succ', show (f - j - 1).succ = f - j by omega, Nat.mul_left_comm, ← Nat.pow_add, show j + (f - j) = f by omega], Nat.add_mul_div_left _ _ (Nat.pow_pos (by decide)), Nat.mul_left_comm, Nat.add_mul_mod_self_left]
  · rw [if_neg h]
    by_cases e : j = f
    · rw [if_pos e, e, Nat.add_mul_div_right _ _ (Nat.pow_pos (by decide)), Nat.div_eq_of_lt hg]; omega
    · rw [if_neg e, Nat.div_eq_of_lt]
      have h1 : 2 ^ (f + 1) ≤ 2 ^ j := Nat.pow_le_pow_right (by decide) (by omega)
      have h2 := Nat.mul_le_mul_right (2 ^ f) hb
      rw [Nat.pow_succ] at h1
      omega
theorem getD_app (S : List Nat) (b i : Nat) : (S ++ [b]).getD i 0 = if i < S.length then S.getD i 0 else if i = S.length then b else 0 := by
  rw [List.getD_eq_getElem?_getD, List.getElem?_append]
  by_cases h : i < S.length
  · rw [if_pos h, if_pos h, List.getD_eq_getElem?_getD]
  · rw [if_neg h, if_neg h]
    by_cases e : i = S.length
    · rw [if_pos e, e, Nat.sub_self]; rfl
    · rw [if_neg e, List.getElem?_eq_none (by simp; omega)]; rfl
theorem pk_step {S : List Nat} {s : List (BitVec 8) × Nat × Nat} (h : Pk8 S s) (b : Nat) (hb : b ≤ 1) : Pk8 (S ++ [b]) (bstep s b) := by
  obtain ⟨B, g, f⟩ := s
  obtain ⟨h1, h2, h3, h4, h5⟩ := h
  simp only [] at h1 h2 h3 h4 h5
  unfold bstep
  simp only []
  by_cases h7 : f = 7
  · rw [if_pos h7]
    subst h7
    have ht : (BitVec.ofNat 8 (g + b * 128)).toNat = g + b * 2 ^ 7 := by rw [BitVec.toNat_ofNat]; omega
    refine ⟨by simp; omega, by simp; omega, fun i hi => ?_, fun j hj => by simp only [] at hj; omega, Nat.zero_lt_one⟩
    simp only [List.length_append, List.length_singleton] at hi
    simp only []
    rw [getD_app]
    by_cases hl : i < 8 * B.length
    · rw [bitAt_app _ _ _ hl, h3 i hl, if_pos (by omega)]
    · obtain ⟨j, rfl⟩ : ∃ j, i = 8 * B.length + j := ⟨i - 8 * B.length, by omega⟩
      rw [bitAt_new _ _ _ (by omega), ht, add_bit g b 7 j h5 hb]
      by_cases hj : j < 7
      · rw [if_pos hj, if_pos (by omega), h4 j hj]
      · rw [if_neg hj, if_pos (by omega), if_neg (by omega), if_pos (by omega)]
  · rw [if_neg h7]
    refine ⟨by simp; omega, by simp; omega, fun i hi => ?_, fun j hj => ?_, ?_⟩
    · simp only [] at hi ⊢
      rw [h3 i hi, getD_app, if_pos (by omega)]
    · simp only [] at hj ⊢
      rw [add_bit g b f j h5 hb, getD_app]
      by_cases h8 : j < f
      · rw [if_pos h8, if_pos (by omega), h4 j h8]
      · rw [if_neg h8, if_pos (by omega), if_neg (by omega), if_pos (by omega)]
    · simp only []
      rw [Nat.pow_succ]
      have := Nat.mul_le_mul_right (2 ^ f) hb
      omega
theorem pk_all : ∀ (T S : List Nat) (s : List (BitVec 8) × Nat × Nat), Pk8 S s → (∀ b ∈ T, b ≤ 1) → Pk8 (S ++ T) (T.foldl bstep s)
  | [], S, s, h, _ => by rw [List.append_nil]; exact h
  | b :: T, S, s, h, hb => by
    have := pk_all T (S ++ [b]) (bstep s b) (pk_step h b (hb b (List.mem_cons_self ..))) (fun c hc => hb c (List.mem_cons_of_mem _ hc))
    rw [List.append_assoc] at this
    exact this
theorem pk_packed (S : List Nat) (h : ∀ b ∈ S, b ≤ 1) : Pk8 S (packed [] S) := by
  have := pk_all S [] ([], 0, 0) ⟨rfl, rfl, fun i hi => by simp at hi, fun j hj => by simp at hj, Nat.zero_lt_one⟩ h
  rw [List.nil_append] at this
  exact this
theorem bstep_app (P : List (BitVec 8)) (s : List (BitVec 8) × Nat × Nat) (b : Nat) : bstep (P ++ s.1, s.2.1, s.2.2) b = (P ++ (bstep s b).1, (bstep s b).2.1, (bstep s b).2.2) := by
  unfold bstep
  simp only []
  by_cases h : s.2.2 = 7
  · rw [if_pos h, if_pos h, List.append_assoc]
  · rw [if_neg h, if_neg h]
theorem fold_app (P : List (BitVec 8)) : ∀ (S : List Nat) (s : List (BitVec 8) × Nat × Nat), S.foldl bstep (P ++ s.1, s.2.1, s.2.2) = (P ++ (S.foldl bstep s).1, (S.foldl bstep s).2.1, (S.foldl bstep s).2.2)
  | [], s => rfl
  | b :: S, s => by rw [List.foldl_cons, List.foldl_cons, bstep_app, fold_app P S (bstep s b)]
theorem packed_app (P : List (BitVec 8)) (S : List Nat) : flush (packed P S) = P ++ flush (packed [] S) := by
  have h := fold_app P S ([], 0, 0)
  rw [List.append_nil] at h
  unfold packed
  rw [h]
  unfold flush
  simp only []
  by_cases e : (S.foldl bstep ([], 0, 0)).2.2 = 0
  · rw [if_pos e, if_pos e]
  · rw [if_neg e, if_neg e, List.append_assoc]
/-- What the flushed bytes hold. -/
theorem flushed (S : List Nat) (h : ∀ b ∈ S, b ≤ 1) : (flush (packed [] S)).length = (S.length + 7) / 8 ∧ ∀ i, i < 8 * (flush (packed [] S)).length → bitAt (flush (packed [] S)) i = S.getD i 0 := by
  obtain ⟨h1, h2, h3, h4, h5⟩ := pk_packed S h
  unfold flush
  by_cases e : (packed [] S).2.2 = 0
  · rw [if_pos e]
    exact ⟨by omega, h3⟩
  · rw [if_neg e]
    generalize packed [] S = s at h1 h2 h3 h4 h5 e ⊢
    obtain ⟨B, g, f⟩ := s
    simp only [] at h1 h2 h3 h4 h5 e ⊢
    refine ⟨by rw [List.length_append, List.length_singleton]; omega, fun i hi => ?_⟩
    rw [List.length_append, List.length_singleton] at hi
    by_cases hl : i < 8 * B.length
    · rw [bitAt_app _ _ _ hl, h3 i hl]
    · obtain ⟨j, rfl⟩ : ∃ j, i = 8 * B.length + j := ⟨i - 8 * B.length, by omega⟩
      have hp : 2 ^ f ≤ 2 ^ 8 := Nat.pow_le_pow_right (by decide) (by omega)
      have ht : (BitVec.ofNat 8 g).toNat = g := by rw [BitVec.toNat_ofNat]; omega
      rw [bitAt_new _ _ _ (by omega), ht]
      by_cases hj : j < f
      · exact h4 j hj
      · have hz := add_bit g 0 f j h5 (by omega)
        rw [Nat.zero_mul, Nat.add_zero, if_neg hj] at hz
        rw [hz, List.getD_eq_getElem?_getD, List.getElem?_eq_none (by omega)]
        split <;> rfl
/- The words. -/
theorem wbits_get (l v m : Nat) (h : m < l) : (wbits l v).getD m 0 = v / 2 ^ (l - 1 - m) % 2 := by
  unfold wbits
  rw [List.getD_eq_getElem?_getD, List.getElem?_map, List.getElem?_range h]; rfl
theorem div_step (v d : Nat) : 2 * (v / 2 ^ (d + 1)) + v / 2 ^ d % 2 = v / 2 ^ d := by
  rw [Nat.pow_succ, ← Nat.div_div_eq_div_mul]; omega
theorem word_back (ls : List Int) (R : List (BitVec 8)) (l v : Nat) (hl : l ≤ 15) (h1 : first ls l ≤ v) (h2 : v < first ls l + cntW ls ls.length l) : ∀ (f i m : Nat), f + m = 16 → 1 ≤ m → m ≤ l → i + (l - m) < 8 * R.length → (∀ j, j < l + 1 - m → bitAt R (i + j) = v / 2 ^ (l - m - j) % 2) → wordGo ls R f i m (v / 2 ^ (l - m + 1)) = some (l, v)
  | 0, i, m, hf, h0, hm, hi, hb => by omega
  | f + 1, i, m, hf, h0, hm, hi, hb => by
    simp only [wordGo]
    have hb0 := hb 0 (by omega)
    rw [Nat.add_zero, Nat.sub_zero] at hb0
    rw [if_neg (by omega), hb0, div_step]
    by_cases e : m = l
    · subst e
      rw [Nat.sub_self, Nat.pow_zero, Nat.div_one, if_pos ⟨h1, h2⟩]
    · have hfar := first_far ls m (l - m - 1)
      rw [show l - m - 1 + 1 = l - m by omega, show m + (l - m - 1) + 1 = l by omega] at hfar
      have hge : first ls m + cntW ls ls.length m ≤ v / 2 ^ (l - m) := (Nat.le_div_iff_mul_le (Nat.pow_pos (by decide))).2 (by omega)
      rw [if_neg (by omega)]
      have := word_back ls R l v hl h1 h2 f (i + 1) (m + 1) (by omega) (by omega) (by omega) (by omega) (fun j hj => by
        rw [show i + 1 + j = i + (j + 1) by omega, hb (j + 1) (by omega), show l - m - (j + 1) = l - (m + 1) - j by omega])
      rw [show l - (m + 1) + 1 = l - m by omega] at this
      exact this
theorem flat_get (A B : List Nat) (i : Nat) (h : i < B.length) : (A ++ B).getD (A.length + i) 0 = B.getD i 0 := by
  rw [List.getD_eq_getElem?_getD, List.getElem?_append_right (by omega), show A.length + i - A.length = i by omega, List.getD_eq_getElem?_getD]
theorem flat_pre (A B : List Nat) (i : Nat) (h : i < A.length) : (A ++ B).getD i 0 = A.getD i 0 := by
  rw [List.getD_eq_getElem?_getD, List.getElem?_append_left h, List.getD_eq_getElem?_getD]
theorem bitsOf_split (cs : List (Int × Nat)) (t : List (BitVec 8)) (k : Nat) : bitsOf cs t = bitsOf cs (t.take k) ++ bitsOf cs (t.drop k) := by
  unfold bitsOf
  rw [← List.flatten_append, ← List.map_append, List.take_append_drop]
theorem codesOf_get (ls : List Int) (i : Nat) (h : i < ls.length) : (codesOf ls).getD i (0, 0) = codeAt ls i := by
  unfold codesOf
  rw [List.getD_eq_getElem?_getD, List.getElem?_map, List.getElem?_range h]; rfl
/-- The text of words that were laid one behind the other. -/
theorem text_back (ls : List Int) (hl : ls.length = 256) (hin : allIn 15 ls = true) (hr : right ls = true) (t : List (BitVec 8)) (hp : ∀ c ∈ t, 0 < ls.getD c.toNat 0) (R : List (BitVec 8)) (hR : R.length = ((bitsOf (codesOf ls) t).length + 7) / 8) (hb : ∀ i, i < 8 * R.length → bitAt R i = (bitsOf (codesOf ls) t).getD i 0) :
    ∀ k, k ≤ t.length → textTo (trimmed ls) R k = some (t.take k, (bitsOf (codesOf ls) (t.take k)).length)
  | 0, _ => by simp [textTo, bitsOf]
  | k + 1, h => by
    have ih := text_back ls hl hin hr t hp R hR hb k (by omega)
    have hk : k < t.length := by omega
    have hcm : t.getD k 0 ∈ t := by
      rw [List.getD_eq_getElem?_getD, List.getElem?_eq_getElem hk]; exact List.getElem_mem hk
    have hnx := bitsOf_next (codesOf ls) t k hk
    have htk := getD_take t k hk
    have hpos := hp _ hcm
    generalize t.getD k 0 = c at hnx htk hpos hcm
    have hc := lt8 c
    have hx := allIn_get hin c.toNat (by omega)
    rw [codesOf_get ls _ (by omega)] at hnx
    obtain ⟨l, hlen⟩ : ∃ l : Nat, ls.getD c.toNat 0 = (l : Int) := ⟨(ls.getD c.toNat 0).toNat, by omega⟩
    rw [hlen] at hx hpos
    have hcode : codeAt ls c.toNat = ((l : Int), first ls l + cnt ls l c.toNat) := by
      unfold codeAt
      rw [hlen, if_neg (by omega)]; rfl
    rw [hcode] at hnx
    simp only [Int.toNat_natCast] at hnx
    have hcn := cnt_lt ls l (i := c.toNat) (k := ls.length) (by omega) hlen
    have hcw : cntW ls ls.length l = cnt ls l ls.length := by unfold cntW; rw [if_neg (by omega)]
    generalize hv : first ls l + cnt ls l c.toNat = v at hnx hcode
    have hsp := bitsOf_split (codesOf ls) t (k + 1)
    rw [hnx] at hsp
    have hS := congrArg List.length hsp
    simp only [List.length_append, wbits_len] at hS
    have hbit : ∀ j, j < l → bitAt R ((bitsOf (codesOf ls) (t.take k)).length + j) = v / 2 ^ (l - 1 - j) % 2 := by
      intro j hj
      rw [hb _ (by omega), hsp, List.append_assoc, flat_get _ _ _ (by rw [List.length_append, wbits_len]; omega), flat_pre _ _ _ (by rw [wbits_len]; exact hj), wbits_get l v j hj]
    have hw : wordAt (trimmed ls) R (bitsOf (codesOf ls) (t.take k)).length = some (l, v) := by
      unfold wordAt
      have hlt : v < 2 ^ l := word_small ls hr (by omega) (by omega) (by omega) hcode
      have := word_back (trimmed ls) R l v (by omega) (by rw [trimmed_first]; omega) (by rw [trimmed_first, trimmed_cntW, hcw]; omega) 15 (bitsOf (codesOf ls) (t.take k)).length 1 rfl (by omega) (by omega) (by omega) (fun j hj => by rw [hbit j (by omega)])
      rw [show l - 1 + 1 = l by omega, Nat.div_eq_of_lt hlt] at this
      exact this
    rw [textTo_next ih hw, hnx, htk, List.length_append, wbits_len]
    have hsym : symOf (trimmed ls) l v = c.toNat := symOf_eq (trimmed ls) l v c.toNat (by omega) (by
      by_cases hh : c.toNat < (trimmed ls).length
      · exact hh
      · have := trimmed_get ls c.toNat
        rw [List.getD_eq_getElem?_getD, List.getElem?_eq_none (by omega), hlen] at this
        simp at this; omega) (by rw [trimmed_code]; exact hcode)
    rw [hsym]
    simp
theorem there_back (t : List (BitVec 8)) (h : t.length ≤ 65536) : (encoded t).2 = 0 ∧ decoded (encoded t).1 (t.length : Int) = (t, 0) := by
  have E : encoded t = (flush (packed (pairsOf (textLens t) ++ [0]) (bitsOf (codesOf (textLens t)) t)), 0) := if_neg (by omega)
  rw [E]
  refine ⟨rfl, ?_⟩
  obtain ⟨L, _, _, hr⟩ := textLens_ok t h
  have hin : allIn 15 (textLens t) = true := L.all
  have hle := bitsOf_le (codesOf (textLens t)) t
  obtain ⟨f1, f2⟩ := flushed (bitsOf (codesOf (textLens t)) t) hle
  simp only []
  rw [packed_app]
  have hlo := lensOf_pairs (textLens t) (by rw [textLens_len]; omega) hin (flush (packed [] (bitsOf (codesOf (textLens t)) t)))
  have hp : ∀ c ∈ t, 0 < (textLens t).getD c.toNat 0 := by
    intro c hc
    have he := (L.each c.toNat (by rw [countsOf_len]; exact lt8 c)).2.2
    refine he.2 ?_
    rw [countsOf_get t _ (lt8 c)]
    have := (List.countP_pos_iff (p := fun x : BitVec 8 => decide (x.toNat = c.toNat)) (l := t)).2 ⟨c, hc, decide_eq_true rfl⟩
    omega
  generalize flush (packed [] (bitsOf (codesOf (textLens t)) t)) = R at f1 f2 hlo ⊢
  have ht := text_back (textLens t) (textLens_len t) hin hr t hp R f1 f2 t.length (Nat.le_refl _)
  rw [List.take_length] at ht
  rw [dec_text _ R t (trimmed (textLens t)) t.length _ h hlo (by rw [trimmed_right]; exact hr) ht]
  rw [if_pos]
  unfold isEnd
  rw [decide_eq_true_iff]
  refine ⟨f1, fun j h1 h2 => ?_⟩
  rw [f2 j h1, List.getD_eq_getElem?_getD, List.getElem?_eq_none h2]; rfl
end Go.Proofs.YthdblnfohbldcaaGreat.Huff
