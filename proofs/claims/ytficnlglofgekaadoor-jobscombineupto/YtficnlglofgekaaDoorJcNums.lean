/-
  The numbers among values; their sum, by the program and by the document; values as they are.
-/
import Derived.Test.YtficnlglofgekaaDoorJbProg1
namespace Go.Proofs.YtficnlglofgekaaDoor.Jb
open Go.ChangeShapes Go.WideShapes Go.ChangeAt Go.RowKit
open Go.Lib hiding intOf
open Go.Proofs.YtficnlglofgekaaDoor.Base
open Go.Proofs.YtficnlglofgekaaDoor.Pa (OwnS RdS)
set_option linter.unusedVariables false
def jvals (xs : List Int) : List Value := xs.map (Value.int .i64)
theorem jvals_len (xs : List Int) : (jvals xs).length = xs.length := by simp [jvals]
theorem jvals_append (a b : List Int) : jvals (a ++ b) = jvals a ++ jvals b := by simp [jvals]
theorem jvals_get (xs : List Int) (i : Nat) (h : i < xs.length) : (jvals xs)[i]? = some (.int .i64 (xs.getD i 0)) := by
  rw [jvals, List.getElem?_map, List.getElem?_eq_getElem h, List.getD_eq_getElem?_getD, List.getElem?_eq_getElem h]; rfl
/-- A list of int64s of the call's own. -/
def OwnJ (w : World) (base : Nat) (v : Value) (xs : List Int) : Prop := w.ownsRow base 2 1 v xs.length (jvals xs)
theorem infoJ : (Tryd.prog.info? 2).map (fun i => (i.zero, i.size, i.bytes)) = some (some (.int .i64 0), 1, 8) := by kernel_rfl
theorem ownj_none (w : World) (base : Nat) : OwnJ w base (.slice none 0 0) [] := ⟨rfl, .inl ⟨rfl, rfl⟩⟩
theorem OwnJ.shape {w : World} {base : Nat} {v : Value} {xs : List Int} (h : OwnJ w base v xs) : ∃ a c, v = .slice a xs.length c := by
  rcases h.2 with ⟨h1, h2⟩ | ⟨g, c, cur, h1, _⟩
  · rw [h2]; exact ⟨_, _, h1⟩
  · exact ⟨_, _, h1⟩
theorem OwnJ.blk {w : World} {base : Nat} {v : Value} {xs : List Int} (h : OwnJ w base v xs) : ∀ i, v.ownBlock = some i → base ≤ i ∧ i < w.heap.size := fun i e => World.ownsRow.lt h i e
theorem OwnJ.below {w w' : World} {base : Nat} {v : Value} {xs : List Int} (h : OwnJ w base v xs) (hb : Below w.heap.size w w') : OwnJ w' base v xs := by
  refine World.ownsRow.kept (row := none) h ⟨hb.os, hb.tape, hb.output, hb.size, fun k hk _ => hb.block k hk⟩ ?_
  cases hv : v.ownBlock with
  | none => exact .inl rfl
  | some k => exact .inr (by simp)
theorem OwnJ.mono {w : World} {base b2 : Nat} {v : Value} {xs : List Int} (h : OwnJ w base v xs) (hb : b2 ≤ base) : OwnJ w b2 v xs := by
  refine ⟨h.1, ?_⟩
  rcases h.2 with h1 | ⟨g, c, cur, h1, h2, h3⟩
  · exact .inl h1
  · exact .inr ⟨g, c, cur, h1, Nat.le_trans hb h2, h3⟩
theorem OwnJ.cells {w : World} {base n c : Nat} {a : Option Addr} {xs : List Int} (h : OwnJ w base (.slice a n c) xs) : n = xs.length ∧ (0 < n → ∃ g, a = some ⟨g, 0, none⟩ ∧ g < w.heap.size ∧ ∀ i, i < n → w.cell? ⟨g, i, none⟩ = some (.int .i64 (xs.getD i 0))) := by
  rcases h.2 with ⟨h1, h2⟩ | ⟨g, cap', cur, h1, _⟩
  · simp only [Value.slice.injEq] at h1
    exact ⟨by omega, fun h0 => by omega⟩
  · simp only [Value.slice.injEq] at h1
    obtain ⟨rfl, rfl, rfl⟩ := h1
    exact ⟨rfl, fun h0 => ⟨g, rfl, (World.ownsRow.lt h g rfl).2, fun i hi => by rw [World.ownsRow.cellAt h i (by omega), jvals_get xs i hi]⟩⟩
/-- append of one int64. -/
theorem pushJ {ops : Array Oper} {rest : List Oper} {o : Oper} {a : Act} {Q : Exit → Act → World → Prop} (w : World) (hgd : o.guard = none) (s x : Operand)
    (ho : o.op = .call { callee := .builtin .append, args := #[s, x], argTypes := #[47, 47] })
    (base : Nat) (v : Value) (xs : List Int) (hs : a.eval s = v) (hown : OwnJ w base v xs) (ad : Addr) (cap : Nat) (c : Int) (hx : a.eval x = .slice (some ad) 1 cap)
    (hc : w.cell? (ad.add 0) = some (.int .i64 c)) (hl : xs.length + 1 ≤ 8796093022208) (hbase : base ≤ w.heap.size)
    (h : ∀ v' w', OwnJ w' base v' (xs ++ [c]) → w.grownBy w' v.ownBlock → wpList Tryd.prog ops Q rest (a.put o.dst v') w') : wpList Tryd.prog ops Q (o :: rest) a w := by
  obtain ⟨i0, hi, hz0, hz1, hz2⟩ := info_parts infoJ
  refine wpList_append_own w hgd s x 47 ho base 2 i0 (.int .i64 0) 1 8 Tryd.underlying47 hi hz0 hz1 hz2 rfl (by omega) v xs.length (jvals xs) hs hown ad 1 cap [.int .i64 c] hx rfl ?_ ?_ (by unfold maxLen; omega) (by omega) hbase ?_
  · intro j u hu
    cases j with
    | zero => simp at hu; subst hu; exact hc
    | succ j => simp at hu
  · intro u hu
    simp at hu
    subst hu
    rfl
  · intro v' w' h1 h2 _
    refine h v' w' ?_ h2
    unfold OwnJ
    rw [List.length_append, jvals_append]
    exact h1
/-- The numbers among the values. -/
def numsL (ss : List ByteArray) : List Int := ss.filterMap fun s => num s.data.toList
theorem numsL_snoc (ss : List ByteArray) (s : ByteArray) : numsL (ss ++ [s]) = numsL ss ++ (num s.data.toList).toList := by
  unfold numsL
  rw [List.filterMap_append]
  cases h : num s.data.toList <;> simp [h]
theorem numsL_len (ss : List ByteArray) : (numsL ss).length ≤ ss.length := List.length_filterMap_le _ _
theorem numsL_in (ss : List ByteArray) : ∀ v ∈ numsL ss, In64 v := by
  intro v hv
  obtain ⟨s, _, h⟩ := List.mem_filterMap.1 hv
  exact ((num_iff _ _).1 h).1
theorem takeS (ws : List ByteArray) (i : Nat) (h : i < ws.length) : ws.take (i + 1) = ws.take i ++ [ws.getD i ⟨#[]⟩] := by
  rw [List.take_succ_eq_append_getElem h, List.getD_eq_getElem?_getD, List.getElem?_eq_getElem h]; rfl
set_option maxHeartbeats 2000000 in
set_option maxRecDepth 100000 in
theorem numbers_any (a : Option Addr) (n c : Nat) (ss : List ByteArray) (w : World) (hr : RdS w a n ss) (hn : n ≤ 8796093022000) (hz : ∀ s ∈ ss, s.size ≤ 1099511627776) (hw : Wd w) :
    Calls Tryd.prog 40 #[.slice a n c] w fun e w' => ∃ v, e = .returned v ∧ OwnJ w' w.heap.size v (numsL ss) ∧ Below w.heap.size w w' := by
  have HR := hide hr
  have HW := hide hw
  have HZ := hide hz
  have HN := hide hr.1
  clear hr hw hz
  go_enter Tryd.func40, Tryd.ntmps40
  go_wp2_with fail
  go_loopw [3, 5, 6, 7, 10] (fun s3 s5 s6 s7 s10 wr => ∃ (i : Nat) (x y5 y6 y7 : Value), i ≤ n ∧ x = s3 ∧ y5 = s5 ∧ y6 = s6 ∧ y7 = s7 ∧ .int .i64 (i : Int) = s10 ∧ Hid (OwnJ wr w.heap.size x (numsL (ss.take i))) ∧ Hid (Below w.heap.size w wr)) (fun _ _ _ _ s10 _ => n - (intOf s10).toNat)
  case atStart => exact ⟨0, _, _, _, _, by omega, rfl, rfl, rfl, rfl, rfl, ownj_none _ _, Below.refl _ _⟩
  case round =>
    obtain ⟨i, x, y5, y6, y7, hi, rfl, rfl, rfl, rfl, rfl, HO, HB⟩ := hrel
    by_cases hin : i < n
    · have hii : (i : Int) < (n : Int) := by omega
      have hi0 : (0 : Int) ≤ (i : Int) := by omega
      have hls : i < ss.length := by rw [HN.out]; exact hin
      obtain ⟨b, off, rfl, hbl, hbc⟩ := HR.out.2.2.2 (by omega)
      have hcell := (HB.out.cell (p := ⟨b, off + i, none⟩) hbl).trans (hbc i hin)
      have HT := hide (takeS ss i hls)
      have HZZ := hide (HZ.out _ (Pa.getS_mem hls))
      generalize ss.getD i ⟨#[]⟩ = z at hcell HT HZZ
      have HM := hide (number_any z wr HZZ.out (HW.out.below HB.out))
      have HL : Hid ((numsL (ss.take i)).length ≤ i) := by
        have h := numsL_len (ss.take i)
        rw [List.length_take] at h
        show _ ≤ _; omega
      clear hbc
      cases hn1 : num z.data.toList with
      | none =>
        rw [numV_none hn1] at HM
        have HE : Hid (numsL (ss.take (i + 1)) = numsL (ss.take i)) := by show _ = _; rw [HT.out, numsL_snoc, hn1]; simp
        clear hn1
        go_wp2_with (go_at_call 37; refine HM.out.mono ?_; rintro e w1 ⟨rfl, hb1⟩; have HB1 := hide (below_trans HB.out hb1); have HO1 := hide (HO.out.below hb1); clear hb1)
        go_roundw
        case rel => exact ⟨i + 1, _, _, _, _, by omega, rfl, rfl, rfl, rfl, by go_num, by rw [HE.out]; exact HO1.out, HB1.out⟩
        case measure => (simp [intOf] <;> omega)
      | some v =>
        rw [numV_some hn1] at HM
        have HE : Hid (numsL (ss.take (i + 1)) = numsL (ss.take i) ++ [v]) := by show _ = _; rw [HT.out, numsL_snoc, hn1]; rfl
        clear hn1
        go_wp2_with (first
          | (go_at_call 37; refine HM.out.mono ?_; rintro e w1 ⟨rfl, hb1⟩; have HB1 := hide (below_trans HB.out hb1); have HO1 := hide (HO.out.below hb1); clear hb1; obtain ⟨wa, hwa⟩ : ∃ wa, w1.alloc (.cells #[.int .i64 v] 2) = wa := ⟨_, rfl⟩; have HBA : Hid (Below w1.heap.size w1 wa) := (by rw [← hwa]; exact (Below.refl _ _).alloc (Nat.le_refl _) _); have HCA : Hid (wa.cell? ((⟨w1.heap.size, 0, none⟩ : Addr).add 0) = some (.int .i64 v)) := (by rw [← hwa]; show _ = _; simp [World.cell?_alloc_mark, Addr.add]))
          | (at_builtin; refine pushJ wa rfl _ _ rfl w.heap.size x (numsL (ss.take i)) rfl (HO1.out.below HBA.out) ⟨w1.heap.size, 0, none⟩ 1 v rfl HCA.out (by have := HL.out; omega) (by have := HB1.out.size; have := HBA.out.size; omega) ?_; intro v2 w2 ho2 hg2; have HO2 := hide ho2; have HB2 := hide ((below_trans HB1.out HBA.out).grown hg2 (below_trans HB1.out HBA.out).size (fun i e => (HO.out.blk i e).1)); clear ho2 hg2))
        go_roundw
        case rel => exact ⟨i + 1, _, _, _, _, by omega, rfl, rfl, rfl, rfl, by go_num, by rw [HE.out]; exact HO2.out, HB2.out⟩
        case measure => (simp [intOf] <;> omega)
    · have hii : ¬ (i : Int) < (n : Int) := by omega
      have hie : i = n := by omega
      subst hie
      have HE : Hid (ss.take i = ss) := by show _ = _; rw [List.take_of_length_le (by rw [HN.out]; exact Nat.le_refl _)]
      go_wp2_with fail
      go_ret
      have h := HO.out
      rw [HE.out] at h
      exact ⟨_, rfl, h, HB.out⟩
/-- The sum, wrapped round. -/
def sumL (xs : List Int) : Int := xs.foldl (fun a b => wrap64 (a + b)) 0
theorem wrap64_64 (z : Int) : In64 (wrap64 z) := by unfold wrap64; constructor <;> omega
theorem sum_in : ∀ (xs : List Int) (a : Int), In64 a → In64 (xs.foldl (fun a b => wrap64 (a + b)) a)
  | [], a, h => h
  | x :: xs, a, _ => by rw [List.foldl_cons]; exact sum_in xs _ (wrap64_64 _)
theorem sumL_in (xs : List Int) : In64 (sumL xs) := sum_in xs 0 ⟨by omega, by omega⟩
theorem sumL_snoc (xs : List Int) (x : Int) : sumL (xs ++ [x]) = wrap64 (sumL xs + x) := by unfold sumL; rw [List.foldl_append]; rfl
def totalL (ss : List ByteArray) : Int := sumL (numsL ss)
theorem totalL_snoc (ss : List ByteArray) (s : ByteArray) : totalL (ss ++ [s]) = wrap64 (totalL ss + (num s.data.toList).getD 0) := by
  unfold totalL
  rw [numsL_snoc]
  cases h : num s.data.toList with
  | none =>
    have e : wrap64 (sumL (numsL ss) + (none : Option Int).getD 0) = sumL (numsL ss) := by
      have := sumL_in (numsL ss)
      show wrap64 (sumL (numsL ss) + 0) = _
      rw [Int.add_zero]
      exact IntWalk.wrap64_in _ this
    rw [e]; simp
  | some v => exact sumL_snoc _ _
theorem takeI (ws : List Int) (i : Nat) (h : i < ws.length) : ws.take (i + 1) = ws.take i ++ [ws.getD i 0] := by
  rw [List.take_succ_eq_append_getElem h, List.getD_eq_getElem?_getD, List.getElem?_eq_getElem h]; rfl
set_option maxHeartbeats 2000000 in
set_option maxRecDepth 100000 in
theorem total_any (a : Option Addr) (n c : Nat) (ss : List ByteArray) (w : World) (hr : RdS w a n ss) (hn : n ≤ 8796093022000) (hz : ∀ s ∈ ss, s.size ≤ 1099511627776) (hw : Wd w) :
    Calls Tryd.prog 29 #[.slice a n c] w fun e w' => ∃ v, e = .returned v ∧ OwnS w' w.heap.size v [dec (totalL ss)] ∧ Below w.heap.size w w' := by
  have HW := hide hw
  have HM := hide (numbers_any a n c ss w hr hn hz hw)
  have HL1 := numsL_len ss
  rw [hr.1] at HL1
  have HTT : Hid (totalL ss = sumL (numsL ss)) := rfl
  rw [HTT.out]
  generalize numsL ss = xs at HM HL1 HTT ⊢
  clear hr hz hw HTT
  go_enter Tryd.func29, Tryd.ntmps29
  go_wp2_with (go_at_call 40; refine HM.out.mono ?_; rintro e w1 ⟨vx, rfl, ho1, hb1⟩; have HO1 := hide ho1; have HB1 := hide hb1; have HW1 := hide (HW.out.below hb1); clear ho1 hb1; obtain ⟨ax, cx, rfl⟩ := HO1.out.shape)
  obtain ⟨m, hm⟩ : ∃ m, xs.length = m := ⟨_, rfl⟩
  rw [hm] at HO1 HL1 ⊢
  have HN := hide hm
  have HC := hide HO1.out.cells.2
  clear hm HM
  go_loopw [3, 5, 9] (fun s3 s5 s9 wr => ∃ (i : Nat) (t : Int) (y : Value), i ≤ m ∧ y = s5 ∧ .int .i64 t = s3 ∧ .int .i64 (i : Int) = s9 ∧ Hid (sumL (xs.take i) = t) ∧ wr = w1) (fun _ _ s9 _ => m - (intOf s9).toNat)
  case atStart => exact ⟨0, 0, _, by omega, rfl, rfl, rfl, rfl, rfl⟩
  case round =>
    obtain ⟨i, t, y, hi, rfl, rfl, rfl, HS, rfl⟩ := hrel
    by_cases hin : i < m
    · have hii : (i : Int) < (m : Int) := by omega
      have hi0 : (0 : Int) ≤ (i : Int) := by omega
      obtain ⟨g, rfl, _, hc⟩ := HC.out (by omega)
      have hcell := hc i hin
      have HT := hide (takeI xs i (by rw [HN.out]; exact hin))
      generalize xs.getD i 0 = z at hcell HT
      obtain ⟨r, hrr⟩ : ∃ r, wrap64 (t + z) = r := ⟨_, rfl⟩
      have HS2 : Hid (sumL (xs.take (i + 1)) = r) := by show _ = _; rw [HT.out, sumL_snoc, HS.out]; exact hrr
      clear hc
      go_wp2_with fail
      go_roundw
      case rel => exact ⟨i + 1, r, _, by omega, rfl, by first | rfl | rw [hrr], by go_num, HS2.out, by first | rfl | trivial⟩
      case measure => (simp [intOf] <;> omega)
    · have hii : ¬ (i : Int) < (m : Int) := by omega
      have hie : i = m := by omega
      subst hie
      have HE : Hid (sumL xs = t) := by have h := HS.out; rw [List.take_of_length_le (by rw [HN.out]; exact Nat.le_refl _)] at h; exact h
      have HI : Hid (In64 t) := by rw [← HE.out]; exact sumL_in xs
      have HF := hide (fmt_any t HI.out wr HW1.out)
      go_wp2_with (go_at_call 35; refine HF.out.mono ?_; rintro e w2 ⟨rfl, hb2⟩; have HB2 := hide (below_trans HB1.out hb2); clear hb2)
      go_ret
      rw [HE.out]
      exact ⟨_, rfl, Pa.own_heapS (ss := [dec t]) (heap_alloc_new _ _) HB2.out.size (by unfold maxLen; simp), HB2.out.alloc HB2.out.size _⟩
set_option maxHeartbeats 2000000 in
set_option maxRecDepth 100000 in
theorem asThey_any (a : Option Addr) (n c : Nat) (ss : List ByteArray) (w : World) (hr : RdS w a n ss) (hn : n ≤ 8796093022000) (hz : ∀ s ∈ ss, s.size ≤ 1099511627776) :
    Calls Tryd.prog 30 #[.slice a n c] w fun e w' => ∃ v, e = .returned v ∧ OwnS w' w.heap.size v ss ∧ Below w.heap.size w w' := by
  have HR := hide hr
  have HZ := hide hz
  have HN := hide hr.1
  have hmk := Pa.make_row_str n (n : Int) rfl (by omega)
  have HO0 : Hid (OwnS (w.alloc (.cells (Pa.svals (List.replicate n ⟨#[]⟩)).toArray 9)) w.heap.size (.slice (some ⟨w.heap.size, 0, none⟩) n n) (Pa.laidS ss 0)) := by
    show OwnS _ _ _ _
    rw [Pa.laidS_zero, HN.out]
    have h := Pa.own_heapS (base := w.heap.size) (ss := List.replicate n ⟨#[]⟩) (heap_alloc_new w _) (Nat.le_refl _) (by unfold maxLen; simp; omega)
    rw [List.length_replicate] at h
    exact h
  have HB0 : Hid (Below w.heap.size w (w.alloc (.cells (Pa.svals (List.replicate n ⟨#[]⟩)).toArray 9))) := (Below.refl _ _).alloc (Nat.le_refl _) _
  generalize (Pa.svals (List.replicate n ⟨#[]⟩)).toArray = ZT at hmk HO0 HB0
  obtain ⟨g, hg⟩ : ∃ g, w.heap.size = g := ⟨_, rfl⟩
  have HG := hide hg
  have HO1 : Hid (OwnS (w.alloc (.cells ZT 9)) w.heap.size (.slice (some ⟨g, 0, none⟩) n n) (Pa.laidS ss 0)) := by have h := HO0.out; rw [show (⟨w.heap.size, 0, none⟩ : Addr) = ⟨g, 0, none⟩ by rw [hg]] at h; exact h
  clear hr hz hg HO0
  go_enter Tryd.func30, Tryd.ntmps30
  go_wp2_with fail
  rw [show (⟨w.heap.size, 0, none⟩ : Addr) = ⟨g, 0, none⟩ by rw [HG.out]]
  go_loopw [4, 5, 11] (fun s4 s5 s11 wr => ∃ (i : Nat) (y4 y5 : Value), i ≤ n ∧ y4 = s4 ∧ y5 = s5 ∧ .int .i64 (i : Int) = s11 ∧ Hid (OwnS wr w.heap.size (.slice (some ⟨g, 0, none⟩) n n) (Pa.laidS ss i)) ∧ Hid (Below w.heap.size w wr)) (fun _ _ s11 _ => n - (intOf s11).toNat)
  case atStart => exact ⟨0, _, _, by omega, rfl, rfl, rfl, HO1.out, HB0.out⟩
  case round =>
    obtain ⟨i, y4, y5, hi, rfl, rfl, rfl, HO, HB⟩ := hrel
    by_cases hin : i < n
    · have hii : (i : Int) < (n : Int) := by omega
      have hi0 : (0 : Int) ≤ (i : Int) := by omega
      have hls : i < ss.length := by rw [HN.out]; exact hin
      obtain ⟨b, off, rfl, hbl, hbc⟩ := HR.out.2.2.2 (by omega)
      have hcell := (HB.out.cell (p := ⟨b, off + i, none⟩) hbl).trans (hbc i hin)
      have HL := hide (Pa.laidS_succ ss i hls)
      have HZZ := hide (HZ.out _ (Pa.getS_mem hls))
      generalize ss.getD i ⟨#[]⟩ = z at hcell HL HZZ
      have HCl := hide (St.clone_any z wr (by have := HZZ.out; omega))
      clear hbc
      go_wp2_with (go_at_call 41; refine HCl.out.mono ?_; rintro e w3 ⟨rfl, hb3⟩; have HB3 := hide (below_trans HB.out hb3); have HO3 := hide (HO.out.below hb3); have hc3 := HO3.out.cell i hin; have hf3 := HO3.out.frozen i; have HS3 := hide (HO3.out.store i z); clear hb3)
      go_roundw
      case rel => exact ⟨i + 1, _, _, by omega, rfl, rfl, by go_num, by rw [← HL.out]; exact HS3.out.1, HB3.out.grown HS3.out.2 HB3.out.size (fun k e => by have := Option.some.inj e; have := HO3.out.lt'; omega)⟩
      case measure => (simp [intOf] <;> omega)
    · have hii : ¬ (i : Int) < (n : Int) := by omega
      have hie : i = n := by omega
      subst hie
      have HE : Hid (Pa.laidS ss i = ss) := by show _ = _; rw [← HN.out]; exact Pa.laidS_all ss
      go_wp2_with fail
      go_ret
      have h := HO.out
      rw [HE.out] at h
      exact ⟨_, rfl, h, HB.out⟩
end Go.Proofs.YtficnlglofgekaaDoor.Jb
