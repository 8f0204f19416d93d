/-
  The statements' helpers on texts: with marks behind them; the same; each with a letter more.
-/
import Derived.Test.YtpdlpahpefojbaaDoorFiRefB2
import Derived.Laws.Concat
namespace Go.Proofs.YtpdlpahpefojbaaDoor.Filt
open Go.ChangeShapes Go.WideShapes Go.ChangeAt Go.RowKit
open Go.Proofs.YtpdlpahpefojbaaDoor.Base hiding hide unhide lt8
set_option linter.unusedVariables false
theorem svals_set (ss : List ByteArray) (k : Nat) (c : ByteArray) : (svals ss).set k (.string c) = svals (ss.set k c) := by simp [svals, List.map_set]
theorem svals_get (ss : List ByteArray) (i : Nat) (h : i < ss.length) : (svals ss)[i]? = some (.string (ss.getD i ⟨#[]⟩)) := by
  rw [svals, List.getElem?_map, List.getElem?_eq_getElem h, List.getD_eq_getElem?_getD, List.getElem?_eq_getElem h]; rfl
theorem OwnS.len {w : World} {base g n cap : Nat} {ss : List ByteArray} (h : OwnS w base (.slice (some ⟨g, 0, none⟩) n cap) ss) : n = ss.length := by
  rcases h.2 with ⟨h1, _⟩ | ⟨_, _, _, h1, _⟩
  · simp at h1
  · simp at h1; exact h1.2.1
theorem OwnS.cell {w : World} {base g n cap : Nat} {ss : List ByteArray} (h : OwnS w base (.slice (some ⟨g, 0, none⟩) n cap) ss) (k : Nat) (hk : k < n) : w.cell? ⟨g, k, none⟩ = some (.string (ss.getD k ⟨#[]⟩)) := by
  have hn := h.len
  subst hn
  rw [World.ownsRow.cellAt h k (by omega), svals_get ss k hk]
theorem OwnS.frozen {w : World} {base g n cap : Nat} {ss : List ByteArray} (h : OwnS w base (.slice (some ⟨g, 0, none⟩) n cap) ss) (k : Nat) : w.frozen? ⟨g, k, none⟩ = false := by
  have hn := h.len
  subst hn
  exact World.ownsRow.frozenAt h k
theorem OwnS.store {w : World} {base g n cap : Nat} {ss : List ByteArray} (h : OwnS w base (.slice (some ⟨g, 0, none⟩) n cap) ss) (k : Nat) (c : ByteArray) :
    OwnS (w.setCell ⟨g, k, none⟩ (.string c)) base (.slice (some ⟨g, 0, none⟩) n cap) (ss.set k c) ∧ w.grownBy (w.setCell ⟨g, k, none⟩ (.string c)) (some g) := by
  have hn := h.len
  subst hn
  have := World.ownsRow.stored h k (.string c)
  unfold OwnS
  rw [List.length_set, ← svals_set]
  exact this
theorem own_heapS {w : World} {base g : Nat} {ss : List ByteArray} (h : w.heap[g]? = some (.cells (svals ss).toArray 9)) (hb : base ≤ g) (hm : ss.length ≤ maxLen) : OwnS w base (.slice (some ⟨g, 0, none⟩) ss.length ss.length) ss :=
  ⟨by rw [svals_len]; omega, .inr ⟨g, ss.length, _, rfl, hb, h, Nat.le_refl _, hm, by simp [svals_len], by rw [List.take_of_length_le (by simp [svals_len])]⟩⟩
def markS : ByteArray := ⟨#[109, 97, 114, 107]⟩
theorem makeS (n : Nat) : madeCells #[Value.string ⟨#[]⟩] n = (svals (List.replicate n ⟨#[]⟩)).toArray := by
  apply Array.ext
  · rw [size_madeCells]; simp [svals]
  · intro k h1 h2
    simp [madeCells, svals, Nat.mod_one]
theorem make_row_str (n : Nat) (m : Int) (hm : m = (n : Int)) (h : n ≤ 8796093022208) : ∀ W, (Instr.makeSlice 32 (.int .i64 m) (.int .i64 m)).run Tryd.prog W = .ok (.slice (some ⟨W.heap.size, 0, none⟩) n n) (W.alloc (.cells (svals (List.replicate n ⟨#[]⟩)).toArray 9)) := by
  intro W
  subst hm
  rw [← makeS]
  exact run_make_row' 32 9 (.string ⟨#[]⟩) 16 Tryd.underlying32 infoS rfl .i64 .i64 n (by omega) (by omega) W
def marksS : List ByteArray := List.replicate 64 markS
theorem marksS_len : marksS.length = 64 := by simp [marksS]
/-- The first k are laid, the rest are zeros. -/
def laidS (zs : List ByteArray) (k : Nat) : List ByteArray := zs.take k ++ List.replicate (zs.length - k) ⟨#[]⟩
theorem laidS_len (zs : List ByteArray) (k : Nat) (h : k ≤ zs.length) : (laidS zs k).length = zs.length := by
  unfold laidS; rw [List.length_append, List.length_take, List.length_replicate]; omega
theorem laidS_zero (zs : List ByteArray) : laidS zs 0 = List.replicate zs.length ⟨#[]⟩ := by unfold laidS; simp
theorem laidS_all (zs : List ByteArray) : laidS zs zs.length = zs := by unfold laidS; simp
theorem laidS_succ (zs : List ByteArray) (k : Nat) (h : k < zs.length) : (laidS zs k).set k (zs.getD k ⟨#[]⟩) = laidS zs (k + 1) := by
  unfold laidS
  have hl : (zs.take k).length = k := by rw [List.length_take]; omega
  rw [List.set_append_right _ _ (by omega), hl, Nat.sub_self, show zs.length - k = (zs.length - (k + 1)) + 1 by omega, List.replicate_succ, List.set_cons_zero,
    List.take_succ_eq_append_getElem h, List.append_assoc, List.getD_eq_getElem?_getD, List.getElem?_eq_getElem h]
  rfl
theorem markedS_in (bs : List ByteArray) (k : Nat) (h : k < bs.length) : (bs ++ marksS).getD k ⟨#[]⟩ = bs.getD k ⟨#[]⟩ := by
  rw [List.getD_eq_getElem?_getD, List.getElem?_append_left h, List.getD_eq_getElem?_getD]
theorem markedS_out (bs : List ByteArray) (k : Nat) (h : bs.length ≤ k) (h2 : k < bs.length + 64) : (bs ++ marksS).getD k ⟨#[]⟩ = markS := by
  rw [List.getD_eq_getElem?_getD, List.getElem?_append_right h]
  unfold marksS
  rw [List.getElem?_replicate, if_pos (by omega)]
  rfl
set_option maxHeartbeats 1000000 in
set_option maxRecDepth 100000 in
theorem texts_any (a : Option Addr) (len cap : Nat) (bs : List ByteArray) (w : World) (hr : RdS w a len bs) (hl : len ≤ 8796093021952) :
    Calls Tryd.prog 21 #[.slice a len cap] w fun e w' => ∃ g, e = .returned (.slice (some ⟨g, 0, none⟩) (len + 64) (len + 64)) ∧ w.heap.size ≤ g ∧ OwnS w' w.heap.size (.slice (some ⟨g, 0, none⟩) (len + 64) (len + 64)) (bs ++ marksS) ∧ Below w.heap.size w w' := by
  have HL := hide hr.1
  have HC := hide hr.2.2.2
  have hli : (len : Int) ≤ 8796093021952 := by omega
  have hmk := make_row_str (len + 64) ((len : Int) + 64) (by omega) (by omega)
  have HZL : Hid ((bs ++ marksS).length = len + 64) := by show _ = _; rw [List.length_append, marksS_len, HL.out]
  have HO0 : Hid (OwnS (w.alloc (.cells (svals (List.replicate (len + 64) ⟨#[]⟩)).toArray 9)) w.heap.size (.slice (some ⟨w.heap.size, 0, none⟩) (len + 64) (len + 64)) (laidS (bs ++ marksS) 0)) := by
    show OwnS _ _ _ _
    rw [laidS_zero, HZL.out]
    have h := own_heapS (base := w.heap.size) (ss := List.replicate (len + 64) ⟨#[]⟩) (heap_alloc_new w _) (Nat.le_refl _) (by unfold maxLen; simp; omega)
    rw [List.length_replicate] at h
    exact h
  have HB0 : Hid (Below w.heap.size w (w.alloc (.cells (svals (List.replicate (len + 64) ⟨#[]⟩)).toArray 9))) := (Below.refl _ _).alloc (Nat.le_refl _) _
  generalize (svals (List.replicate (len + 64) ⟨#[]⟩)).toArray = ZT at hmk HO0 HB0
  obtain ⟨g, hg⟩ : ∃ g, w.heap.size = g := ⟨_, rfl⟩
  have HGG : Hid (w.heap.size ≤ g) := by rw [hg]; exact Nat.le_refl _
  have HG := hide hg
  clear hr hg
  go_enter Tryd.func21, Tryd.ntmps21
  go_wp2_with fail
  have HO1 : Hid (OwnS (w.alloc (.cells ZT 9)) w.heap.size (.slice (some ⟨g, 0, none⟩) (len + 64) (len + 64)) (laidS (bs ++ marksS) 0)) := by have h := HO0.out; rw [show (⟨w.heap.size, 0, none⟩ : Addr) = ⟨g, 0, none⟩ by rw [HG.out]] at h; exact h
  simp only [HG.out]
  rw [HG.out] at HO1 HB0 HGG
  generalize w.alloc (.cells ZT 9) = w1 at HO1 HB0
  clear HO0 hmk
  go_loopw [4] (fun i wr => ∃ k : Nat, k ≤ len + 64 ∧ i = .int .i64 (k : Int) ∧ Hid (OwnS wr g (.slice (some ⟨g, 0, none⟩) (len + 64) (len + 64)) (laidS (bs ++ marksS) k) ∧ Below g w wr)) (fun i _ => len + 64 - (intOf i).toNat)
  case atStart => exact ⟨0, Nat.zero_le _, rfl, HO1.out, HB0.out⟩
  case round =>
    clear HO1 HB0
    obtain ⟨k, hk, rfl, H⟩ := hrel
    by_cases hlt : (k : Int) < (len : Int) + 64
    · have c1 := H.out.1.cell k (by omega)
      have f1 := H.out.1.frozen k
      generalize (laidS (bs ++ marksS) k).getD k ⟨#[]⟩ = d at c1
      have HS1 := hide (H.out.1.store k markS)
      have HLS := hide (laidS_succ (bs ++ marksS) k (by rw [HZL.out]; omega))
      have hltn : (k : Int) < ((len + 64 : Nat) : Int) := by omega
      by_cases hin : (k : Int) < (len : Int)
      · obtain ⟨b1, o1, rfl, hb1, hc1⟩ := HC.out (by omega)
        have g1 := hc1 k (by omega)
        rw [HG.out] at hb1
        rw [markedS_in bs k (by rw [HL.out]; omega)] at HLS
        have g2 : (wr.setCell ⟨g, k, none⟩ (.string ⟨#[109, 97, 114, 107]⟩)).cell? ⟨b1, o1 + k, none⟩ = some (.string (bs.getD k ⟨#[]⟩)) := by
          rw [(H.out.2.setCell (Nat.le_refl _) _).cell (p := ⟨b1, o1 + k, none⟩) hb1]
          exact g1
        generalize bs.getD k ⟨#[]⟩ = x at g1 g2 HLS
        have HS2 := hide (HS1.out.1.store k x)
        rw [List.set_set, HLS.out] at HS2
        have c2 := HS1.out.1.cell k (by omega)
        have f2 := HS1.out.1.frozen k
        generalize ((laidS (bs ++ marksS) k).set k markS).getD k ⟨#[]⟩ = d2 at c2
        clear hc1 g1
        go_wp2_with fail
        go_roundw
        case rel => exact ⟨k + 1, by omega, by go_num, HS2.out.1, (H.out.2.setCell (Nat.le_refl _) _).setCell (Nat.le_refl _) _⟩
        case measure => simp [intOf]; omega
      · rw [markedS_out bs k (by rw [HL.out]; omega) (by rw [HL.out]; omega)] at HLS
        rw [HLS.out] at HS1
        go_wp2_with fail
        go_roundw
        case rel => exact ⟨k + 1, by omega, by go_num, HS1.out.1, H.out.2.setCell (Nat.le_refl _) _⟩
        case measure => simp [intOf]; omega
    · obtain rfl : k = len + 64 := by omega
      have HOE : Hid (OwnS wr g (.slice (some ⟨g, 0, none⟩) (len + 64) (len + 64)) (bs ++ marksS)) := by
        have h := H.out.1
        rw [← HZL.out, laidS_all] at h
        rw [HZL.out] at h
        exact h
      go_wp2_with fail
      go_ret
      refine ⟨g, rfl, ?_, ?_, ?_⟩
      · rw [HG.out]; exact Nat.le_refl _
      · rw [HG.out]; exact HOE.out
      · rw [HG.out]; exact H.out.2
set_option maxHeartbeats 1000000 in
set_option maxRecDepth 100000 in
theorem sameTexts_eq (a b : Option Addr) (la ca lb cb : Nat) (xs : List ByteArray) (w : World) (hx : RdS w a la xs) (hy : RdS w b lb xs) (hl : la ≤ 8796093022208) :
    Calls Tryd.prog 24 #[.slice a la ca, .slice b lb cb] w fun e w' => e = .returned (.bool true) ∧ Below w.heap.size w w' := by
  have hll : la = lb := by have h1 := hx.1; have h2 := hy.1; omega
  subst hll
  have HX := hide hx
  have HY := hide hy
  have he : ((la : Int) != (la : Int)) = false := by simp
  clear hx hy
  go_enter Tryd.func24, Tryd.ntmps24
  go_wp2_with fail
  go_loopw [5] (fun i wr => ∃ k : Nat, k ≤ la ∧ i = .int .i64 (k : Int) ∧ Hid (Below w.heap.size w wr)) (fun i _ => la - (intOf i).toNat)
  case atStart => exact ⟨0, Nat.zero_le _, rfl, Below.refl _ _⟩
  case round =>
    obtain ⟨k, hk, rfl, HB⟩ := hrel
    by_cases hlt : k < la
    · have hki : (k : Int) < (la : Int) := by omega
      obtain ⟨b1, o1, rfl, _, hc1⟩ := (HX.out.below HB.out).2.2.2 (by omega)
      obtain ⟨b2, o2, rfl, _, hc2⟩ := (HY.out.below HB.out).2.2.2 (by omega)
      have g1 := hc1 k hlt
      have g2 := hc2 k hlt
      generalize xs.getD k ⟨#[]⟩ = s at g1 g2
      have hse : (s.toList == s.toList) = true := by simp
      clear hc1 hc2
      go_wp2_with fail
      first | (go_quiet (fail); go_wp2_with fail) | skip
      go_roundw
      case rel => exact ⟨k + 1, by omega, by go_num, by first | exact below_trans HB.out (below_drewN' _ _ _) | exact HB⟩
      case measure => (simp [intOf] <;> omega)
    · have hkl : k = la := by omega
      subst hkl
      have hki : ¬ (k : Int) < (k : Int) := by omega
      go_wp2_with fail
      go_ret
      exact ⟨rfl, HB.out⟩
/-- A letter more. -/
def addz (s : ByteArray) : ByteArray := s ++ ⟨#[122]⟩
def mixS (ss : List ByteArray) (k : Nat) : List ByteArray := (ss.map addz).take k ++ (ss ++ marksS).drop k
theorem mixS_zero (ss : List ByteArray) : mixS ss 0 = ss ++ marksS := by simp [mixS]
theorem mixS_end (ss : List ByteArray) : mixS ss ss.length = ss.map addz ++ marksS := by
  unfold mixS
  rw [List.take_of_length_le (by simp), List.drop_left]
theorem mixS_get (ss : List ByteArray) (k : Nat) (h : k < ss.length) : (mixS ss k).getD k ⟨#[]⟩ = ss.getD k ⟨#[]⟩ := by
  have hl : ((ss.map addz).take k).length = k := by rw [List.length_take, List.length_map]; omega
  rw [List.getD_eq_getElem?_getD, mixS, List.getElem?_append_right (by omega), hl, Nat.sub_self, List.getElem?_drop, Nat.add_zero, List.getElem?_append_left h, ← List.getD_eq_getElem?_getD]
theorem mixS_step (ss : List ByteArray) (k : Nat) (h : k < ss.length) : (mixS ss k).set k (addz (ss.getD k ⟨#[]⟩)) = mixS ss (k + 1) := by
  have hl : ((ss.map addz).take k).length = k := by rw [List.length_take, List.length_map]; omega
  have hp : k < (ss ++ marksS).length := by rw [List.length_append]; omega
  have hm : k < (ss.map addz).length := by rw [List.length_map]; exact h
  unfold mixS
  rw [List.set_append_right _ _ (by omega), hl, Nat.sub_self, List.take_succ_eq_append_getElem hm, List.drop_eq_getElem_cons hp, List.set_cons_zero, List.append_assoc]
  congr 2
  rw [List.getD_eq_getElem?_getD, List.getElem?_eq_getElem h, List.getElem_map]
  rfl
set_option maxHeartbeats 1000000 in
set_option maxRecDepth 100000 in
theorem lettered_any (g len base : Nat) (ss : List ByteArray) (w : World) (hl : ss.length = len) (hs : ∀ s ∈ ss, s.size ≤ 140737488351232) (ho : OwnS w base (.slice (some ⟨g, 0, none⟩) (len + 64) (len + 64)) (ss ++ marksS)) (hm : len ≤ 8796093021952) :
    Calls Tryd.prog 25 #[.slice (some ⟨g, 0, none⟩) len (len + 64)] w fun e w' => e = .returned (.slice (some ⟨g, 0, none⟩) len (len + 64)) ∧ OwnS w' base (.slice (some ⟨g, 0, none⟩) (len + 64) (len + 64)) (ss.map addz ++ marksS) ∧ w.grownBy w' (some g) := by
  have HL := hide hl
  have HSZ := hide hs
  have HO0 := hide ho
  have hmi : (len : Int) ≤ 8796093021952 := by omega
  clear hl hs ho
  go_enter Tryd.func25, Tryd.ntmps25
  go_wp2_with fail
  go_loopw [3] (fun i wr => ∃ k : Nat, k ≤ len ∧ i = .int .i64 (k : Int) ∧ Hid (OwnS wr base (.slice (some ⟨g, 0, none⟩) (len + 64) (len + 64)) (mixS ss k)) ∧ Hid (w.grownBy wr (some g))) (fun i _ => len - (intOf i).toNat)
  case atStart => exact ⟨0, Nat.zero_le _, rfl, by rw [mixS_zero]; exact HO0, World.grownBy.refl _ _⟩
  case round =>
    clear HO0
    obtain ⟨k, hk, rfl, HO, HG⟩ := hrel
    by_cases hlt : k < len
    · have hki : (k : Int) < (len : Int) := by omega
      have c1 := HO.out.cell k (by omega)
      rw [mixS_get ss k (by rw [HL.out]; exact hlt)] at c1
      have f1 := HO.out.frozen k
      have hst := HO.out.store k (addz (ss.getD k ⟨#[]⟩))
      rw [mixS_step ss k (by rw [HL.out]; exact hlt)] at hst
      have hsz := HSZ.out _ (getS_mem (i := k) (by rw [HL.out]; exact hlt))
      have hadd : ∀ W : World, (Op.stringOp .add (ss.getD k ⟨#[]⟩) ⟨#[122]⟩).run Tryd.prog W = .ok (.string (addz (ss.getD k ⟨#[]⟩))) W := fun W => run_string_add_sum W _ _ (by
        have e : (⟨#[122]⟩ : ByteArray).size = 1 := rfl
        rw [e]; omega)
      generalize addz (ss.getD k ⟨#[]⟩) = y at hst hadd
      generalize ss.getD k ⟨#[]⟩ = x at c1 hadd hsz
      have HST := hide hst
      clear hst
      go_wp2_with fail
      go_roundw
      case rel => exact ⟨k + 1, by omega, by go_num, HST.out.1, grown_trans HG.out HST.out.2⟩
      case measure => (simp [intOf] <;> omega)
    · have hkl : k = len := by omega
      subst hkl
      have hki : ¬ (k : Int) < (k : Int) := by omega
      have HF : Hid (OwnS wr base (.slice (some ⟨g, 0, none⟩) (k + 64) (k + 64)) (ss.map addz ++ marksS)) := by
        have h := HO.out
        rw [show mixS ss k = ss.map addz ++ marksS by rw [← mixS_end, HL.out]] at h
        exact h
      go_wp2_with fail
      go_ret
      exact ⟨rfl, HF.out, HG.out⟩
end Go.Proofs.YtpdlpahpefojbaaDoor.Filt
