/-
  The statement's spoilt: each Lit is written full, added to, looked at.
-/
import Derived.Test.YtcchknpgkcmneaaLzO1
namespace Go.Proofs.Ytcchknpgkcmneaa.Lz
open Go.ChangeShapes Go.WideShapes Go.ChangeAt Go.RowKit
open Go.Proofs.Ytcchknpgkcmneaa.Base Go.Proofs.Ytcchknpgkcmneaa.Nums
set_option linter.unusedVariables false
theorem take_mark (l : List (BitVec 8)) (k : Nat) (d : BitVec 8) (h : k < l.length) (e : l.take k = List.replicate k d) : (l.set k d).take (k + 1) = List.replicate (k + 1) d := by
  have h2 : k < (l.set k d).length := by rw [List.length_set]; exact h
  rw [List.take_succ_eq_append_getElem h2, List.getElem_set_self, List.replicate_succ', ← e]
  congr 1
  rw [List.take_set, List.set_eq_of_length_le (by simp; omega)]
theorem out_low {lo hi : Nat} {w w1 w2 : World} (h : Out lo hi w w1) (k : Below w.heap.size w1 w2) : Out lo hi w w2 :=
  ⟨k.os.trans h.os, k.tape.trans h.tape, k.output.trans h.output, Nat.le_trans h.size k.size, fun i hi1 hb => (k.block i hi1).trans (h.block i hi1 hb)⟩
set_option maxHeartbeats 2000000 in
set_option maxRecDepth 100000 in
theorem spoilt_any (base n c : Nat) (a : Option Addr) (ps : List (Value × Tok)) (w : World) (ho : OwnToks w base (.slice a n c) ps) (hl : ∀ p, p ∈ ps → p.2.lit.length ≤ 65536) (hn : ps.length ≤ 65536) (hbase : base ≤ w.heap.size) (top : Nat) (ht1 : ∀ i, (Value.slice a n c).ownBlock = some i → i < top) (ht2 : ∀ p, p ∈ ps → ∀ i, p.1.ownBlock = some i → i < top) :
    Calls Try.prog 30 #[.slice a n c] w fun e w' => ∃ m : Int, e = .returned (.int .i64 m) ∧ 0 ≤ m ∧ (∃ F, Sp w' base (.slice a n c) ps F) ∧ Out base top w w' := by
  have hnp : n = ps.length := by
    rcases ho.row.2 with ⟨e1, e2⟩ | ⟨g, cap, cur, e1, _⟩
    · simp only [Value.slice.injEq] at e1; omega
    · simp only [Value.slice.injEq] at e1; exact e1.2.1
  have HNP := hide hnp
  have hni : (n : Int) ≤ 65536 := by omega
  have HS0 := hide (Sp.start ho)
  have HFU := hide (fun i hi => lt_full ho i hi)
  have HAP := hide (fun i j g hi hj hij e => lt_apart ho i j g hi hj hij e)
  have HLL : Hid (∀ i, i < ps.length → (lt ps i).2.lit.length ≤ 65536) := fun i hi => hl _ (lt_mem ps i hi)
  have HRB : Hid (∀ i, (Value.slice a n c).ownBlock = some i → base ≤ i ∧ i < w.heap.size) := fun i e => World.ownsRow.lt ho.row i e
  have HLB : Hid (∀ j, j < ps.length → ∀ i, (lt ps j).1.ownBlock = some i → base ≤ i ∧ i < w.heap.size) := fun j hj i e => blk (ho.lits _ (lt_mem ps j hj)) i e
  have HLT : Hid (∀ j, j < ps.length → ∀ i, (lt ps j).1.ownBlock = some i → base ≤ i ∧ i < top) := fun j hj i e => ⟨(blk (ho.lits _ (lt_mem ps j hj)) i e).1, ht2 _ (lt_mem ps j hj) i e⟩
  clear ho hl hnp ht1 ht2
  go_enter Try.func30, Try.ntmps30
  go_wp2_with fail
  go_loopw [3] (fun s3 wr => ∃ (i : Nat) (F : Nat → List (BitVec 8)), i ≤ n ∧ s3 = .int .i64 (i : Int) ∧ Hid (Sp wr base (.slice a n c) ps F) ∧ Hid (∀ j, j < ps.length → (F j).length = (lt ps j).2.lit.length) ∧ Hid (∀ j, j < i → F j = List.replicate (lt ps j).2.lit.length (markOf j)) ∧ Hid (Out base top w wr)) (fun s3 _ => n - (intOf s3).toNat)
  case atStart => exact ⟨0, _, Nat.zero_le _, rfl, HS0, fun j _ => rfl, fun j h => by omega, Out.refl _ _ _⟩
  case round =>
    clear HS0
    obtain ⟨i, F, hi, rfl, HSP, HFL, HFM, HOUT⟩ := hrel
    by_cases hlt : (i : Int) < (n : Int)
    · have hin : i < ps.length := by have := HNP.out; omega
      obtain ⟨gi, hgi⟩ := HFU.out i hin
      obtain ⟨m, hm⟩ : ∃ m, (lt ps i).2.lit.length = m := ⟨_, rfl⟩
      have HM := hide hm
      rw [hm] at hgi
      have HGI := hide hgi
      have hm2 : (m : Int) ≤ 65536 := by have := HLL.out i hin; omega
      obtain ⟨d, hd⟩ : ∃ d, markOf i = d := ⟨_, rfl⟩
      have HDD := hide hd
      have hdn : ((i : Int) % 251) = (d.toNat : Int) := by have := markOf_nat i; rw [hd] at this; omega
      have hdt : Int.tmod (i : Int) 251 = (d.toNat : Int) := by rw [Int.tmod_eq_emod_of_nonneg (by omega)]; exact hdn
      have hd8 : d.toNat < 256 := d.isLt
      clear hm hgi hd
      go_wp2_with fail
      go_loopw [4] (fun s4 wy => ∃ (k : Nat) (F : Nat → List (BitVec 8)), k ≤ m ∧ s4 = .int .i64 (k : Int) ∧ Hid (Sp wy base (.slice a n c) ps F) ∧ Hid (∀ j, j < ps.length → (F j).length = (lt ps j).2.lit.length) ∧ Hid (∀ j, j < i → F j = List.replicate (lt ps j).2.lit.length (markOf j)) ∧ Hid ((F i).take k = List.replicate k d) ∧ Hid (Out base top w wy)) (fun s4 _ => m - (intOf s4).toNat)
      case atStart => exact ⟨0, F, Nat.zero_le _, rfl, HSP, HFL, HFM, rfl, HOUT⟩
      case round =>
        clear HSP HFL HFM HOUT
        obtain ⟨k, F, hk, rfl, HSP, HFL, HFM, HFK, HOUT⟩ := hrel
        obtain ⟨g, rfl⟩ := HSP.out.some' (by omega)
        have hc0 := HSP.out.cell i hin
        rw [HGI.out] at hc0
        by_cases hkm : (k : Int) < (m : Int)
        · have HOI := HSP.out.lits i hin
          rw [HGI.out] at HOI
          have hc1 := HOI.cell k (by omega)
          have hf1 := HOI.frozen k
          generalize (F i).getD k 0 = old at hc1
          clear HOI
          go_wp2_with fail
          go_roundw
          case measure => simp [intOf]; omega
          case rel =>
            have hst := HSP.out.store (k := k) (fun j hj hji => fun e => HAP.out i j gi hin hj (fun e2 => hji e2.symm) (by rw [HGI.out]; rfl) e) hin HGI.out d
            refine ⟨k + 1, _, by omega, by go_num, hst.1, ?_, ?_, ?_, ?_⟩
            · intro j hj
              by_cases hji : j = i
              · subst hji
                rw [if_pos rfl, List.length_set]; exact HFL.out j hj
              · rw [if_neg hji]; exact HFL.out j hj
            · intro j hj
              rw [if_neg (by omega)]; exact HFM.out j hj
            · show ((if i = i then _ else _) : List (BitVec 8)).take (k + 1) = _
              rw [if_pos rfl]
              exact take_mark _ _ _ (by rw [HFL.out i hin, HM.out]; omega) HFK.out
            · exact HOUT.out.grow hst.2 (fun q e _ => by cases e; exact HLT.out i hin gi (by rw [HGI.out]; rfl))
        · have HFI : Hid (F i = List.replicate m d) := by
            show _ = _
            have h1 := HFK.out
            rw [show k = m by omega, List.take_of_length_le (by rw [HFL.out i hin, HM.out]; exact Nat.le_refl _)] at h1
            exact h1
          go_wp2_with fail
          go_roundw
          case measure => simp [intOf]; omega
          case rel =>
            refine ⟨i + 1, F, by omega, by go_num, HSP, HFL, ?_, HOUT⟩
            intro j hj
            by_cases hji : j = i
            · subst hji
              rw [HFI.out, HM.out, HDD.out]
            · exact HFM.out j (by omega)
    · obtain rfl : n = i := by omega
      have HFM2 : Hid (∀ j, j < ps.length → F j = List.replicate (lt ps j).2.lit.length (markOf j)) := fun j hj => HFM.out j (by have := HNP.out; omega)
      clear HFM hlt hi
      go_wp2_with fail
      go_loopw [5, 6] (fun s5 s6 wr => ∃ (i t : Nat), i ≤ n ∧ s6 = .int .i64 (i : Int) ∧ s5 = .int .i64 (t : Int) ∧ t ≤ i * 65600 ∧ Hid (Sp wr base (.slice a n c) ps F) ∧ Hid (Out base top w wr)) (fun _ s6 _ => n - (intOf s6).toNat)
      case atStart => exact ⟨0, 0, Nat.zero_le _, rfl, rfl, Nat.zero_le _, HSP, HOUT⟩
      case round =>
        clear HSP HOUT
        obtain ⟨i, t, hi, rfl, rfl, ht, HSP, HOUT⟩ := hrel
        by_cases hlt : (i : Int) < (n : Int)
        · have hin : i < ps.length := by have := HNP.out; omega
          obtain ⟨gi, hgi⟩ := HFU.out i hin
          obtain ⟨m, hm⟩ : ∃ m, (lt ps i).2.lit.length = m := ⟨_, rfl⟩
          rw [hm] at hgi
          have HGI := hide hgi
          have hm1 : m ≤ 65536 := by have := HLL.out i hin; omega
          have hm2 : (m : Int) ≤ 65536 := by omega
          have hti : (t : Int) ≤ 65536 * 65600 := by have : i * 65600 ≤ 65536 * 65600 := Nat.mul_le_mul_right _ (by omega); omega
          obtain ⟨g, rfl⟩ := HSP.out.some' (by omega)
          have hc0 := HSP.out.cell i hin
          rw [HGI.out] at hc0
          have HOI := HSP.out.lits i hin
          rw [HGI.out] at HOI
          have HOI2 := hide HOI
          clear hgi hm HOI
          go_wp2_with fail
          go_loopw [7, 8] (fun s7 s8 wy => ∃ (j : Nat) (la : Option Addr) (lc : Nat) (L : List (BitVec 8)), j ≤ 64 ∧ s8 = .int .i64 (j : Int) ∧ s7 = .slice la (m + j) lc ∧ Hid (Own wy base (.slice la (m + j) lc) L) ∧ Hid (m + j = lc ∨ ∀ i, (Value.slice la (m + j) lc).ownBlock = some i → w.heap.size ≤ i) ∧ Hid (Sp wy base (.slice (some ⟨g, 0, none⟩) n c) ps F) ∧ Hid (Out base top w wy)) (fun _ s8 _ => 64 - (intOf s8).toNat)
          case atStart => exact ⟨0, _, _, _, Nat.zero_le _, rfl, rfl, HOI2, .inl rfl, HSP, HOUT⟩
          case round =>
            clear HSP HOUT HOI2 hc0
            obtain ⟨j, la, lc, L, hj, rfl, rfl, HO, HF, HSP, HOUT⟩ := hrel
            by_cases hj2 : (j : Int) < 64
            · have hsz : w.heap.size ≤ wr.heap.size := HOUT.out.size
              have HOA : Hid (Own (wr.alloc (.cells #[.int .u8 255] 5)) base (.slice la (m + j) lc) L) := HO.out.below ((Below.refl _ _).alloc (Nat.le_refl _) _)
              have HBA : Hid (Below w.heap.size wr (wr.alloc (.cells #[.int .u8 255] 5))) := (Below.refl _ _).alloc hsz _
              go_wp2_with (at_builtin; refine pushOut w.heap.size _ rfl _ _ rfl base la (m + j) lc L rfl HOA.out HF.out ⟨wr.heap.size, 0, none⟩ 1 255 rfl (cell_one_new _ _ _ 0 _ rfl) (by omega) (by simp; omega) (by simp; omega) ?_
                           intro g5 c5 w9 ho9 hg9 hb9
                           have HO9 := hide ho9
                           have HG9 := hide hg9
                           have HB9 := hide (HBA.out.trans hb9)
                           clear ho9 hg9 hb9)
              go_roundw
              case measure => simp [intOf]; omega
              case rel => exact ⟨j + 1, _, c5, _, by omega, by go_num, rfl, HO9, .inr (fun i e => by cases e; exact HG9.out), HSP.out.low HB9.out (fun i e => (HRB.out i e).2) (fun j hj i e => (HLB.out j hj i e).2), out_low HOUT.out HB9.out⟩
            · obtain rfl : j = 64 := by omega
              go_wp2_with fail
              go_roundw
              case measure => simp [intOf]; omega
              case rel => exact ⟨i + 1, t + (m + 64), by omega, by go_num, by go_num, by omega, HSP, HOUT⟩
        · have hti : (t : Int) ≤ 65536 * 65600 := by have : i * 65600 ≤ 65536 * 65600 := Nat.mul_le_mul_right _ (by omega); omega
          obtain rfl : n = i := by omega
          clear hlt hi ht
          go_wp2_with fail
          go_loopw [9] (fun s9 wr => ∃ (i : Nat), i ≤ n ∧ s9 = .int .i64 (i : Int) ∧ Hid (Sp wr base (.slice a n c) ps F) ∧ Hid (Out base top w wr)) (fun s9 _ => n - (intOf s9).toNat)
          case atStart => exact ⟨0, Nat.zero_le _, rfl, HSP, HOUT⟩
          case round =>
            clear HSP HOUT
            obtain ⟨i, hi, rfl, HSP, HOUT⟩ := hrel
            by_cases hlt : (i : Int) < (n : Int)
            · have hin : i < ps.length := by have := HNP.out; omega
              obtain ⟨gi, hgi⟩ := HFU.out i hin
              have HFI := hide (HFM2.out i hin)
              obtain ⟨m, hm⟩ : ∃ m, (lt ps i).2.lit.length = m := ⟨_, rfl⟩
              rw [hm] at hgi HFI
              have HGI := hide hgi
              have hm2 : (m : Int) ≤ 65536 := by have := HLL.out i hin; omega
              obtain ⟨d, hd⟩ : ∃ d, markOf i = d := ⟨_, rfl⟩
              have hdn : ((i : Int) % 251) = (d.toNat : Int) := by have := markOf_nat i; rw [hd] at this; omega
              have hdt : Int.tmod (i : Int) 251 = (d.toNat : Int) := by rw [Int.tmod_eq_emod_of_nonneg (by omega)]; exact hdn
              have hd8 : d.toNat < 256 := d.isLt
              rw [hd] at HFI
              clear hm hgi hd
              go_wp2_with fail
              go_loopw [10] (fun s10 wy => ∃ (k : Nat), k ≤ m ∧ s10 = .int .i64 (k : Int) ∧ Hid (Sp wy base (.slice a n c) ps F) ∧ Hid (Out base top w wy)) (fun s10 _ => m - (intOf s10).toNat)
              case atStart => exact ⟨0, Nat.zero_le _, rfl, HSP, HOUT⟩
              case round =>
                clear HSP HOUT
                obtain ⟨k, hk, rfl, HSP, HOUT⟩ := hrel
                obtain ⟨g, rfl⟩ := HSP.out.some' (by omega)
                have hc0 := HSP.out.cell i hin
                rw [HGI.out] at hc0
                by_cases hkm : (k : Int) < (m : Int)
                · have HOI := HSP.out.lits i hin
                  rw [HGI.out] at HOI
                  have hc1 := HOI.cell k (by omega)
                  rw [HFI.out, List.getD_eq_getElem?_getD, List.getElem?_replicate, if_pos (by omega), Option.getD_some] at hc1
                  clear HOI
                  go_wp2_with fail
                  go_roundw
                  case measure => simp [intOf]; omega
                  case rel => exact ⟨k + 1, by omega, by go_num, HSP, HOUT⟩
                · go_wp2_with fail
                  go_roundw
                  case measure => simp [intOf]; omega
                  case rel => exact ⟨i + 1, by omega, by go_num, HSP, HOUT⟩
            · go_wp2_with fail
              go_ret
              exact ⟨_, rfl, by omega, ⟨F, HSP.out⟩, HOUT.out⟩
end Go.Proofs.Ytcchknpgkcmneaa.Lz
