/-
  parts.Bounds: bounds of a sample.
-/
import Derived.Test.YtdpihfmbkimgpaaPaSort
import Derived.Test.YtdpihfmbkimgpaaPaCheck
import Derived.Test.YtdpihfmbkimgpaaStClone
import Derived.Lib.SliceRun
namespace Go.Proofs.Ytdpihfmbkimgpaa.Pa
open Go.ChangeShapes Go.WideShapes Go.ChangeAt Go.RowKit
open Go.Proofs.Ytdpihfmbkimgpaa.Base
set_option linter.unusedVariables false
theorem cloneS_any (a : Option Addr) (len cap : Nat) (ss : List ByteArray) (w : World) (hr : RdS w a len ss) (h0 : 0 < len) (hl : len ≤ 8796093022208) :
    Calls Try.prog 30 #[.slice a len cap] w fun e w' => ∃ v, e = .returned v ∧ OwnS w' w.heap.size v ss ∧ Below w.heap.size w w' := by
  obtain ⟨b, off, rfl, _, _⟩ := hr.2.2.2 h0
  have HR1 := hide (hr.below ((Below.refl w.heap.size w).alloc (Nat.le_refl _) (.cells #[] 9)))
  have HO1 : Hid (OwnS (w.alloc (.cells #[] 9)) w.heap.size (.slice (some ⟨w.heap.size, 0, none⟩) 0 0) []) := owns_empty w _ (Nat.le_refl _)
  have heq : ∀ W, (binOp .eql 24 (.slice (some ⟨b, off, none⟩) len cap) (.slice none 0 0)).run Try.prog W = .ok (.bool false) W := fun W => Lib.run_eql_slice_nil W _ _ (some ⟨b, off, none⟩) len cap 0 0 Try.underlying24
  clear hr
  go_enter Try.func30, Try.ntmps30
  go_wp2_with (at_builtin; refine joinS _ rfl _ _ rfl w.heap.size (.slice (some ⟨w.heap.size, 0, none⟩) 0 0) [] rfl HO1.out (some ⟨b, off, none⟩) len cap ss rfl HR1.out (fun e => by cases e) (by simp; omega) (by simp) ?_
               intro v3 w3 ho3 hg3
               rw [List.nil_append] at ho3
               have HO3 := hide ho3
               have HB3 : Hid (Below w.heap.size w w3) := ((Below.refl w.heap.size w).alloc (Nat.le_refl _) _).grown hg3 (by simp) (fun i e => by cases e; exact Nat.le_refl _)
               clear ho3 hg3)
  go_ret
  exact ⟨_, rfl, HO3.out, HB3.out⟩
theorem placeOf_any (i m n : Nat) (w : World) (hn : 0 < n) (hi : i ≤ 65536) (hm : m ≤ 65536) (hn2 : n ≤ 65536) :
    Calls Try.prog 44 #[.int .i64 (i : Int), .int .i64 (m : Int), .int .i64 (n : Int)] w fun e w' => e = .returned (.int .i64 ((i * m / n : Nat) : Int)) ∧ w' = w := by
  have hp : i * m ≤ 65536 * 65536 := Nat.mul_le_mul hi hm
  have hc : (i : Int) * (m : Int) = ((i * m : Nat) : Int) := by simp
  have hq : i * m / n ≤ i * m := Nat.div_le_self _ _
  go_enter Try.func44, Try.ntmps44
  generalize i * m = p at hp hc hq
  have hz : ¬ (n : Int) = 0 := by omega
  go_wp2_with fail
  go_ret
  refine ⟨ret_int ?_, rfl⟩
  have hq2 : (p : Int) / (n : Int) = ((p / n : Nat) : Int) := (Int.natCast_ediv p n).symm
  rw [hq2]
  generalize p / n = d at hq
  unfold wrap64
  omega
/-- The bounds of n parts, of a sorted sample. -/
def bnd (T : List ByteArray) (n : Nat) : List ByteArray := (List.range (n - 1)).map fun i => T.getD ((i + 1) * T.length / n) ⟨#[]⟩
theorem bnd_len (T : List ByteArray) (n : Nat) : (bnd T n).length = n - 1 := by simp [bnd]
theorem bnd_get (T : List ByteArray) (n i : Nat) (h : i < n - 1) : (bnd T n).getD i ⟨#[]⟩ = T.getD ((i + 1) * T.length / n) ⟨#[]⟩ := by
  unfold bnd
  rw [List.getD_eq_getElem?_getD, List.getElem?_map, List.getElem?_range h]
  rfl
theorem place_lt (i m n : Nat) (hm : 0 < m) (hi : i < n) : i * m / n < m := by
  rw [Nat.div_lt_iff_lt_mul (by omega), Nat.mul_comm m n]
  exact Nat.mul_lt_mul_of_pos_right hi hm
theorem laidS_get (zs : List ByteArray) (k i : Nat) (h : i < k) (hk : k ≤ zs.length) : (laidS zs k).getD i ⟨#[]⟩ = zs.getD i ⟨#[]⟩ := by
  unfold laidS
  rw [List.getD_eq_getElem?_getD, List.getElem?_append_left (by rw [List.length_take]; omega), List.getElem?_take, if_pos h, List.getD_eq_getElem?_getD]
set_option maxHeartbeats 1000000 in
set_option maxRecDepth 100000 in
theorem pick_any (gb gs nb cb m cs base : Nat) (T : List ByteArray) (w : World) (hb : OwnS w base (.slice (some ⟨gb, 0, none⟩) nb cb) (List.replicate nb ⟨#[]⟩)) (hs : OwnS w base (.slice (some ⟨gs, 0, none⟩) m cs) T) (hne : gb ≠ gs) (hm0 : 0 < m) (hm : m ≤ 65536) (hn : nb ≤ 65535)
    (ht : ∀ s ∈ T, s.size ≤ 1024) :
    Calls Try.prog 32 #[.slice (some ⟨gb, 0, none⟩) nb cb, .slice (some ⟨gs, 0, none⟩) m cs] w fun e w' => e = .returned (.tuple #[]) ∧ OwnS w' base (.slice (some ⟨gb, 0, none⟩) nb cb) (bnd T (nb + 1)) ∧ w.grownBy w' (some gb) := by
  have HB := hide hb
  have HS := hide hs
  have HT := hide ht
  have HTL : Hid (m = T.length) := hs.len
  have HG := hide hb.lt'
  clear hb hs ht
  go_enter Try.func32, Try.ntmps32
  go_wp2_with fail
  go_loopw [4, 9] (fun b i wr => ∃ (k : Nat) (z : Int), k ≤ nb ∧ i = .int .i64 (k : Int) ∧ b = .int .i64 z ∧ Hid ((k = 0 ∧ z = -1) ∨ (0 < k ∧ z = ((k * m / (nb + 1) : Nat) : Int))) ∧ Hid (OwnS wr base (.slice (some ⟨gb, 0, none⟩) nb cb) (laidS (bnd T (nb + 1)) k)) ∧ Hid (w.grownBy wr (some gb))) (fun b i _ => nb - (intOf i).toNat)
  case atStart => exact ⟨0, -1, Nat.zero_le _, rfl, rfl, .inl ⟨rfl, rfl⟩, by rw [laidS_zero, bnd_len]; exact HB.out, World.grownBy.refl _ _⟩
  case round =>
    obtain ⟨k, z, hk, rfl, rfl, HZ, HO, HW⟩ := hrel
    by_cases hlt : k < nb
    · have hki : (k : Int) < (nb : Int) := by omega
      have hS2 : OwnS wr base (.slice (some ⟨gs, 0, none⟩) m cs) T := keepS HS.out HW.out (fun i j e1 e2 => by have := blk_eq e1; have := Option.some.inj e2; omega)
      have HPL := hide (place_lt (k + 1) m (nb + 1) hm0 (by omega))
      have c1 := HO.out.cell k hlt
      have f1 := HO.out.frozen k
      have c2 := hS2.cell ((k + 1) * m / (nb + 1)) HPL.out
      have HGet := hide (bnd_get T (nb + 1) k (by omega))
      have HSucc := hide (laidS_succ (bnd T (nb + 1)) k (by rw [bnd_len]; omega))
      have HTZ := hide (HT.out _ (getS_mem (ss := T) (i := (k + 1) * m / (nb + 1)) (by rw [← HTL.out]; exact HPL.out)))
      rw [← HTL.out] at HGet
      have HP := hide (placeOf_any (k + 1) m (nb + 1) wr (by omega) (by omega) hm (by omega))
      rw [show ((k + 1 : Nat) : Int) = (k : Int) + 1 by omega, show ((nb + 1 : Nat) : Int) = (nb : Int) + 1 by omega] at HP
      have hPL := HPL.out
      have HZ2 : Hid (z = (((k + 1) * m / (nb + 1) : Nat) : Int) → ∃ k', k = k' + 1 ∧ (bnd T (nb + 1)).getD k' ⟨#[]⟩ = (bnd T (nb + 1)).getD k ⟨#[]⟩) := fun hz => by
        rcases HZ.out with ⟨_, h2⟩ | ⟨h1, h2⟩
        · rw [h2] at hz
          generalize (k + 1) * m / (nb + 1) = P at hz
          omega
        · refine ⟨k - 1, by omega, ?_⟩
          have e : k * m / (nb + 1) = (k + 1) * m / (nb + 1) := Int.ofNat_inj.1 (h2.symm.trans hz)
          rw [bnd_get T (nb + 1) (k - 1) (by omega), bnd_get T (nb + 1) k (by omega), ← HTL.out, show k - 1 + 1 = k by omega, e]
      have HPP : Hid ((k + 1) * m / (nb + 1) = (k + 1) * m / (nb + 1)) := rfl
      generalize hPe : (k + 1) * m / (nb + 1) = P at HP c2 HPL hPL HGet HTZ HZ2
      have HPE := hide hPe
      clear hPe HPP
      have hPi : (P : Int) < (m : Int) := by omega
      generalize hx : T.getD P ⟨#[]⟩ = x at c2 HGet HTZ
      clear hx hS2
      generalize (laidS (bnd T (nb + 1)) k).getD k ⟨#[]⟩ = y at c1
      go_wp2_with fail
      have HSx : Hid ((laidS (bnd T (nb + 1)) k).set k x = laidS (bnd T (nb + 1)) (k + 1)) := by
        have h := HSucc.out
        rw [HGet.out] at h
        exact h
      refine HP.out.mono ?_
      rintro e w2 ⟨rfl, rfl⟩
      by_cases hz : z = (P : Int)
      · obtain ⟨k', rfl, hgg⟩ := HZ2.out hz
        have c3 := HO.out.cell k' (by omega)
        rw [laidS_get _ _ _ (by omega) (by rw [bnd_len]; omega), hgg, HGet.out] at c3
        have hb1 : ((P : Int) == z) = true := by rw [hz]; simp
        have hk1 : (k' : Int) < (nb : Int) := by omega
        have hk2 : (k' : Int) + 1 < (nb : Int) := by omega
        have HZE := hide hz
        have HSt := hide (HO.out.store (k' + 1) x)
        clear hgg hz
        go_wp2_with fail
        go_roundw
        case rel =>
          refine ⟨k' + 1 + 1, z, by omega, by go_num, rfl, .inr ⟨by omega, ?_⟩, ?_, ?_⟩
          · rw [HZE.out, HPE.out]
          · have h1 := HSt.out.1
            rw [HSx.out] at h1
            exact h1
          · exact grown_trans HW.out HSt.out.2
        case measure => (simp [intOf] <;> omega)
      · have hb1 : ((P : Int) == z) = false := by simp; omega
        go_wp2_with fail
        refine (St.clone_any x _ (by have := HTZ.out; omega)).mono ?_
        rintro e w3 ⟨rfl, hb3⟩
        have hg3 : w.grownBy w3 (some gb) := grown_trans HW.out (grown_of_below hb3)
        have ho3 := HO.out.below hb3
        have c4 := ho3.cell k hlt
        have f4 := ho3.frozen k
        have HSt := hide (ho3.store k x)
        have HW3 := hide hg3
        clear hb3 hg3 ho3 c1 f1 c2
        go_wp2_with fail
        go_roundw
        case rel =>
          refine ⟨k + 1, P, by omega, by go_num, rfl, .inr ⟨by omega, by rw [HPE.out]⟩, ?_, ?_⟩
          · have h1 := HSt.out.1
            rw [HSx.out] at h1
            exact h1
          · exact grown_trans HW3.out HSt.out.2
        case measure => (simp [intOf] <;> omega)
    · have hkl : k = nb := by omega
      subst hkl
      have hki : ¬ (k : Int) < (k : Int) := by omega
      go_wp2_with fail
      go_end0
      refine ⟨rfl, ?_, HW.out⟩
      have h1 := HO.out
      have h2 := laidS_all (bnd T (k + 1))
      rw [bnd_len] at h2
      rw [show k + 1 - 1 = k from rfl] at h2
      rw [h2] at h1
      exact h1
/-- What Bounds tells. -/
def bErr (ss : List ByteArray) (n : Int) : Nat := if 65536 < ss.length then 2 else if isParts n then (if anyLong ss then 140 else 0) else 3
/-- The bounds of a sample. -/
def bndS (ss : List ByteArray) (n : Int) : List ByteArray := if bErr ss n = 0 then (if ss.length = 0 then List.replicate (n.toNat - 1) ⟨#[]⟩ else bnd (srt ss) n.toNat) else []
theorem notLong {ss : List ByteArray} (h : anyLong ss = false) : ∀ s ∈ ss, s.size ≤ 1024 := by
  intro s hs
  unfold anyLong at h
  have := List.any_eq_false.1 h s hs
  simp [tooLong] at this
  exact this
set_option maxHeartbeats 1000000 in
set_option maxRecDepth 100000 in
theorem bounds_any (a : Option Addr) (len cap : Nat) (ss : List ByteArray) (n : Int) (w : World) (hr : RdS w a len ss) :
    Calls Try.prog 15 #[.slice a len cap, .int .i64 n] w fun e w' => ∃ v, e = .returned (.tuple #[v, .int .i64 (bErr ss n : Nat)]) ∧ OwnS w' w.heap.size v (bndS ss n) ∧ Below w.heap.size w w' := by
  have hl := hr.2.1
  have HL := hide hr.1
  have HR := hide hr
  clear hr
  go_enter Try.func15, Try.ntmps15
  by_cases h1 : 65536 < len
  · have h1i : (65536 : Int) < (len : Int) := by omega
    have HE : Hid (bErr ss n = 2) := hide (by unfold bErr; rw [HL.out, if_pos h1])
    go_wp2_with fail
    go_ret2
    refine ⟨.slice none 0 0, ?_, ?_, Below.refl _ _⟩
    · rw [HE.out]; rfl
    · unfold bndS; rw [HE.out]; exact owns_none _ _
  · have h1i : ¬ (65536 : Int) < (len : Int) := by omega
    go_wp2_with fail
    refine (isParts_any n w).mono ?_
    rintro e w2 ⟨rfl, rfl⟩
    by_cases hp : isParts n = true
    · have hn : 1 ≤ n ∧ n ≤ 65535 := by simpa [isParts] using hp
      obtain ⟨h2, h3⟩ := hn
      have HP := hide hp
      clear hp
      rw [HP.out]
      obtain ⟨m, rfl⟩ : ∃ m : Nat, n = (m : Int) + 1 := ⟨n.toNat - 1, by omega⟩
      go_wp2_with fail
      refine (containsFunc_any a len cap ss _ HR.out).mono ?_
      rintro e w3 ⟨rfl, rfl⟩
      by_cases hc : anyLong ss = true
      · have HC := hide hc
        clear hc
        rw [HC.out]
        have HE : Hid (bErr ss ((m : Int) + 1) = 140) := hide (by unfold bErr; rw [HL.out, if_neg h1, HP.out, HC.out]; rfl)
        go_wp2_with fail
        go_ret2
        refine ⟨.slice none 0 0, ?_, ?_, Below.refl _ _⟩
        · rw [HE.out]; rfl
        · unfold bndS; rw [HE.out]; exact owns_none _ _
      · have HC : Hid (anyLong ss = false) := hide (by simpa using hc)
        clear hc
        rw [HC.out]
        have HE : Hid (bErr ss ((m : Int) + 1) = 0) := hide (by unfold bErr; rw [HL.out, if_neg h1, HP.out, HC.out]; rfl)
        have hmk := make_row_str m (m : Int) rfl (by omega)
        by_cases h0 : 0 < len
        · have h0i : (0 : Int) < (len : Int) := by omega
          obtain ⟨w4, hw4⟩ : ∃ w4, w3.alloc (.cells (svals (List.replicate m ⟨#[]⟩)).toArray 9) = w4 := ⟨_, rfl⟩
          have hb4 : Below w3.heap.size w3 w4 := by rw [← hw4]; exact (Below.refl _ _).alloc (Nat.le_refl _) _
          have ho4 : OwnS w4 w3.heap.size (.slice (some ⟨w3.heap.size, 0, none⟩) m m) (List.replicate m ⟨#[]⟩) := by
            have h := own_heapS (w := w4) (base := w3.heap.size) (g := w3.heap.size) (ss := List.replicate m ⟨#[]⟩) (by rw [← hw4]; simp [World.alloc, -World.alloc_eq]) (Nat.le_refl _) (by rw [List.length_replicate]; unfold maxLen; omega)
            rwa [List.length_replicate] at h
          have HB4 := hide hb4
          have HO4 := hide ho4
          clear hb4 ho4
          go_wp2_with fail
          clear hw4 hmk
          refine (cloneS_any a len cap ss w4 (HR.out.below HB4.out) h0 (by omega)).mono ?_
          rintro e w5 ⟨v5, rfl, ho5, hb5⟩
          obtain ⟨a5, c5, rfl⟩ := ho5.shape
          obtain ⟨g5, rfl⟩ : ∃ g, a5 = some ⟨g, 0, none⟩ := by
            rcases ho5.2 with ⟨_, h2⟩ | ⟨g, _, _, h1, _⟩
            · rw [HL.out] at h2; omega
            · simp only [Value.slice.injEq] at h1; exact ⟨g, h1.1⟩
          rw [HL.out] at ho5 ⊢
          have hg5 := ho5.lt'
          have HG4 := hide HO4.out.lt'
          have HO5 := hide (HO4.out.below hb5)
          have HB5 := hide (below_trans HB4.out hb5)
          have HC5 := hide ho5
          clear ho5 hb5 HO4
          go_wp2_with fail
          refine (sortFunc_any g5 len c5 w4.heap.size ss w5 HC5.out (notLong HC.out) (by omega)).mono ?_
          rintro e w6 ⟨rfl, ho6, hg6⟩
          have HO6 := hide (keepS HO5.out hg6 (fun i j e1 e2 => by have := blk_eq e1; have := Option.some.inj e2; have := HG4.out; omega))
          have HB6 := hide (HB5.out.grown hg6 (HB5.out.size) (fun i e => by have := Option.some.inj e; have := HB4.out.size; omega))
          have HC6 := hide (ho6.mono HB4.out.size)
          clear ho6 hg6 HC5 HO5
          go_wp2_with fail
          refine (pick_any w3.heap.size g5 m m len c5 w3.heap.size (srt ss) w6 HO6.out HC6.out (by have := HG4.out; omega) h0 (by omega) (by omega) (fun s hs => notLong HC.out s ((srt_perm ss).mem_iff.1 hs))).mono ?_
          rintro e w7 ⟨rfl, ho7, hg7⟩
          have HB7 := hide (HB6.out.grown hg7 (HB6.out.size) (fun i e => by have := Option.some.inj e; omega))
          have HO7 := hide ho7
          clear ho7 hg7
          go_wp2_with fail
          go_ret2
          refine ⟨.slice (some ⟨w3.heap.size, 0, none⟩) m m, ?_, ?_, HB7.out⟩
          · rw [HE.out]; rfl
          · unfold bndS
            rw [HE.out, if_pos rfl, if_neg (by rw [HL.out]; omega), show ((m : Int) + 1).toNat = m + 1 by omega]
            exact HO7.out
        · have h0i : ¬ (0 : Int) < (len : Int) := by omega
          go_wp2_with fail
          go_ret2
          refine ⟨.slice (some ⟨w3.heap.size, 0, none⟩) m m, ?_, ?_, (Below.refl _ _).alloc (Nat.le_refl _) _⟩
          · rw [HE.out]; rfl
          · unfold bndS
            rw [HE.out, if_pos rfl, if_pos (by rw [HL.out]; omega), show ((m : Int) + 1).toNat - 1 = m by omega]
            have h := own_heapS (w := w3.alloc (.cells (svals (List.replicate m ⟨#[]⟩)).toArray 9)) (base := w3.heap.size) (g := w3.heap.size) (ss := List.replicate m ⟨#[]⟩) (by simp [World.alloc, -World.alloc_eq]) (Nat.le_refl _) (by rw [List.length_replicate]; unfold maxLen; omega)
            rw [List.length_replicate] at h
            exact h
    · have HP : Hid (isParts n = false) := hide (by simpa using hp)
      clear hp
      rw [HP.out]
      have HE : Hid (bErr ss n = 3) := hide (by unfold bErr; rw [HL.out, if_neg h1, HP.out]; rfl)
      go_wp2_with fail
      go_ret2
      refine ⟨.slice none 0 0, ?_, ?_, Below.refl _ _⟩
      · rw [HE.out]; rfl
      · unfold bndS; rw [HE.out]; exact owns_none _ _
end Go.Proofs.Ytdpihfmbkimgpaa.Pa
