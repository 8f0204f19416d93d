/-
  The document's own answer: Join.
-/
import Derived.Test.YtkooijlldpiljaaCrcRefTwice
namespace Go.Proofs.Ytkooijlldpiljaa.Crc
open Go.ChangeShapes Go.WideShapes Go.ChangeAt Go.RowKit
theorem unit_val (i : Nat) : (2 : Int) ^ i % 4294967296 = ((BitVec.ofNat 32 1 <<< i).toNat : Int) := by
  rw [BitVec.toNat_shiftLeft, Nat.shiftLeft_eq]
  simp
/-- The memory of 'Join': the map that is held. -/
structure Mem1 (w wr : World) (T : Array Value) : Prop where
  m0 : wr.heap[w.heap.size]? = some (.cells T 42)
  below : Below w.heap.size w wr
theorem Mem1.lt {w wr : World} {T : Array Value} (h : Mem1 w wr T) : w.heap.size < wr.heap.size := by
  have := h.m0
  by_cases hl : w.heap.size < wr.heap.size
  · exact hl
  · rw [Array.getElem?_eq_none (by omega)] at this; cases this
theorem Mem1.later {w wr wx : World} {T : Array Value} (h : Mem1 w wr T) (hb : Below wr.heap.size wr wx) : Mem1 w wx T :=
  ⟨by rw [hb.block _ h.lt]; exact h.m0, below_trans h.below hb⟩
theorem Mem1.store {w wr : World} {T : Array Value} (h : Mem1 w wr T) (k : Nat) (v : Value) : Mem1 w (wr.setCell ⟨w.heap.size, k, none⟩ v) (T.setIfInBounds k v) :=
  ⟨heap_setCell_same _ _ _ _ _ _ h.m0, h.below.setCell (Nat.le_refl _) _⟩
/-- The same, by what its cells read. -/
structure MemR (w wr : World) (T : Array Value) : Prop where
  range : wr.rangeAt w.heap.size 0 T.toList
  there : wr.there w.heap.size 0 32
  below : Below w.heap.size w wr
  lt : w.heap.size < wr.heap.size
theorem Mem1.toR {w wr : World} {T : Array Value} (h : Mem1 w wr T) (hs : T.size = 32) : MemR w wr T :=
  ⟨range_of h.m0, there_of h.m0 hs, h.below, h.lt⟩
theorem MemR.later {w wr wx : World} {T : Array Value} (h : MemR w wr T) (hb : Below wr.heap.size wr wx) : MemR w wx T := by
  refine ⟨fun j v hv => ?_, fun j hj => ?_, below_trans h.below hb, Nat.lt_of_lt_of_le h.lt hb.size⟩
  · rw [hb.cell (p := ⟨w.heap.size, 0 + j, none⟩) h.lt]; exact h.range j v hv
  · rw [hb.cell (p := ⟨w.heap.size, 0 + j, none⟩) h.lt, hb.frozen (p := ⟨w.heap.size, 0 + j, none⟩) h.lt]; exact h.there j hj
theorem MemR.put {w wr : World} {T R : Array Value} (h : MemR w wr T) (hs : R.toList.length = 32) : MemR w (wr.setCells w.heap.size 0 R.toList) R :=
  ⟨World.rangeAt_setCells_same _ _ _ _ (by rw [hs]; exact h.there), World.there_setCells h.there _ _ _, setCells_below (Nat.le_refl _) _ _ _ h.below,
    Nat.lt_of_lt_of_le h.lt (setCells_below (B := 0) (Nat.zero_le _) R.toList 0 wr (Below.refl 0 wr)).size⟩
/-- What is known of a map's cells. -/
structure Is (e : Nat) (R : Array Value) : Prop where
  len : R.toList.length = 32
  one : ∀ v ∈ R.toList, v.oneCell' = true
  ofs : ∀ (x : BitVec 32) (wx : World), Calls Try.prog 26 #[.agg R, .int .u32 (x.toNat : Int)] wx fun en w' => en = .returned (.int .u32 ((Mn e x).toNat : Int)) ∧ Below wx.heap.size wx w'
  two : ∀ (wx : World), Calls Try.prog 25 #[.agg R] wx fun en w' => ∃ R', en = .returned (.agg R') ∧ Hid (R' = mat (e + e)) ∧ Below wx.heap.size wx w'
theorem is_mat (e : Nat) : Is e (mat e) :=
  ⟨by simp [mat], mat_one e, fun x wx => of_any e x wx, fun wx => (twice_any e wx).mono fun en w' ⟨h1, h2⟩ => ⟨_, h1, rfl, h2⟩⟩
theorem is_of {e : Nat} {R : Array Value} (h : Hid (R = mat e)) : Hid (Is e R) := by
  show Is e R
  rw [h.out]; exact is_mat e
theorem matTo_sz (k : Nat) : (matTo 1 k).size = 32 := matTo_size 1 k
set_option maxHeartbeats 1000000 in
theorem refJoin_any (a b : BitVec 32) (n : Int) (w : World) (hn : n ≤ 9223372036854775807) (hn0 : -9223372036854775808 ≤ n) :
    Calls Try.prog 10 #[.int .u32 (a.toNat : Int), .int .u32 (b.toNat : Int), .int .i64 n] w fun e w' => e = .returned (.int .u32 ((join a b n.toNat).toNat : Int)) ∧ Below w.heap.size w w' := by
  have u42 := Try.underlying42
  have HI32 := hide info32
  go_enter Try.func10, Try.ntmps10
  go_wp2
  rw [zero32_eq]
  have HM0 : Hid (Mem1 w (w.alloc (.cells Z32 42)) Z32) := ⟨heap_alloc_new _ _, (Below.refl _ _).alloc (Nat.le_refl _) _⟩
  obtain ⟨T, HT⟩ : ∃ T : Nat → Array Value, Hid (T = matTo 1) := ⟨_, rfl⟩
  have hT0 : Z32 = T 0 := by rw [HT.out, matTo_zero]
  have HTS := hide (fun k => matTo_set 1 k)
  have HTG := hide (fun k j h => matTo_get 1 k j h)
  have HTA := hide (matTo_all 1)
  have HTZ := hide matTo_sz
  rw [← HT.out] at HTS HTG HTA HTZ
  generalize Z32 = Z at hT0 HM0
  have HZ0 := hide hT0
  clear hT0
  go_loopw [8] (fun i wr => ∃ k : Nat, k ≤ 32 ∧ i = .int .i64 k ∧ Hid (Mem1 w wr (T k))) (fun i _ => 32 - (intOf i).toNat)
  case atStart => exact ⟨0, Nat.zero_le _, rfl, by rw [← HZ0.out]; exact HM0⟩
  case round =>
    clear HM0
    obtain ⟨k, hk, rfl, HM⟩ := hrel
    by_cases hlt : k < 32
    · obtain ⟨old, hold⟩ := HTG.out k k hlt
      have hki : (k : Int) < 32 := by omega
      have c1 : wr.cell? ⟨w.heap.size, k, none⟩ = some old := by rw [cell_of_row _ _ _ _ _ _ HM.out.m0]; exact hold
      have c2 : wr.frozen? ⟨w.heap.size, k, none⟩ = false := frozen_of_row _ _ _ _ _ HM.out.m0
      clear hold
      have hu := unit_val k
      generalize hU : BitVec.ofNat 32 1 <<< k = U at hu
      have HU := hide hU
      clear hU
      go_wp2_with fail
      refine (refM_any U _).mono ?_
      rintro e w' ⟨rfl, rfl⟩
      go_wp2_with fail
      go_roundw
      case rel =>
        refine ⟨k + 1, by omega, by go_num, ?_⟩
        have h := HM.out.store k (.int .u32 ((M U).toNat : Int))
        have hv : M U = Mn 1 (BitVec.ofNat 32 1 <<< k) := by rw [← HU.out]; rfl
        rw [hv, HTS.out k, ← hv] at h
        exact h
      case measure => simp [intOf]; omega
    · have hk' : k = 32 := by omega
      subst hk'
      have HR := hide (HM.out.toR (HTZ.out 32))
      rw [HTA.out] at HR
      have HIS := hide (is_mat 1)
      generalize mat 1 = R1 at HR HIS
      clear HM
      go_upto_region 6 with fail
      have HI1 : Hid ((Try.prog.info? 42).map (·.size) = some R1.toList.length) := by
        show _ = _
        rw [HIS.out.len]; exact info32
      go_wp2_with (first
        | (refine wpList_load_mid rfl 42 (.tmp 7) rfl w.heap.size 0 rfl R1.toList _ HR.out.range u42 rfl HI1.out ?_)
        | fail)
      refine (HIS.out.two _).mono ?_
      rintro en w1 ⟨R2, rfl, HR2, hb1⟩
      have HS2 := is_of HR2
      have HRa := hide (HR.out.later hb1)
      clear hb1 HR HR2
      go_wp2_with fail
      refine (HS2.out.two _).mono ?_
      rintro en w2 ⟨R4, rfl, HR4, hb2⟩
      have HS4 := is_of HR4
      have HRb := hide (HRa.out.later hb2)
      clear hb2 HRa HR4
      go_wp2_with fail
      refine (HS4.out.two _).mono ?_
      rintro en w3 ⟨R8, rfl, HR8, hb3⟩
      have HS8 := is_of HR8
      have HRc := hide (HRb.out.later hb3)
      clear hb3 HRb HR8
      have HSZ : Hid (R8.size = 32) := by show R8.size = 32; simpa using HS8.out.len
      have HTH : Hid (w3.there w.heap.size 0 R8.size) := by show World.there _ _ _ _; rw [HSZ.out]; exact HRc.out.there
      have HI8 : Hid ((Try.prog.info? 42).map (·.size) = some R8.size) := by show _ = _; rw [HSZ.out]; exact info32
      have HON : Hid (R8.all (·.oneCell') = true) := by
        have h := all_oneCell_toArray HS8.out.one
        rwa [Array.toArray_toList] at h
      have HP := hide (HRc.out.put HS8.out.len)
      clear HRc
      go_wp2_with (first
        | (refine wpList_store_mid rfl 42 (.tmp 7) (.tmp 22) rfl w.heap.size 0 R8 rfl rfl HTH.out HI8.out HON.out ?_)
        | fail)
      go_loopw [0, 9] (fun x i wr => ∃ K : Int, i = .int .i64 K ∧ K ≤ 9223372036854775807 ∧ -9223372036854775808 ≤ K ∧ ∃ X : BitVec 32, x = .int .u32 (X.toNat : Int) ∧ ∃ (E : Nat) (R : Array Value), Hid (Is E R) ∧ Hid (MemR w wr R) ∧ Hid (Mn (E * K.toNat) X = Mn (8 * n.toNat) a)) (fun _ i _ => (intOf i).toNat)
      case atStart => exact ⟨n, rfl, hn, hn0, a, rfl, 8, R8, HS8, HP, rfl⟩
      case round =>
        clear HP
        obtain ⟨K, rfl, hK1, hK2, X, rfl, E, R, HIS, HR, HE⟩ := hrel
        by_cases hpos : 0 < K
        · obtain ⟨m, rfl⟩ := Int.eq_ofNat_of_zero_le (show 0 ≤ K by omega)
          have hm0 : 0 < m := by omega
          have hd : decide ((0 : Int) < (m : Int)) = true := by simp; omega
          rw [Int.toNat_natCast] at HE
          rcases (by omega : m % 2 = 0 ∨ m % 2 = 1) with h2 | h2
          · have q1 : ((m : Int) % 2 == 1) = false := by simp; omega
            have EE : Hid (Mn ((E + E) * (((m / 2 : Nat) : Int)).toNat) X = Mn (8 * n.toNat) a) := by
              show _ = _
              rw [← HE.out, Int.toNat_natCast]
              congr 1
              have : m = m / 2 + m / 2 := by omega
              rw [Nat.add_mul, ← Nat.mul_add, ← this]
            clear h2
            have HI1 : Hid ((Try.prog.info? 42).map (·.size) = some R.toList.length) := by
              show _ = _
              rw [HIS.out.len]; exact info32
            have HRa := HR
            clear HR
            go_wp2_with (first
              | (refine wpList_load_mid rfl 42 (.tmp 7) rfl w.heap.size 0 rfl R.toList _ HRa.out.range u42 rfl HI1.out ?_)
              | fail)
            refine (HIS.out.two _).mono ?_
            rintro en v2 ⟨R', rfl, HR', hb2⟩
            have HS' := is_of HR'
            have HRb := hide (HRa.out.later hb2)
            clear hb2 HRa HR'
            have HSZ : Hid (R'.size = 32) := by show R'.size = 32; simpa using HS'.out.len
            have HTH : Hid (v2.there w.heap.size 0 R'.size) := by show World.there _ _ _ _; rw [HSZ.out]; exact HRb.out.there
            have HI8 : Hid ((Try.prog.info? 42).map (·.size) = some R'.size) := by show _ = _; rw [HSZ.out]; exact info32
            have HON : Hid (R'.all (·.oneCell') = true) := by
              have h := all_oneCell_toArray HS'.out.one
              rwa [Array.toArray_toList] at h
            have HP' := hide (HRb.out.put HS'.out.len)
            clear HRb
            go_wp2_with (first
              | (refine wpList_store_mid rfl 42 (.tmp 7) (.tmp 35) rfl w.heap.size 0 R' rfl rfl HTH.out HI8.out HON.out ?_)
              | fail)
            go_roundw
            case rel => exact ⟨((m / 2 : Nat) : Int), by go_num, by omega, by omega, X, rfl, E + E, R', HS', HP', EE⟩
            case measure => simp [intOf]; omega
          · have q1 : ((m : Int) % 2 == 1) = true := by simp; omega
            have EE : Hid (Mn ((E + E) * (((m / 2 : Nat) : Int)).toNat) (Mn E X) = Mn (8 * n.toNat) a) := by
              show _ = _
              rw [← HE.out, Int.toNat_natCast, ← Mn_add]
              congr 1
              have : m = 1 + (m / 2 + m / 2) := by omega
              rw [Nat.add_mul, ← Nat.mul_add]
              calc E + E * (m / 2 + m / 2) = E * (1 + (m / 2 + m / 2)) := by rw [Nat.mul_add E 1, Nat.mul_one]
                _ = E * m := by rw [← this]
            clear h2
            have HI1 : Hid ((Try.prog.info? 42).map (·.size) = some R.toList.length) := by
              show _ = _
              rw [HIS.out.len]; exact info32
            go_wp2_with (first
              | (refine wpList_load_mid rfl 42 (.tmp 7) rfl w.heap.size 0 rfl R.toList _ HR.out.range u42 rfl HI1.out ?_)
              | fail)
            refine (HIS.out.ofs X _).mono ?_
            rintro en v1 ⟨rfl, hb1⟩
            have HRa := hide (HR.out.later hb1)
            clear hb1 HR
            go_wp2_with (first
              | (refine wpList_load_mid rfl 42 (.tmp 7) rfl w.heap.size 0 rfl R.toList _ HRa.out.range u42 rfl HI1.out ?_)
              | fail)
            refine (HIS.out.two _).mono ?_
            rintro en v2 ⟨R', rfl, HR', hb2⟩
            have HS' := is_of HR'
            have HRb := hide (HRa.out.later hb2)
            clear hb2 HRa HR'
            have HSZ : Hid (R'.size = 32) := by show R'.size = 32; simpa using HS'.out.len
            have HTH : Hid (v2.there w.heap.size 0 R'.size) := by show World.there _ _ _ _; rw [HSZ.out]; exact HRb.out.there
            have HI8 : Hid ((Try.prog.info? 42).map (·.size) = some R'.size) := by show _ = _; rw [HSZ.out]; exact info32
            have HON : Hid (R'.all (·.oneCell') = true) := by
              have h := all_oneCell_toArray HS'.out.one
              rwa [Array.toArray_toList] at h
            have HP' := hide (HRb.out.put HS'.out.len)
            clear HRb
            go_wp2_with (first
              | (refine wpList_store_mid rfl 42 (.tmp 7) (.tmp 35) rfl w.heap.size 0 R' rfl rfl HTH.out HI8.out HON.out ?_)
              | fail)
            go_roundw
            case rel => exact ⟨((m / 2 : Nat) : Int), by go_num, by omega, by omega, Mn E X, rfl, E + E, R', HS', HP', EE⟩
            case measure => simp [intOf]; omega
        · have hd : decide ((0 : Int) < K) = false := by simp; omega
          have hbx := bxor X b
          obtain ⟨Y, HY⟩ : ∃ Y, Hid (Y = X ^^^ b) := ⟨_, rfl⟩
          rw [← HY.out] at hbx
          go_wp2_with fail
          go_ret
          refine ⟨ret_int ?_, HR.out.below⟩
          have h := HE.out
          rw [show K.toNat = 0 by omega, Nat.mul_zero] at h
          rw [HY.out]
          show _ = ((Mn (8 * n.toNat) a ^^^ b).toNat : Int)
          rw [← h]
          rfl
end Go.Proofs.Ytkooijlldpiljaa.Crc
