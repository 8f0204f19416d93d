/-
  The document's own answer: a map done two times.
-/
import Derived.Test.YtkooijlldpiljaaCrcRefOf
import Derived.Test.YtkooijlldpiljaaCrcFrame
import Derived.Deep.RegionHeld
import Derived.Deep.DeepCutAuto
namespace Go.Proofs.Ytkooijlldpiljaa.Crc
open Go.ChangeShapes Go.WideShapes Go.ChangeAt Go.RowKit
/-- The cells of a map that is made of another, behind k rounds. -/
def matTo (e k : Nat) : Array Value := Array.ofFn (n := 32) fun j => if j.val < k then .int .u32 ((Mn e (BitVec.ofNat 32 1 <<< j.val)).toNat : Int) else .int .u32 0
def Z32 : Array Value := matTo 0 0
theorem matTo_size (e k : Nat) : (matTo e k).size = 32 := by simp [matTo]
theorem matTo_zero (e : Nat) : matTo e 0 = Z32 := by simp [matTo, Z32]
theorem matTo_all (e : Nat) : matTo e 32 = mat e := by simp [matTo, mat]
theorem matTo_get (e k j : Nat) (h : j < 32) : ∃ v, (matTo e k)[j]? = some v := ⟨_, Array.getElem?_eq_getElem (by rw [matTo_size]; exact h)⟩
theorem matTo_set (e k : Nat) : (matTo e k).setIfInBounds k (.int .u32 ((Mn e (BitVec.ofNat 32 1 <<< k)).toNat : Int)) = matTo e (k + 1) := by
  apply Array.ext
  · simp [matTo_size]
  · intro i h1 h2
    simp [matTo_size] at h1
    rw [Array.getElem_setIfInBounds (by rw [matTo_size]; exact h1)]
    by_cases h : k = i
    · subst h; simp [matTo]
    · rw [if_neg h]
      simp only [matTo, Array.getElem_ofFn]
      by_cases hi : i < k
      · rw [if_pos hi, if_pos (by omega)]
      · rw [if_neg hi, if_neg (by omega)]
theorem info32 : (Try.prog.info? 42).map (·.size) = some 32 := by kernel_rfl
theorem mat_one (e : Nat) : ∀ v ∈ (mat e).toList, v.oneCell' = true := by
  intro v hv
  obtain ⟨i, hi, rfl⟩ := List.getElem_of_mem hv
  rw [Array.getElem_toList]
  simp only [mat, Array.getElem_ofFn]
  rfl
theorem zero32_eq : (#[Value.int IntKind.u32 0, Value.int IntKind.u32 0, Value.int IntKind.u32 0, Value.int IntKind.u32 0,
          Value.int IntKind.u32 0, Value.int IntKind.u32 0, Value.int IntKind.u32 0, Value.int IntKind.u32 0,
          Value.int IntKind.u32 0, Value.int IntKind.u32 0, Value.int IntKind.u32 0, Value.int IntKind.u32 0,
          Value.int IntKind.u32 0, Value.int IntKind.u32 0, Value.int IntKind.u32 0, Value.int IntKind.u32 0,
          Value.int IntKind.u32 0, Value.int IntKind.u32 0, Value.int IntKind.u32 0, Value.int IntKind.u32 0,
          Value.int IntKind.u32 0, Value.int IntKind.u32 0, Value.int IntKind.u32 0, Value.int IntKind.u32 0,
          Value.int IntKind.u32 0, Value.int IntKind.u32 0, Value.int IntKind.u32 0, Value.int IntKind.u32 0,
          Value.int IntKind.u32 0, Value.int IntKind.u32 0, Value.int IntKind.u32 0, Value.int IntKind.u32 0] : Array Value) = Z32 := by kernel_rfl
/-- The memory of 'twice': the map that came in, the result's place, the map that is made. -/
structure Mem2 (w wr : World) (A Z T : Array Value) : Prop where
  m0 : wr.heap[w.heap.size]? = some (.cells A 42)
  m1 : wr.heap[w.heap.size + 1]? = some (.cells Z 42)
  m2 : wr.heap[w.heap.size + 1 + 1]? = some (.cells T 42)
  below : Below w.heap.size w wr
  size : w.heap.size + 1 + 1 + 1 ≤ wr.heap.size
theorem Mem2.drew {w wr : World} {A Z T : Array Value} (h : Mem2 w wr A Z T) : Mem2 w wr.drew A Z T := ⟨h.m0, h.m1, h.m2, h.below.drew, h.size⟩
theorem Mem2.later {w wr wx : World} {A Z T : Array Value} (h : Mem2 w wr A Z T) (hb : Below wr.heap.size wr wx) : Mem2 w wx A Z T := by
  have hs := h.size
  exact ⟨by rw [hb.block _ (by omega)]; exact h.m0, by rw [hb.block _ (by omega)]; exact h.m1, by rw [hb.block _ (by omega)]; exact h.m2, below_trans h.below hb, by have := hb.size; omega⟩
theorem Mem2.store {w wr : World} {A Z T : Array Value} (h : Mem2 w wr A Z T) (k : Nat) (v : Value) : Mem2 w (wr.setCell ⟨w.heap.size + 1 + 1, k, none⟩ v) A Z (T.setIfInBounds k v) := by
  refine ⟨?_, ?_, heap_setCell_same _ _ _ _ _ _ h.m2, h.below.setCell (by show w.heap.size ≤ w.heap.size + 1 + 1; omega) _, by simp [World.setCell]; exact h.size⟩
  · rw [heap_setCell_other _ _ _ _ (by show w.heap.size ≠ w.heap.size + 1 + 1; omega)]; exact h.m0
  · rw [heap_setCell_other _ _ _ _ (by show w.heap.size + 1 ≠ w.heap.size + 1 + 1; omega)]; exact h.m1
theorem Mem2.start (w : World) (A Z T : Array Value) : Mem2 w (((w.alloc (.cells A 42)).alloc (.cells Z 42)).alloc (.cells T 42)) A Z T := by
  have s1 : (w.alloc (.cells A 42)).heap.size = w.heap.size + 1 := by simp
  have s2 : ((w.alloc (.cells A 42)).alloc (.cells Z 42)).heap.size = w.heap.size + 1 + 1 := by simp
  refine ⟨?_, ?_, ?_, ((Below.refl _ _).alloc (Nat.le_refl _) _).alloc (by simp) _ |>.alloc (by simp; omega) _, by simp⟩
  · rw [Below.heap_alloc _ _ _ (by simp; omega), Below.heap_alloc _ _ _ (by simp)]; exact heap_alloc_new _ _
  · rw [Below.heap_alloc _ _ _ (by simp)]
    have := heap_alloc_new (w.alloc (.cells A 42)) (.cells Z 42)
    rwa [s1] at this
  · have := heap_alloc_new ((w.alloc (.cells A 42)).alloc (.cells Z 42)) (.cells T 42)
    rwa [s2] at this
theorem range_of {wr : World} {b : Nat} {A : Array Value} {t : TypeId} (h : wr.heap[b]? = some (.cells A t)) : wr.rangeAt b 0 A.toList := by
  intro j v hv
  rw [Nat.zero_add, cell_of_row wr b j A t (0, 0) h]
  simpa using hv
theorem setCells_below {B b : Nat} {a : World} (hb : B ≤ b) : ∀ (vs : List Value) (o : Nat) (w : World), Below B a w → Below B a (w.setCells b o vs)
  | [], _, _, h => h
  | v :: vs, o, w, h => setCells_below hb vs (o + 1) (w.setCell ⟨b, o, none⟩ v) (h.setCell hb v)
theorem results_mid {P : Program} {fn : Func} {p : Tmp} {ty : TypeId} (h : fn.results = #[.cell p ty]) (tmps : Array Value) (w : World) (g : Nat) (cs : List Value) (d : TypeDesc)
    (hp : tmps.getD p undef = .pointer (some ⟨g, 0, none⟩)) (hc : w.rangeAt g 0 cs) (hu : P.underlying ty = some d) (hd : d.isRow = true) (hi : (P.info? ty).map (·.size) = some cs.length) :
    (results fn tmps).run P w = .ok (.agg cs.toArray) w := by
  have hp' : tmps[p]?.getD undef = .pointer (some ⟨g, 0, none⟩) := by simpa using hp
  simp [results, h, hp', asAddr, run_loadVar_mid w g 0 ty cs d hc hu hd hi]
theorem there_of {wr : World} {b : Nat} {Z : Array Value} {t : TypeId} (h : wr.heap[b]? = some (.cells Z t)) (hz : Z.size = 32) : wr.there b 0 32 := by
  intro j hj
  rw [Nat.zero_add]
  refine ⟨?_, frozen_of_row _ _ _ _ _ h⟩
  rw [cell_of_row _ _ _ _ _ _ h, Array.getElem?_eq_getElem (by omega)]
  rfl
set_option maxHeartbeats 1000000 in
theorem twice_any (e : Nat) (w : World) :
    Calls Try.prog 25 #[.agg (mat e)] w fun en w' => en = .returned (.agg (mat (e + e))) ∧ Below w.heap.size w w' := by
  have HG := hide (fun k (h : k < 32) => mat_get e k h)
  have HOF := hide (fun (x : BitVec 32) (wx : World) => of_any e x wx)
  have hlen : (mat e).toList.length = 32 := by simp [mat]
  have h1c := mat_one e
  generalize mat e = A at HG HOF hlen h1c
  have HLEN := hide hlen
  have H1C := hide h1c
  clear hlen h1c
  go_enter Try.func25, Try.ntmps25
  go_wp2
  rw [zero32_eq]
  have HM0 := hide (Mem2.start w A Z32 Z32)
  obtain ⟨T, HT⟩ : ∃ T : Nat → Array Value, Hid (T = matTo (e + e)) := ⟨_, rfl⟩
  have hT0 : Z32 = T 0 := by rw [HT.out, matTo_zero]
  have HTS := hide (fun k => matTo_set (e + e) k)
  have HTG := hide (fun k j h => matTo_get (e + e) k j h)
  have HTA := hide (matTo_all (e + e))
  rw [← HT.out] at HTS HTG HTA
  generalize Z32 = Z at hT0 HM0
  have HZ0 := hide hT0
  clear hT0
  go_loopw [4] (fun i wr => ∃ k : Nat, k ≤ 32 ∧ i = .int .i64 k ∧ Hid (Mem2 w wr A Z (T k))) (fun i _ => 32 - (intOf i).toNat)
  case atStart => exact ⟨0, Nat.zero_le _, rfl, by rw [← HZ0.out]; exact HM0⟩
  case round =>
    clear HM0
    obtain ⟨k, hk, rfl, HM⟩ := hrel
    by_cases hlt : k < 32
    · have hg := HG.out k hlt
      generalize hV : Mn e (BitVec.ofNat 32 1 <<< k) = V at hg
      have HV := hide hV
      clear hV
      obtain ⟨old, hold⟩ := HTG.out k k hlt
      have hki : (k : Int) < 32 := by omega
      have u42 := Try.underlying42
      have i42 : (Try.prog.info? 42).map (·.size) = some A.toList.length := by rw [HLEN.out]; exact info32
      have SC := hide (fun (wx : World) (Tx : Array Value) (h : Mem2 w wx A Z Tx) => (⟨range_of h.m0, by rw [cell_of_row _ _ _ _ _ _ h.m0]; exact hg⟩ :
        wx.rangeAt w.heap.size 0 A.toList ∧ wx.cell? ⟨w.heap.size, k, none⟩ = some (.int .u32 (V.toNat : Int))))
      have SD := hide (fun (wx : World) (h : Mem2 w wx A Z (T k)) => (⟨by rw [cell_of_row _ _ _ _ _ _ h.m2]; exact hold, frozen_of_row _ _ _ _ _ h.m2⟩ :
        wx.cell? ⟨w.heap.size + 1 + 1, k, none⟩ = some old ∧ wx.frozen? ⟨w.heap.size + 1 + 1, k, none⟩ = false))
      clear hold
      have hl32 := HLEN.out
      have h1c := H1C.out
      go_wp2_with fail
      go_region_held (fun w' => w'.rangeAt w.heap.size 0 A.toList ∧ w'.cell? ⟨w.heap.size, k, none⟩ = some (.int .u32 (V.toNat : Int)))
        (first | exact SC.out _ _ HM.out.drew | exact SC.out _ _ HM1.out | exact SC.out _ _ (HM1.out.store k _))
        (first | (go_at_call 26; refine (HOF.out V _).mono ?_; rintro en w1 ⟨rfl, hb1⟩; have HM1 := hide (HM.out.drew.later hb1); obtain ⟨c1, c2⟩ := SD.out _ HM1.out; clear hb1))
      go_wp2_with fail
      go_roundw
      case rel =>
        refine ⟨k + 1, by omega, by go_num, ?_⟩
        have h := HM1.out.store k (.int .u32 ((Mn e V).toNat : Int))
        have hv : Mn e V = Mn (e + e) (BitVec.ofNat 32 1 <<< k) := by rw [← HV.out, ← Mn_add]
        rw [hv, HTS.out k, ← hv] at h
        exact h
      case measure => simp [intOf]; omega
    · have hk' : k = 32 := by omega
      subst hk'
      have hLA : ∀ v ∈ (mat (e + e)).toList, v.oneCell' = true := mat_one (e + e)
      have hsz : (mat (e + e)).toList.length = 32 := by simp [mat]
      rw [HTA.out] at HM
      generalize hRm : mat (e + e) = R at hLA hsz HM
      have HRm := hide hRm
      clear hRm
      have HLA := hide hLA
      have HSZ := hide hsz
      clear hLA hsz
      have u42 := Try.underlying42
      have hzs : Hid (Z.size = 32) := by
        show Z.size = 32
        rw [HZ0.out, HT.out, matTo_size]
      have i42 : (Try.prog.info? 42).map (·.size) = some R.toList.length := by rw [HSZ.out]; exact info32
      have I42 := hide i42
      clear i42
      have HTH : Hid (wr.there (w.heap.size + 1) 0 R.toList.toArray.size) := by
        show World.there _ _ _ _
        rw [show R.toList.toArray.size = 32 by simpa using HSZ.out]
        exact there_of HM.out.m1 hzs.out
      have HI : Hid ((Try.prog.info? 42).map (·.size) = some R.toList.toArray.size) := by
        show _ = _
        rw [show R.toList.toArray.size = 32 by simpa using HSZ.out]; exact info32
      have HR2 : Hid ((wr.setCells (w.heap.size + 1) 0 R.toList).rangeAt (w.heap.size + 1) 0 R.toList) :=
        World.rangeAt_setCells_same _ _ _ _ (by rw [HSZ.out]; exact there_of HM.out.m1 hzs.out)
      have HBS : Hid (Below w.heap.size w (wr.setCells (w.heap.size + 1) 0 R.toList)) := setCells_below (by omega) _ _ _ HM.out.below
      go_upto_region 6 with fail
      go_wp2_with (first
        | (refine wpList_load_mid rfl 42 (.tmp 3) rfl (w.heap.size + 1 + 1) 0 rfl R.toList _ (range_of HM.out.m2) u42 rfl I42.out ?_)
        | (refine wpList_store_mid rfl 42 (.tmp 2) (.tmp 16) rfl (w.heap.size + 1) 0 R.toList.toArray rfl rfl HTH.out HI.out (all_oneCell_toArray HLA.out) ?_))
      refine bodyPost_ret (v := .agg R.toList.toArray) (results_mid Try.results25 _ _ (w.heap.size + 1) R.toList _ (by simp [Act.put]) HR2.out u42 rfl I42.out) (by simp [Act.put]) ⟨?_, HBS.out⟩
      rw [HRm.out]
end Go.Proofs.Ytkooijlldpiljaa.Crc
