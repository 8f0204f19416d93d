/-
  The walk of the statement NumsCursor.
-/
import Derived.Test.YtcchknpgkcmneaaNcW
namespace Go.Proofs.Ytcchknpgkcmneaa.numsCursor
open Go.ChangeShapes Go.WideShapes Go.ChangeAt Go.RowKit
open Go.Proofs.Ytcchknpgkcmneaa.Base Go.Proofs.Ytcchknpgkcmneaa.Nums Go.Proofs.Ytcchknpgkcmneaa.Curs
set_option linter.unusedVariables false
/-- Both cursors, and the two zero ones. -/
structure Four (w : World) (gc gr gz D E : Nat) (s : St) : Prop where
  c : Cz w gc D s
  r : Rz w gr E s
  z : Cz w gz 0 ([], 0, 0)
  n : Rz w (gz + 1) 0 ([], 0, 0)
theorem Four.below {w w' : World} {gc gr gz D E : Nat} {s : St} (h : Four w gc gr gz D E s) (hb : Below w.heap.size w w') : Four w' gc gr gz D E s := ⟨h.c.below hb, h.r.below hb, h.z.below hb, h.n.below hb⟩
set_option maxHeartbeats 4000000 in
set_option maxRecDepth 100000 in
theorem walk (a : Option Addr) (len cap : Nat) (bs : List (BitVec 8)) (sa : Option Addr) (sn sc : Nat) (ps : List (Int × Int)) (w : World) (r0 : Rd w a len bs) (l0 : len ≤ cap) (m0 : cap ≤ 1048576) (z0 : a = none → len = 0 ∧ cap = 0) (r1 : RdP w sa sn ps) (l1 : sn ≤ sc) (m1 : sc ≤ 1048576) :
    Calls Try.prog 3 #[.slice a len cap, .slice sa sn sc] w fun e w' => e = .returned (.bool true) ∧ Below w.heap.size w w' := by
  have R0 := hide r0
  have R1 := hide r1
  have HL := hide r0.1
  have HZ := hide z0
  have hlen : len ≤ 1048576 := by omega
  have hleni : (len : Int) ≤ 1048576 := by omega
  have hsn : sn ≤ 1048576 := by omega
  have hsni : (sn : Int) ≤ 1048576 := by omega
  clear r0 r1 z0
  go_enter Try.func3, Try.ntmps3
  go_wp2_with fail
  refine (spare_any a len cap bs w R0.out (by omega)).mono ?_
  rintro e u1 ⟨g, rfl, hg1, ho1, hb1⟩
  have HO1 := hide ho1
  have HB1 := hide hb1
  have HG1 := hide hg1
  have HGL : Hid (g < u1.heap.size) := (blk ho1 g rfl).2
  have hlc : (len : Int) ≤ (len : Int) + 64 := by omega
  have HRX : Hid (Rd u1 (some ⟨g, 0, none⟩) len bs) := by
    have h1 : Rd u1 (some ⟨g, 0, none⟩) (len + 64) (padded bs) := Got.rd ho1 (by rw [length_padded, HL.out]; omega)
    have h2 := h1.cut len (by omega)
    rw [← HL.out, take_padded] at h2
    rw [HL.out] at h2
    exact h2
  have HNC := hide (newD_any (some ⟨g, 0, none⟩) len (len + 64) bs u1 HRX.out (by omega) (by omega) (fun h => by cases h))
  clear ho1 hb1 hg1 HRX
  go_wp2_with fail
  refine HNC.out.mono ?_
  rintro e u2 ⟨gc, rfl, hgc1, hgc2, hcur, hdat, hb2⟩
  have HCZ2 : Hid (Cz u2 gc u2.heap.size (bs, 0, 0)) := .inl ⟨rfl, hcur⟩
  have HDAT := hide hdat
  have HGC1 := hide hgc1
  have HGC2 := hide hgc2
  have HO2 := hide (HO1.out.below hb2)
  have HB2 := hide (below_trans HB1.out hb2)
  have HS2 : Hid (u1.heap.size ≤ u2.heap.size) := hb2.size
  clear hgc1 hgc2 hcur hdat hb2 HNC HO1
  go_wp2_with fail
  refine (kept_any (some ⟨g, 0, none⟩) a (len + 64) len cap bs u2 (Got.rd HO2.out (by rw [length_padded, HL.out]; omega)) (R0.out.below HB2.out) (by omega)).mono ?_
  rintro e u3 ⟨rfl, hb3⟩
  have HCZ3 := hide (HCZ2.out.below hb3)
  have HO3 := hide (HO2.out.below hb3)
  have HB3 := hide (below_trans HB2.out hb3)
  have HS3 : Hid (u2.heap.size ≤ u3.heap.size) := hb3.size
  have HDAT3 : Hid (∀ a n c p e, Row u3 gc (.slice (some a) n c) p e → u1.heap.size ≤ a.block) := fun a n c p e hr => HDAT.out a n c p e (by unfold Row at hr ⊢; rw [← hb3.block gc HGC2.out]; exact hr)
  clear hb3 HCZ2 HO2 HDAT HB2
  go_wp2_with fail
  refine (rnew_any a len cap bs u3 (R0.out.below HB3.out) hlen HZ.out).mono ?_
  rintro e u4 ⟨gr, rfl, hgr1, hgr2, hre, hdat, hb4⟩
  have HRZ4 : Hid (Rz u4 gr u4.heap.size (bs, 0, 0)) := .inl ⟨rfl, hre⟩
  have HCZ4 := hide (HCZ3.out.below hb4)
  have HO4 := hide (HO3.out.below hb4)
  have HB4 := hide (below_trans HB3.out hb4)
  have HS4 : Hid (u3.heap.size ≤ u4.heap.size) := hb4.size
  have HRDAT := hide hdat
  have HGR1 := hide hgr1
  have HGR2 := hide hgr2
  have HDAT4 : Hid (∀ a n c p e, Row u4 gc (.slice (some a) n c) p e → u1.heap.size ≤ a.block) := fun a n c p e hr => HDAT3.out a n c p e (by unfold Row at hr ⊢; rw [← hb4.block gc (by have := HGC2.out; have := HS3.out; omega)]; exact hr)
  clear hgr1 hgr2 hre hdat hb4 HCZ3 HO3 HDAT3 HB3
  go_wp2_with fail
  go_loopw [8] (fun s8 wr => ∃ (i : Nat) (ys : List (BitVec 8)), i ≤ len + 64 ∧ s8 = .int .i64 (i : Int) ∧ Hid (Own wr w.heap.size (.slice (some ⟨g, 0, none⟩) (len + 64) (len + 64)) ys) ∧ Hid (u4.grownBy wr (some g))) (fun s8 _ => len + 64 - (intOf s8).toNat)
  case atStart => exact ⟨0, _, Nat.zero_le _, rfl, HO4, World.grownBy.refl _ _⟩
  case round =>
    clear HO4
    obtain ⟨i, ys, hi, rfl, HO, HG⟩ := hrel
    by_cases hlt : (i : Int) < (len : Int) + 64
    · have c1 := HO.out.cell i (by omega)
      have f1 := HO.out.frozen i
      have HST := hide (HO.out.store i 255)
      have hin : (i : Int) < ((len + 64 : Nat) : Int) := by omega
      generalize ys.getD i 0 = old at c1
      go_wp2_with fail
      go_roundw
      case measure => simp [intOf]; omega
      case rel => exact ⟨i + 1, _, by omega, by go_num, HST.out.1, grown_trans HG.out HST.out.2⟩
    · have hgle : gc ≠ g := by have := HGC1.out; have := HGL.out; omega
      have hgre : gr ≠ g := by have := HGR1.out; have := HS3.out; have := HS2.out; have := HGL.out; omega
      have HCZ := hide (HCZ4.out.keepG HG.out (fun e => hgle e.symm) (fun a n c p e hr => by have := HDAT4.out a n c p e hr; have := HGL.out; omega))
      have HRZ := hide (HRZ4.out.keepG HG.out (fun e => hgre e.symm) (fun a n c p f er wa hr => by have := HRDAT.out a n c p f er wa hr; have := HS3.out; have := HS2.out; have := HGL.out; omega))
      have HB : Hid (Below w.heap.size w wr) := HB4.out.grown HG.out HB4.out.size (fun i e => by cases e; exact HG1.out)
      have HSW : Hid (u4.heap.size ≤ wr.heap.size) := HG.out.size
      clear HCZ4 HRZ4 HO HG HB4 hi
      go_wp2_with fail
      clear hlt
      obtain ⟨v1, hv1⟩ : ∃ v1, wr.alloc (.cells #[.slice none 0 0, .int .i64 0, .int .i64 0] 32) = v1 := ⟨_, rfl⟩
      obtain ⟨v2, hv2⟩ : ∃ v2, v1.alloc (.cells #[.slice none 0 0, .int .i64 0, .bool false, .int .i64 0, .int .i64 0] 36) = v2 := ⟨_, rfl⟩
      obtain ⟨gz, hgz⟩ : ∃ gz, wr.heap.size = gz := ⟨_, rfl⟩
      have hs1 : v1.heap.size = gz + 1 := by rw [← hv1, ← hgz]; simp
      have hba1 : Below wr.heap.size wr v1 := by rw [← hv1]; exact (Below.refl _ _).alloc (Nat.le_refl _) _
      have hba2 : Below v1.heap.size v1 v2 := by rw [← hv2]; exact (Below.refl _ _).alloc (Nat.le_refl _) _
      have hs2 : v2.heap.size = gz + 2 := by rw [← hv2]; simp [hs1]
      have hz1 : v1.heap[gz]? = some (.cells #[.slice none 0 0, .int .i64 0, .int .i64 0] 32) := by rw [← hv1, ← hgz]; exact heap_alloc_new _ _
      have hn2 : v2.heap[gz + 1]? = some (.cells #[.slice none 0 0, .int .i64 0, .bool false, .int .i64 0, .int .i64 0] 36) := by rw [← hs1, ← hv2]; exact heap_alloc_new _ _
      have hz2 : v2.heap[gz]? = some (.cells #[.slice none 0 0, .int .i64 0, .int .i64 0] 32) := by rw [hba2.block gz (by omega)]; exact hz1
      have HF2 : Hid (Four v2 gc gr gz u2.heap.size u4.heap.size (bs, 0, 0)) := ⟨(HCZ.out.below hba1).below hba2, (HRZ.out.below hba1).below hba2, zero_cz hz2, zero_rz hn2⟩
      have HBV2 := hide (below_trans HB.out (below_trans hba1 hba2))
      have HSV2 : Hid (u4.heap.size ≤ gz) := by show _ ≤ _; rw [← hgz]; exact HSW.out
      have HZV2 : Hid (gz + 2 ≤ v2.heap.size) := by show _ ≤ _; omega
      rw [hv1, hv2, hgz]
      clear hv1 hv2 hs1 hs2 hz1 hn2 hz2 hba1 hba2 HCZ HRZ HB HSW hgz
      obtain ⟨ea, eb, hee⟩ := endS_two (bs, 0, 0)
      obtain ⟨za, zb, hzz⟩ := endS_two ([], 0, 0)
      have HEE := hide hee
      have HZZ := hide hzz
      clear hee hzz
      have q1 : ((len : Int) != (len : Int)) = false := by simp
      have q2 : (ea != ea) = false := by simp
      have q3 : (eb != eb) = false := by simp
      have q4 : (za != za) = false := by simp
      have q5 : (zb != zb) = false := by simp
      refine (cz_rest gc _ _ v2 HF2.out.c).mono ?_
      rintro e v3 ⟨rfl, hb⟩
      have HF3 := hide (HF2.out.below hb)
      have HBV3 := hide (below_trans HBV2.out hb)
      have HZV3 : Hid (gz + 2 ≤ v3.heap.size) := Nat.le_trans HZV2.out hb.size
      clear hb HF2 HBV2 HZV2
      rw [show (((bs, 0, 0) : St).1.length : Nat) = len from HL.out]
      go_wp2_with fail
      refine (rz_rest gr _ _ v3 HF3.out.r).mono ?_
      rintro e v4 ⟨rfl, hb⟩
      have HF4 := hide (HF3.out.below hb)
      have HBV4 := hide (below_trans HBV3.out hb)
      have HZV4 : Hid (gz + 2 ≤ v4.heap.size) := Nat.le_trans HZV3.out hb.size
      clear hb HF3 HBV3 HZV3
      rw [show (((bs, 0, 0) : St).1.length : Nat) = len from HL.out]
      go_wp2_with fail
      refine (cz_end gc _ _ v4 HF4.out.c).mono ?_
      rintro e v5 ⟨rfl, hb⟩
      have HF5 := hide (HF4.out.below hb)
      have HBV5 := hide (below_trans HBV4.out hb)
      have HZV5 : Hid (gz + 2 ≤ v5.heap.size) := Nat.le_trans HZV4.out hb.size
      clear hb HF4 HBV4 HZV4
      rw [HEE.out]
      go_wp2_with fail
      refine (rz_end gr _ _ v5 HF5.out.r).mono ?_
      rintro e v6 ⟨rfl, hb⟩
      have HF6 := hide (HF5.out.below hb)
      have HBV6 := hide (below_trans HBV5.out hb)
      have HZV6 : Hid (gz + 2 ≤ v6.heap.size) := Nat.le_trans HZV5.out hb.size
      clear hb HF5 HBV5 HZV5
      rw [HEE.out]
      go_wp2_with fail
      refine (end_nil v6).mono ?_
      rintro e v7 ⟨rfl, hb⟩
      have HF7 := hide (HF6.out.below hb)
      have HBV7 := hide (below_trans HBV6.out hb)
      have HZV7 : Hid (gz + 2 ≤ v7.heap.size) := Nat.le_trans HZV6.out hb.size
      clear hb HF6 HBV6 HZV6
      go_wp2_with fail
      refine (rend_nil v7).mono ?_
      rintro e v8 ⟨rfl, hb⟩
      have HF8 := hide (HF7.out.below hb)
      have HBV8 := hide (below_trans HBV7.out hb)
      have HZV8 : Hid (gz + 2 ≤ v8.heap.size) := Nat.le_trans HZV7.out hb.size
      clear hb HF7 HBV7 HZV7
      go_wp2_with fail
      refine (cz_end gz _ _ v8 HF8.out.z).mono ?_
      rintro e v9 ⟨rfl, hb⟩
      have HF9 := hide (HF8.out.below hb)
      have HBV9 := hide (below_trans HBV8.out hb)
      have HZV9 : Hid (gz + 2 ≤ v9.heap.size) := Nat.le_trans HZV8.out hb.size
      clear hb HF8 HBV8 HZV8
      rw [HZZ.out]
      go_wp2_with fail
      refine (rz_end (gz + 1) _ _ v9 HF9.out.n).mono ?_
      rintro e v10 ⟨rfl, hb⟩
      have HF10 := hide (HF9.out.below hb)
      have HBV10 := hide (below_trans HBV9.out hb)
      have HZV10 : Hid (gz + 2 ≤ v10.heap.size) := Nat.le_trans HZV9.out hb.size
      clear hb HF9 HBV9 HZV9
      rw [HZZ.out]
      obtain ⟨x0, hx0⟩ : ∃ x0, v10.alloc (.cells #[.slice none 0 0, .slice none 0 0, .slice none 0 0] 42) = x0 := ⟨_, rfl⟩
      obtain ⟨B, hB⟩ : ∃ B, v10.heap.size = B := ⟨_, rfl⟩
      have HTK0 := hide (tk_new hB hx0)
      have hba : Below v10.heap.size v10 x0 := by rw [← hx0]; exact (Below.refl _ _).alloc (Nat.le_refl _) _
      have hBx : B ≤ x0.heap.size := by rw [← hB]; exact hba.size
      have HGB : Hid (gz + 2 ≤ B) := by show _ ≤ _; rw [← hB]; exact HZV10.out
      have HU2 : Hid (u2.heap.size ≤ gz) := by have h1 := HS3.out; have h2 := HS4.out; have h3 := HSV2.out; show _ ≤ _; omega
      have HF0 := hide (HF10.out.below hba)
      have HC0 : Hid (Cz x0 gc B (bs, 0, 0)) := HF0.out.c.wide (by have h1 := HGB.out; have h2 := HU2.out; omega) hBx
      have HR0 : Hid (Rz x0 gr B (bs, 0, 0)) := HF0.out.r.wide (by have h1 := HGB.out; have h2 := HSV2.out; omega) hBx
      have HZ0 : Hid (Cz x0 gz B ([], 0, 0)) := HF0.out.z.wide (Nat.zero_le _) hBx
      have HN0 : Hid (Rz x0 (gz + 1) B ([], 0, 0)) := HF0.out.n.wide (Nat.zero_le _) hBx
      have HBX : Hid (B ≤ x0.heap.size) := hBx
      have HBL := hide (below_trans HBV10.out hba)
      have HWC : Hid (w.heap.size ≤ gc) := by have h1 := HB1.out.size; have h2 := HGC1.out; show _ ≤ _; omega
      have HCR : Hid (gc < gr) := by have h1 := HGC2.out; have h2 := HS3.out; have h3 := HGR1.out; show _ < _; omega
      have HRZG : Hid (gr < gz) := by have h1 := HGR2.out; have h2 := HSV2.out; show _ < _; omega
      have HBS : Hid (((bs, 0, 0) : St).1.length ≤ 1048576) := by show bs.length ≤ _; rw [HL.out]; exact hlen
      clear hba hBx HF0 HF10 HBV10 HZV10 HEE HZZ q1 q2 q3 q4 q5
      go_wp2_with fail
      go_loopw [14] (fun s14 wr => ∃ (i : Nat) (vl vw vg : Value) (es : List En) (s1 s3 : St), i ≤ sn ∧ s14 = .int .i64 (i : Int) ∧ es.length ≤ 3 * i ∧ Hid (TK wr B B vl vw vg es) ∧ Hid (Cz wr gc B s1) ∧ Hid (Rz wr gr B s1) ∧ Hid (Cz wr gz B s3) ∧ Hid (Rz wr (gz + 1) B s3) ∧ Hid (s1.1.length ≤ 1048576) ∧ Hid (s3.1.length ≤ 1048576) ∧ Hid (B ≤ wr.heap.size) ∧ Hid (Below w.heap.size w wr)) (fun s14 _ => sn - (intOf s14).toNat)
      case atStart => exact ⟨0, _, _, _, [], (bs, 0, 0), ([], 0, 0), Nat.zero_le _, rfl, Nat.zero_le _, HTK0, HC0, HR0, HZ0, HN0, HBS, by show ([] : List (BitVec 8)).length ≤ _; simp, HBX, HBL⟩
      case round =>
        clear HTK0 HC0 HR0 HZ0 HN0 HBS HBX HBL
        obtain ⟨i, vl, vw, vg, es, s1, s3, hi, rfl, hes, HT, HC, HR, HZ1, HN, HS1, HS3', HX, HB⟩ := hrel
        by_cases hlt : (i : Int) < (sn : Int)
        · obtain ⟨sb, off, hsa, hsb, hcs⟩ := R1.out.2 (by omega)
          subst hsa
          obtain ⟨p0, p1⟩ := hcs i (by omega)
          obtain ⟨op, hop⟩ : ∃ op, (ps.getD i (0, 0)).1 = op := ⟨_, rfl⟩
          obtain ⟨N, hN⟩ : ∃ N, (ps.getD i (0, 0)).2 = N := ⟨_, rfl⟩
          rw [hop] at p0
          rw [hN] at p1
          have HP : Hid (∀ W, Below w.heap.size w W → W.cell? ⟨sb, off + i * 2, none⟩ = some (.int .i64 op) ∧ W.cell? ⟨sb, off + i * 2 + 1, none⟩ = some (.int .i64 N)) := fun W hW => ⟨(hW.cell (p := ⟨sb, off + i * 2, none⟩) hsb).trans p0, (hW.cell (p := ⟨sb, off + i * 2 + 1, none⟩) hsb).trans p1⟩
          clear hcs p0 p1 hop hN
          have hgcB : gc < B := by have h1 := HCR.out; have h2 := HRZG.out; have h3 := HGB.out; omega
          have hgrB : gr < B := by have h2 := HRZG.out; have h3 := HGB.out; omega
          have hgzB : gz < B := by have h3 := HGB.out; omega
          have hgnB : gz + 1 < B := by have h3 := HGB.out; omega
          have hwB : w.heap.size ≤ B := by have h1 := HWC.out; omega
          have n1 : gc ≠ gr := by have h1 := HCR.out; omega
          have n2 : gz ≠ gz + 1 := by omega
          have n3 : gc ≠ gz := by have h1 := HCR.out; have h2 := HRZG.out; omega
          have n4 : gc ≠ gz + 1 := by have h1 := HCR.out; have h2 := HRZG.out; omega
          have n5 : gr ≠ gz := by have h2 := HRZG.out; omega
          have n6 : gr ≠ gz + 1 := by have h2 := HRZG.out; omega
          have HT1 := hide (told_any B B gc gr B vl vw vg es s1 op N wr HT.out HC.out HR.out HS1.out (by omega) HX.out hgcB hgrB n1 (Nat.le_refl _))
          obtain ⟨y0, y1⟩ := HP.out wr HB.out
          go_wp2_with fail
          refine HT1.out.mono ?_
          rintro e w1 ⟨rfl, vl1, vw1, vg1, es1, t1, k1, k2, k3, k4, k5, k6⟩
          have HC1 := hide k2
          have HR1 := hide k3
          have HTK1 := hide k1
          have HL1 := hide k5
          have HZ2 := hide (HZ1.out.kb k6 HC.out.nob HR.out.nob hgzB (Nat.le_refl _) (fun e => n3 e.symm) (fun e => n5 e.symm))
          have HN2 := hide (HN.out.kb k6 HC.out.nob HR.out.nob hgnB (Nat.le_refl _) (fun e => n4 e.symm) (fun e => n6 e.symm))
          have HX1 : Hid (B ≤ w1.heap.size) := Nat.le_trans HX.out k6.size
          have HB2 := hide (k6.whole HB.out HWC.out (by have h1 := HWC.out; have h2 := HCR.out; omega) hwB)
          have hes1 : es1.length ≤ 3 * i + 1 := by omega
          clear k1 k2 k3 k4 k5 k6 HT HC HR HZ1 HN HX HB HT1 y0 y1
          obtain ⟨y0, y1⟩ := HP.out w1 HB2.out
          have HT2 := hide (none_any B B vl1 vw1 vg1 es1 op N w1 HTK1.out (by omega) HX1.out)
          go_wp2_with fail
          refine HT2.out.mono ?_
          rintro e w2 ⟨rfl, ⟨vl2, vw2, vg2, es2, k1, k4⟩, k6⟩
          have HTK2 := hide k1
          have HC2 := hide (HC1.out.low k6 hgcB (Nat.le_refl _))
          have HR2 := hide (HR1.out.low k6 hgrB (Nat.le_refl _))
          have HZ3 := hide (HZ2.out.low k6 hgzB (Nat.le_refl _))
          have HN3 := hide (HN2.out.low k6 hgnB (Nat.le_refl _))
          have HX2 : Hid (B ≤ w2.heap.size) := Nat.le_trans HX1.out k6.size
          have HB3 : Hid (Below w.heap.size w w2) := HB2.out.trans (k6.mono hwB)
          have hes2 : es2.length ≤ 3 * i + 2 := by omega
          clear k1 k4 k6 HTK1 HC1 HR1 HZ2 HN2 HX1 HB2 HT2 y0 y1
          obtain ⟨y0, y1⟩ := HP.out w2 HB3.out
          have HT3 := hide (told_any B B gz (gz + 1) B vl2 vw2 vg2 es2 s3 op N w2 HTK2.out HZ3.out HN3.out HS3'.out (by omega) HX2.out hgzB hgnB n2 (Nat.le_refl _))
          go_wp2_with fail
          refine HT3.out.mono ?_
          rintro e w3 ⟨rfl, vl3, vw3, vg3, es3, t3, k1, k2, k3, k4, k5, k6⟩
          have HZ4 := hide k2
          have HN4 := hide k3
          have HTK3 := hide k1
          have HL3 := hide k5
          have HC3 := hide (HC2.out.kb k6 HZ3.out.nob HN3.out.nob hgcB (Nat.le_refl _) n3 n4)
          have HR3 := hide (HR2.out.kb k6 HZ3.out.nob HN3.out.nob hgrB (Nat.le_refl _) n5 n6)
          have HX3 : Hid (B ≤ w3.heap.size) := Nat.le_trans HX2.out k6.size
          have HB4' := hide (k6.whole HB3.out (by have h1 := HWC.out; have h2 := HCR.out; have h3 := HRZG.out; omega) (by have h1 := HWC.out; have h2 := HCR.out; have h3 := HRZG.out; omega) hwB)
          have hes3 : es3.length ≤ 3 * (i + 1) := by omega
          clear k1 k2 k3 k4 k5 k6 HTK2 HC2 HR2 HZ3 HN3 HX2 HB3 HT3 y0 y1
          have HST := hide (stands_any B B vl3 vw3 vg3 es3 w3 HTK3.out (by omega))
          go_wp2_with fail
          refine HST.out.mono ?_
          rintro e w4 ⟨rfl, hb⟩
          have HTK4 := hide (HTK3.out.below hb)
          have HC4 := hide (HC3.out.below hb)
          have HR4 := hide (HR3.out.below hb)
          have HZ5 := hide (HZ4.out.below hb)
          have HN5 := hide (HN4.out.below hb)
          have HX4 : Hid (B ≤ w4.heap.size) := Nat.le_trans HX3.out hb.size
          have HB5 := hide (below_trans HB4'.out hb)
          clear hb HST HTK3 HC3 HR3 HZ4 HN4 HX3 HB4'
          go_wp2_with fail
          go_roundw
          case measure => simp [intOf]; omega
          case rel => exact ⟨i + 1, vl3, vw3, vg3, es3, t1, t3, by omega, by go_num, hes3, HTK4, HC4, HR4, HZ5, HN5, HL1, HL3, HX4, HB5⟩
        · have HEN := hide (ends_any B B vl vw vg es wr HT.out (by omega) HX.out)
          have hwB : w.heap.size ≤ B := by have h1 := HWC.out; have h2 := HCR.out; have h3 := HRZG.out; have h4 := HGB.out; omega
          go_wp2_with fail
          refine HEN.out.mono ?_
          rintro e w1 ⟨rfl, hb⟩
          have HBE : Hid (Below w.heap.size w w1) := HB.out.trans (hb.mono hwB)
          clear hb HEN
          go_wp2_with fail
          go_ret
          exact ⟨rfl, HBE.out⟩
end Go.Proofs.Ytcchknpgkcmneaa.numsCursor
