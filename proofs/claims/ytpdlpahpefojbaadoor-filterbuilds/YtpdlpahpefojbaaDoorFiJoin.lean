/-
  Join, at any two filters.
-/
import Derived.Test.YtpdlpahpefojbaaDoorFiUnion
import Derived.Deep.RegionHeld
namespace Go.Proofs.YtpdlpahpefojbaaDoor.Filt
open Go.ChangeShapes Go.WideShapes Go.ChangeAt Go.RowKit
open Go.Proofs.YtpdlpahpefojbaaDoor.Base
set_option linter.unusedVariables false
def jcells : List Value := [.int .i64 0, .int .i64 1, .int .i64 1, .int .i64 0, .int .i64 0, .int .i64 0, .int .i64 0, .int .i64 1, .int .i64 2]
/-- The table of joinings lies in the variable's cells. -/
def JAt (w : World) : Prop := 0 < w.heap.size ∧ ∀ i, i < 9 → w.cell? ⟨0, i, none⟩ = jcells[i]?
theorem jat_below {w w' : World} (h : JAt w) (hb : Below w.heap.size w w') : JAt w' :=
  ⟨Nat.lt_of_lt_of_le h.1 hb.size, fun i hi => by rw [hb.cell (p := ⟨0, i, none⟩) h.1]; exact h.2 i hi⟩
/-- A filter in words. -/
structure Fw where
  all : Bool
  hashes : Int
  data : List (BitVec 8)
def Fw.kind (f : Fw) : Int := kindN f.all f.hashes f.data.length
def zeroF : Fw := ⟨false, 0, []⟩
/-- What Join answers. -/
def joined (a b : Fw) : Fw × Int :=
  if a.kind = 3 ∨ b.kind = 3 then (zeroF, 70)
  else if a.kind = 1 ∨ b.kind = 1 then (⟨true, 0, []⟩, 0)
  else if a.kind = 0 then (b, 0)
  else if b.kind = 0 then (a, 0)
  else if a.hashes ≠ b.hashes ∨ a.data.length ≠ b.data.length then (zeroF, 3)
  else (⟨false, a.hashes, orZip a.data b.data⟩, 0)
theorem kind_range (A : Bool) (H : Int) (n : Nat) : kindN A H n = 0 ∧ (A = false ∧ H = 0 ∧ n = 0) ∨ kindN A H n = 1 ∧ (A = true ∧ H = 0 ∧ n = 0) ∨ kindN A H n = 2 ∧ (A = false ∧ 1 ≤ H ∧ H ≤ 8 ∧ 1 ≤ n ∧ n ≤ 4096) ∨ kindN A H n = 3 := by
  unfold kindN
  by_cases h0 : A = false ∧ H = 0 ∧ n = 0
  · rw [if_pos h0]; exact .inl ⟨rfl, h0⟩
  · rw [if_neg h0]
    by_cases h1 : A = true ∧ H = 0 ∧ n = 0
    · rw [if_pos h1]; exact .inr (.inl ⟨rfl, h1⟩)
    · rw [if_neg h1]
      by_cases h2 : A = false ∧ 1 ≤ H ∧ H ≤ 8 ∧ 1 ≤ n ∧ n ≤ 4096
      · rw [if_pos h2]; exact .inr (.inr (.inl ⟨rfl, h2⟩))
      · rw [if_neg h2]; exact .inr (.inr (.inr rfl))
theorem fw_zero {A : Bool} {H : Int} {xs : List (BitVec 8)} (h : kindN A H xs.length = 0) : (⟨A, H, xs⟩ : Fw) = ⟨false, 0, []⟩ := by
  rcases kind_range A H xs.length with ⟨_, h1, h2, h3⟩ | ⟨e, _⟩ | ⟨e, _⟩ | e
  · rw [h1, h2, List.length_eq_zero_iff.1 h3]
  all_goals omega
theorem fw_one {A : Bool} {H : Int} {xs : List (BitVec 8)} (h : kindN A H xs.length = 1) : (⟨A, H, xs⟩ : Fw) = ⟨true, 0, []⟩ := by
  rcases kind_range A H xs.length with ⟨e, _⟩ | ⟨_, h1, h2, h3⟩ | ⟨e, _⟩ | e
  · omega
  · rw [h1, h2, List.length_eq_zero_iff.1 h3]
  all_goals omega
theorem join_tab (A : Bool) (H : Int) (xs : List (BitVec 8)) (B : Bool) (G : Int) (ys : List (BitVec 8)) (i j : Nat) (hi : kindN A H xs.length = (i : Int)) (hj : kindN B G ys.length = (j : Int)) (h3 : i < 3) (h4 : j < 3) :
    ∃ t : Nat, jcells[i * 3 + j]? = some (.int .i64 (t : Int)) ∧ (t = 0 ∧ joined ⟨A, H, xs⟩ ⟨B, G, ys⟩ = (⟨A, H, xs⟩, 0) ∨ t = 1 ∧ joined ⟨A, H, xs⟩ ⟨B, G, ys⟩ = (⟨B, G, ys⟩, 0) ∨
      t = 2 ∧ i = 2 ∧ j = 2 ∧ joined ⟨A, H, xs⟩ ⟨B, G, ys⟩ = if H ≠ G ∨ xs.length ≠ ys.length then (zeroF, 3) else (⟨false, H, orZip xs ys⟩, 0)) := by
  have e : joined ⟨A, H, xs⟩ ⟨B, G, ys⟩ = if (i : Int) = 1 ∨ (j : Int) = 1 then (⟨true, 0, []⟩, 0) else if (i : Int) = 0 then (⟨B, G, ys⟩, 0) else if (j : Int) = 0 then (⟨A, H, xs⟩, 0) else if H ≠ G ∨ xs.length ≠ ys.length then (zeroF, 3) else (⟨false, H, orZip xs ys⟩, 0) := by
    unfold joined Fw.kind
    simp only [hi, hj]
    rw [if_neg (by omega)]
  rw [e]
  match i, j, h3, h4 with
  | 0, 0, _, _ => exact ⟨0, rfl, .inl ⟨rfl, by rw [if_neg (by omega), if_pos (by omega), fw_zero hi, fw_zero hj]⟩⟩
  | 0, 1, _, _ => exact ⟨1, rfl, .inr (.inl ⟨rfl, by rw [if_pos (by omega), fw_one hj]⟩)⟩
  | 0, 2, _, _ => exact ⟨1, rfl, .inr (.inl ⟨rfl, by rw [if_neg (by omega), if_pos (by omega)]⟩)⟩
  | 1, 0, _, _ => exact ⟨0, rfl, .inl ⟨rfl, by rw [if_pos (by omega), fw_one hi]⟩⟩
  | 1, 1, _, _ => exact ⟨0, rfl, .inl ⟨rfl, by rw [if_pos (by omega), fw_one hi]⟩⟩
  | 1, 2, _, _ => exact ⟨0, rfl, .inl ⟨rfl, by rw [if_pos (by omega), fw_one hi]⟩⟩
  | 2, 0, _, _ => exact ⟨0, rfl, .inl ⟨rfl, by rw [if_neg (by omega), if_neg (by omega), if_pos (by omega)]⟩⟩
  | 2, 1, _, _ => exact ⟨1, rfl, .inr (.inl ⟨rfl, by rw [if_pos (by omega), fw_one hj]⟩)⟩
  | 2, 2, _, _ => exact ⟨2, rfl, .inr (.inr ⟨rfl, rfl, rfl, by rw [if_neg (by omega), if_neg (by omega), if_neg (by omega)]⟩)⟩
set_option maxHeartbeats 1000000 in
set_option maxRecDepth 100000 in
theorem join_any (A : Bool) (H : Int) (a : Option Addr) (len cap : Nat) (xs : List (BitVec 8)) (B : Bool) (G : Int) (b : Option Addr) (n c : Nat) (ys : List (BitVec 8)) (w : World) (hK : KAt w) (hJ : JAt w) (hx : Rd w a len xs) (hy : Rd w b n ys) (hna : a = none → len = 0 ∧ cap = 0) (hnb : b = none → n = 0 ∧ c = 0) :
    Calls Tryd.prog 9 #[.agg #[.bool A, .int .i64 H, .slice a len cap], .agg #[.bool B, .int .i64 G, .slice b n c]] w fun e w' => ∃ v, e = .returned (.tuple #[.agg #[.bool (joined ⟨A, H, xs⟩ ⟨B, G, ys⟩).1.all, .int .i64 (joined ⟨A, H, xs⟩ ⟨B, G, ys⟩).1.hashes, v], .int .i64 (joined ⟨A, H, xs⟩ ⟨B, G, ys⟩).2]) ∧ Own w' w.heap.size v (joined ⟨A, H, xs⟩ ⟨B, G, ys⟩).1.data ∧ Below w.heap.size w w' := by
  obtain ⟨J, hJJ⟩ : ∃ J, joined ⟨A, H, xs⟩ ⟨B, G, ys⟩ = J := ⟨_, rfl⟩
  rw [hJJ]
  have HJD := hide hJJ
  clear hJJ
  obtain ⟨K, hK0⟩ : ∃ K, kindN = K := ⟨_, rfl⟩
  have HKN := hide hK0
  clear hK0
  obtain ⟨w0, u0, w1, ga, gb, r, e0, e1, e2, s0, s1, s2, HLT, HA, HBB, HR, HB⟩ := trio A H (.slice a len cap) B G (.slice b n c) w
  have a0 := HA.out.c0
  have a1 := HA.out.c1
  have a2 := HA.out.c2
  have b0 := HBB.out.c0
  have b1 := HBB.out.c1
  have b2 := HBB.out.c2
  have HS := hide s0
  have HX := hide (hx.below HB.out)
  have HY := hide (hy.below HB.out)
  have HYL := hide hy.1
  have HXL := hide hx.1
  have hlm : len ≤ 9223372036854775807 := by have := hx.2.1; omega
  have hnm : n ≤ 9223372036854775807 := by have := hy.2.1; omega
  have HKK := hide (kat_below hK HB.out)
  have HJJ := hide (jat_below hJ HB.out)
  clear hx hy hK hJ
  have HC : Hid (∀ (A : Bool) (H : Int) (a : Option Addr) (len cap : Nat) W, len ≤ 9223372036854775807 → Below w1.heap.size w1 W → Calls Tryd.prog 31 #[.agg #[.bool A, .int .i64 H, .slice a len cap]] W fun e w' => e = .returned (.int .i64 (K A H len)) ∧ Below w1.heap.size w1 w') := fun A H a len cap W hl hW =>
    (kind_any A H a len cap W (kat_below HKK.out hW) hl).mono fun e w' ⟨h1, h2⟩ => ⟨by rw [h1, HKN.out], hW.trans (h2.mono hW.size)⟩
  go_enter Tryd.func9, Tryd.ntmps9
  go_wp2_with fail
  go_region_held (fun V => V.cell? ⟨ga, 0, none⟩ = some (.bool A) ∧ V.cell? ⟨ga, 1, none⟩ = some (.int .i64 H) ∧ V.cell? ⟨ga, 2, none⟩ = some (.slice a len cap) ∧ V.cell? ⟨gb, 0, none⟩ = some (.bool B) ∧ V.cell? ⟨gb, 1, none⟩ = some (.int .i64 G) ∧ V.cell? ⟨gb, 2, none⟩ = some (.slice b n c)) (go_keep)
    (first
      | (go_at_call 31; refine (HC.out _ _ _ _ _ _ (by assumption) (by first | exact HGq.out | exact HGq.out.drew | exact (Below.refl _ _).drew)).mono ?_; rintro e wq ⟨rfl, hq⟩; have HGq := hide hq; have k0 := (hq.cell (p := ⟨ga, 0, none⟩) HA.out.lt).trans HA.out.c0; have k1 := (hq.cell (p := ⟨ga, 1, none⟩) HA.out.lt).trans HA.out.c1; have k2 := (hq.cell (p := ⟨ga, 2, none⟩) HA.out.lt).trans HA.out.c2; have l0 := (hq.cell (p := ⟨gb, 0, none⟩) HBB.out.lt).trans HBB.out.c0; have l1 := (hq.cell (p := ⟨gb, 1, none⟩) HBB.out.lt).trans HBB.out.c1; have l2 := (hq.cell (p := ⟨gb, 2, none⟩) HBB.out.lt).trans HBB.out.c2; clear hq))
  have HRq := hide (HR.out.below HGq.out)
  have HBW : Hid (Below w.heap.size w wq) := HB.out.trans (HGq.out.mono HB.out.size)
  have HXq := hide (HX.out.below HGq.out)
  have HYq := hide (HY.out.below HGq.out)
  have HJq := hide (jat_below HJJ.out HGq.out)
  have HQS : Hid (w.heap.size ≤ wq.heap.size) := HBW.out.size
  have HRS : Hid (w.heap.size ≤ r) := by show _ ≤ r; have := HLT.out; have := HS.out; omega
  have r0 := HRq.out.c0
  have r1 := HRq.out.c1
  have r2 := HRq.out.c2
  have z0 := HRq.out.fz 0
  have z1 := HRq.out.fz 1
  have z2 := HRq.out.fz 2
  have hkA : K A H len = kindN A H xs.length := by rw [HKN.out, HXL.out]
  have hkB : K B G n = kindN B G ys.length := by rw [HKN.out, HYL.out]
  clear HKK HJJ HX HY HGq HB
  try clear HGq
  rw [hkA, hkB]
  have HKA : Hid (∃ i : Nat, kindN A H xs.length = (i : Int) ∧ i ≤ 3) := by
    rcases kind_range A H xs.length with ⟨e, _⟩ | ⟨e, _⟩ | ⟨e, _⟩ | e
    · exact ⟨0, e, by omega⟩
    · exact ⟨1, e, by omega⟩
    · exact ⟨2, e, by omega⟩
    · exact ⟨3, e, by omega⟩
  have HKB : Hid (∃ i : Nat, kindN B G ys.length = (i : Int) ∧ i ≤ 3) := by
    rcases kind_range B G ys.length with ⟨e, _⟩ | ⟨e, _⟩ | ⟨e, _⟩ | e
    · exact ⟨0, e, by omega⟩
    · exact ⟨1, e, by omega⟩
    · exact ⟨2, e, by omega⟩
    · exact ⟨3, e, by omega⟩
  obtain ⟨i, hi, hi3⟩ := HKA.out
  obtain ⟨j, hj, hj3⟩ := HKB.out
  rw [hi, hj]
  have HI := hide hi
  have HJ := hide hj
  clear hkA hkB HKA HKB hi hj
  by_cases h3 : i = 3 ∨ j = 3
  · have HE : Hid (J = (zeroF, 70)) := by
      show _ = _
      rw [← HJD.out]
      unfold joined Fw.kind
      simp only [HI.out, HJ.out]
      rw [if_pos (by omega)]
    have HRE := hide (HRq.out.set3 false 0 (.slice none 0 0))
    have HBE := hide (below3 HBW.out (g := r) HRS.out (.bool false) (.int .i64 0) (.slice none 0 0))
    have hc : (((i : Int) == 3) = true) ∨ (((i : Int) == 3) = false ∧ ((j : Int) == 3) = true) := by
      by_cases e : i = 3
      · exact .inl (by rw [e]; rfl)
      · exact .inr ⟨by rw [beq_eq_false_iff_ne]; omega, by rw [beq_iff_eq]; omega⟩
    rcases hc with q1 | ⟨q1, q2⟩
    · go_wp2_with fail
      refine bodyPost_ret (fb_ret2 rfl _ _ r false 0 (.slice none 0 0) rfl HRE.out) rfl ?_
      rw [HE.out]
      exact ⟨_, rfl, own_none _ _, HBE.out⟩
    · go_wp2_with fail
      refine bodyPost_ret (fb_ret2 rfl _ _ r false 0 (.slice none 0 0) rfl HRE.out) rfl ?_
      rw [HE.out]
      exact ⟨_, rfl, own_none _ _, HBE.out⟩
  · obtain ⟨t, ht, hcase⟩ := join_tab A H xs B G ys i j HI.out HJ.out (by omega) (by omega)
    have q1 : ((i : Int) == 3) = false := by rw [beq_eq_false_iff_ne]; omega
    have q2 : ((j : Int) == 3) = false := by rw [beq_eq_false_iff_ne]; omega
    have hi2 : (i : Int) < 3 := by omega
    have hj2 : (j : Int) < 3 := by omega
    have hjc := HJq.out.2 (i * 3 + j) (by omega)
    rw [ht] at hjc
    clear ht
    rcases hcase with ⟨rfl, hE⟩ | ⟨rfl, hE⟩ | ⟨rfl, rfl, rfl, hE⟩
    · have HE : Hid (J = (⟨A, H, xs⟩, 0)) := HJD.out.symm.trans hE
      clear hE
      have p1 : (((0 : Nat) : Int) == 0) = true := rfl
      go_wp2_with fail
      refine (clone_any A H a len cap xs wq HXq.out hna).mono ?_
      rintro e w6 ⟨v, rfl, ho, hb⟩
      have HR6 := hide (HRq.out.below hb)
      have HB6 : Hid (Below w.heap.size w w6) := HBW.out.trans (hb.mono HQS.out)
      obtain ⟨va, vc, rfl⟩ := ho.shape
      generalize xs.length = L at ho ⊢
      have HO6 := hide ho
      have HBLK : Hid (∀ q, (Value.slice va L vc).ownBlock = some q → r < q) := fun q e => by
        have h1 := (World.ownsRow.lt HO6.out q e).1
        have h2 := HRq.out.lt
        omega
      clear ho hb
      have y0 := HR6.out.c0
      have y1 := HR6.out.c1
      have y2 := HR6.out.c2
      have x0 := HR6.out.fz 0
      have x1 := HR6.out.fz 1
      have x2 := HR6.out.fz 2
      have HRE := hide (HR6.out.set3 A H (.slice va L vc))
      have HG5 := hide (grown3 w6 r (.bool A) (.int .i64 H) (.slice va L vc))
      have HBE := hide (below3 HB6.out (g := r) HRS.out (.bool A) (.int .i64 H) (.slice va L vc))
      go_wp2_with fail
      refine bodyPost_ret (fb_ret2 rfl _ _ r A H (.slice va L vc) rfl HRE.out) rfl ?_
      rw [HE.out]
      exact ⟨_, rfl, (keep HO6.out HG5.out (fun q j e1 e2 => by have := HBLK.out q e1; have := Option.some.inj e2; omega)).mono HQS.out, HBE.out⟩
    · have HE : Hid (J = (⟨B, G, ys⟩, 0)) := HJD.out.symm.trans hE
      clear hE
      have p1 : (((1 : Nat) : Int) == 0) = false := rfl
      have p2 : (((1 : Nat) : Int) == 1) = true := rfl
      go_wp2_with fail
      refine (clone_any B G b n c ys wq HYq.out hnb).mono ?_
      rintro e w6 ⟨v, rfl, ho, hb⟩
      have HR6 := hide (HRq.out.below hb)
      have HB6 : Hid (Below w.heap.size w w6) := HBW.out.trans (hb.mono HQS.out)
      obtain ⟨va, vc, rfl⟩ := ho.shape
      generalize ys.length = L at ho ⊢
      have HO6 := hide ho
      have HBLK : Hid (∀ q, (Value.slice va L vc).ownBlock = some q → r < q) := fun q e => by
        have h1 := (World.ownsRow.lt HO6.out q e).1
        have h2 := HRq.out.lt
        omega
      clear ho hb
      have y0 := HR6.out.c0
      have y1 := HR6.out.c1
      have y2 := HR6.out.c2
      have x0 := HR6.out.fz 0
      have x1 := HR6.out.fz 1
      have x2 := HR6.out.fz 2
      have HRE := hide (HR6.out.set3 B G (.slice va L vc))
      have HG5 := hide (grown3 w6 r (.bool B) (.int .i64 G) (.slice va L vc))
      have HBE := hide (below3 HB6.out (g := r) HRS.out (.bool B) (.int .i64 G) (.slice va L vc))
      go_wp2_with fail
      refine bodyPost_ret (fb_ret2 rfl _ _ r B G (.slice va L vc) rfl HRE.out) rfl ?_
      rw [HE.out]
      exact ⟨_, rfl, (keep HO6.out HG5.out (fun q j e1 e2 => by have := HBLK.out q e1; have := Option.some.inj e2; omega)).mono HQS.out, HBE.out⟩
    · have p1 : (((2 : Nat) : Int) == 0) = false := rfl
      have p2 : (((2 : Nat) : Int) == 1) = false := rfl
      have hp : 0 < len ∧ A = false := by
        rcases kind_range A H xs.length with ⟨e, _⟩ | ⟨e, _⟩ | ⟨_, h1, _, _, h2, _⟩ | e
        · have := HI.out; omega
        · have := HI.out; omega
        · have := HXL.out; exact ⟨by omega, h1⟩
        · have := HI.out; omega
      obtain ⟨hp, rfl⟩ := hp
      rw [HXL.out, HYL.out] at hE
      by_cases hne : H ≠ G ∨ len ≠ n
      · rw [if_pos hne] at hE
        have HE : Hid (J = (zeroF, 3)) := HJD.out.symm.trans hE
        have HUB := hide (union_bad false H a len cap B G b n c wq hne)
        clear hE hne
        go_wp2_with fail
        refine HUB.out.mono ?_
        rintro e w6 ⟨rfl, hb⟩
        have HR6 := hide (HRq.out.below hb)
        have HB6 : Hid (Below w.heap.size w w6) := HBW.out.trans (hb.mono HQS.out)
        clear hb
        have y0 := HR6.out.c0
        have y1 := HR6.out.c1
        have y2 := HR6.out.c2
        have x0 := HR6.out.fz 0
        have x1 := HR6.out.fz 1
        have x2 := HR6.out.fz 2
        have HRE := hide (HR6.out.set3 false 0 (.slice none 0 0))
        have HBE := hide (below3 HB6.out (g := r) HRS.out (.bool false) (.int .i64 0) (.slice none 0 0))
        go_wp2_with fail
        refine bodyPost_ret (fb_ret2 rfl _ _ r false 0 (.slice none 0 0) rfl HRE.out) rfl ?_
        rw [HE.out]
        exact ⟨_, rfl, own_none _ _, HBE.out⟩
      · rw [if_neg hne] at hE
        have HE : Hid (J = (⟨false, H, orZip xs ys⟩, 0)) := HJD.out.symm.trans hE
        obtain ⟨rfl, rfl⟩ : H = G ∧ len = n := by
          by_cases e1 : H = G <;> by_cases e2 : len = n <;> simp_all
        have HUB := hide (union_ok false H a len cap xs B b c ys wq HXq.out HYq.out hp hna)
        clear hE hne
        go_wp2_with fail
        refine HUB.out.mono ?_
        rintro e w6 ⟨v, rfl, ho, hb⟩
        have HR6 := hide (HRq.out.below hb)
        have HB6 : Hid (Below w.heap.size w w6) := HBW.out.trans (hb.mono HQS.out)
        obtain ⟨va, vc, rfl⟩ := ho.shape
        generalize (orZip xs ys).length = L at ho ⊢
        have HO6 := hide ho
        have HBLK : Hid (∀ q, (Value.slice va L vc).ownBlock = some q → r < q) := fun q e => by
          have h1 := (World.ownsRow.lt HO6.out q e).1
          have h2 := HRq.out.lt
          omega
        clear ho hb
        have y0 := HR6.out.c0
        have y1 := HR6.out.c1
        have y2 := HR6.out.c2
        have x0 := HR6.out.fz 0
        have x1 := HR6.out.fz 1
        have x2 := HR6.out.fz 2
        have HRE := hide (HR6.out.set3 false H (.slice va L vc))
        have HG5 := hide (grown3 w6 r (.bool false) (.int .i64 H) (.slice va L vc))
        have HBE := hide (below3 HB6.out (g := r) HRS.out (.bool false) (.int .i64 H) (.slice va L vc))
        go_wp2_with fail
        refine bodyPost_ret (fb_ret2 rfl _ _ r false H (.slice va L vc) rfl HRE.out) rfl ?_
        rw [HE.out]
        exact ⟨_, rfl, (keep HO6.out HG5.out (fun q j e1 e2 => by have := HBLK.out q e1; have := Option.some.inj e2; omega)).mono HQS.out, HBE.out⟩
end Go.Proofs.YtpdlpahpefojbaaDoor.Filt
