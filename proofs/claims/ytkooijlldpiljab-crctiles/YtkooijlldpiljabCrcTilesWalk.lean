/-
  The walk of the statement CrcTiles.
-/
import Derived.Test.YtkooijlldpiljabCrcRefTile
namespace Go.Proofs.Ytkooijlldpiljab.crcTiles
open Go.ChangeShapes Go.WideShapes Go.ChangeAt Go.RowKit
open Go.Proofs.Ytkooijlldpiljab.Crc
set_option linter.unusedVariables false
theorem take_padded (bs : List (BitVec 8)) : (padded bs).take bs.length = bs := by simp [padded]
theorem keep {w w' : World} {base : Nat} {v : Value} {bs : List (BitVec 8)} {q : Option Nat} (h : Own w base v bs) (hg : w.grownBy w' q) (hne : ∀ i j, v.ownBlock = some i → q = some j → i ≠ j) : Own w' base v bs := by
  refine World.ownsRow.kept (row := q) h hg ?_
  cases hv : v.ownBlock with
  | none => exact .inl rfl
  | some i => exact .inr (fun e => hne i i hv e.symm rfl)
theorem blk {w : World} {base : Nat} {v : Value} {bs : List (BitVec 8)} (h : Own w base v bs) : ∀ i, v.ownBlock = some i → base ≤ i ∧ i < w.heap.size := fun i e => World.ownsRow.lt h i e
theorem blk_eq {g n c i : Nat} (e : (Value.slice (some ⟨g, 0, none⟩) n c).ownBlock = some i) : i = g := (Option.some.inj e).symm
theorem length_body (bs : List (BitVec 8)) : (openBody bs).length ≤ bs.length := length_openBody bs
set_option maxHeartbeats 4000000 in
theorem walk (a0 : Option Addr) (len0 cap0 : Nat) (b0 : List (BitVec 8)) (w : World) (r0 : Rd w a0 len0 b0) (l0 : len0 ≤ cap0) (m0 : cap0 ≤ 140737488351232) (z0 : a0 = none → len0 = 0 ∧ cap0 = 0) :
    Calls Try.prog 5 #[.slice a0 len0 cap0] w fun e w' => e = .returned (.bool true) ∧ Below w.heap.size w w' := by
  have HL := hide r0.1
  have R0 := hide r0
  have Z0 := hide z0
  have HLB := hide (length_body b0)
  have HLI := hide (length_inc b0)
  have HLC := hide (length_body (inc b0))
  clear r0 z0
  go_enter Try.func5, Try.ntmps5
  go_wp2_with fail
  refine (roomy_any a0 len0 cap0 b0 w R0.out (by omega)).mono ?_
  rintro e w1 ⟨g, rfl, hg, ho, hb1⟩
  have HB1 := hide hb1
  have HF1 := hide ho
  have HI1 := hide (ho.cut len0 (by omega))
  rw [← HL.out, take_padded, HL.out] at HI1
  have hgl := HI1.out.lt'.2
  clear ho hb1
  go_wp2_with fail
  refine (seal_any _ _ _ _ _ (HI1.out.rd (by have := HL.out; omega)) (by intro h; cases h) (by omega)).mono ?_
  rintro e w2 ⟨gt, rfl, hgt, ho2, hb2⟩
  have HB2 := hide (below_trans HB1.out hb2)
  have HF2 := hide (HF1.out.below hb2)
  have HI2 := hide (HI1.out.below hb2)
  have HT2 := hide ho2
  have hgtl := ho2.lt'.2
  have hs12 := hb2.size
  clear ho2 hb2 HB1 HF1 HI1
  go_wp2_with fail
  refine (seal_any _ _ _ _ _ (HI2.out.rd (by have := HL.out; omega)) (by intro h; cases h) (by omega)).mono ?_
  rintro e w3 ⟨gu, rfl, hgu, ho3, hb3⟩
  have HB3 := hide (below_trans HB2.out hb3)
  have HF3 := hide (HF2.out.below hb3)
  have HI3 := hide (HI2.out.below hb3)
  have HT3 := hide (HT2.out.below hb3)
  have HU3 := hide ho3
  have hgul := ho3.lt'.2
  have hs23 := hb3.size
  clear ho3 hb3 HB2 HF2 HI2 HT2
  go_wp2_with fail
  refine (open_fits _ _ _ _ _ (HI3.out.rd (by have := HL.out; omega)) (by omega) (by omega)).mono ?_
  rintro e w4 ⟨vx, rfl, ⟨ax, nx, rfl, hnx, ho4⟩, hb4⟩
  have HNX := hide hnx
  have HB4 := hide (below_trans HB3.out hb4)
  have HF4 := hide (HF3.out.below hb4)
  have HI4 := hide (HI3.out.below hb4)
  have HT4 := hide (HT3.out.below hb4)
  have HU4 := hide (HU3.out.below hb4)
  have HX4 := hide ho4
  have hs34 := hb4.size
  clear ho4 hb4 HB3 HF3 HI3 HT3 HU3 hnx
  go_wp2_with fail
  refine (open_fits _ _ _ _ _ (HI4.out.rd (by have := HL.out; omega)) (by omega) (by omega)).mono ?_
  rintro e w5 ⟨vy, rfl, ⟨ay, ny, rfl, hny, ho5⟩, hb5⟩
  have HNY := hide hny
  have HB5 := hide (below_trans HB4.out hb5)
  have HF5 := hide (HF4.out.below hb5)
  have HI5 := hide (HI4.out.below hb5)
  have HT5 := hide (HT4.out.below hb5)
  have HU5 := hide (HU4.out.below hb5)
  have HX5 := hide (HX4.out.below hb5)
  have HXB := hide (blk HX4.out)
  have HY5 := hide ho5
  have hs45 := hb5.size
  have hsw := HB5.out.size
  clear ho5 hb5 HB4 HF4 HI4 HT4 HU4 HX4 hny
  go_wp2_with fail
  refine (fill_any _ _ _ _ _ _ (by omega) (by omega) HT5.out (by omega)).mono ?_
  rintro e w6 ⟨rfl, hg6⟩
  have HG6 := hide hg6
  have HB6 : Hid (Below w.heap.size w w6) := HB5.out.grown hg6 (by omega) (fun i e => by have := blk_eq e; omega)
  have HF6 := hide (keep HF5.out hg6 (fun i j e1 e2 => by have := blk_eq e1; have := blk_eq e2; omega))
  have HI6 := hide (keep HI5.out hg6 (fun i j e1 e2 => by have := blk_eq e1; have := blk_eq e2; omega))
  have HU6 := hide (keep HU5.out hg6 (fun i j e1 e2 => by have := blk_eq e1; have := blk_eq e2; omega))
  have HX6 := hide (keep HX5.out hg6 (fun i j e1 e2 => by have := blk_eq e2; have := (HXB.out i e1).1; omega))
  have HY6 := hide (keep HY5.out hg6 (fun i j e1 e2 => by have := blk_eq e2; have := (blk HY5.out i e1).1; omega))
  have hs56 := hg6.size
  clear hg6 HG6 HB5 HF5 HI5 HU5 HX5 HY5 HT5
  go_wp2_with fail
  refine (fill_any _ _ _ _ _ _ (by omega) (by omega) HX6.out (by have := HNX.out; have := HLB.out; have := HL.out; omega)).mono ?_
  rintro e w7 ⟨rfl, hg7⟩
  have HB7 : Hid (Below w.heap.size w w7) := HB6.out.grown hg7 (by omega) (fun i e => by have := (HXB.out i e).1; omega)
  have HF7 := hide (keep HF6.out hg7 (fun i j e1 e2 => by have := blk_eq e1; have := (HXB.out j e2).1; omega))
  have HI7 := hide (keep HI6.out hg7 (fun i j e1 e2 => by have := blk_eq e1; have := (HXB.out j e2).1; omega))
  have HU7 := hide (keep HU6.out hg7 (fun i j e1 e2 => by have := blk_eq e1; have := (HXB.out j e2).1; omega))
  have HY7 := hide (keep HY6.out hg7 (fun i j e1 e2 => by have := (blk HY6.out i e1).1; have := (HXB.out j e2).2; omega))
  have hs67 := hg7.size
  clear hg7 HB6 HF6 HI6 HU6 HX6 HY6
  go_wp2_with fail
  refine (refOpen_any _ _ _ _ _ (R0.out.below HB7.out) l0 (by omega)).mono ?_
  rintro e w8 ⟨vw, rfl, ⟨aw, nw, cw, rfl, hnw, ho8⟩, hb8⟩
  have HB8 := hide (below_trans HB7.out hb8)
  have HF8 := hide (HF7.out.below hb8)
  have HI8 := hide (HI7.out.below hb8)
  have HU8 := hide (HU7.out.below hb8)
  have HY8 := hide (HY7.out.below hb8)
  have HW8 := hide ho8
  clear ho8 hb8 HB7 HF7 HI7 HU7 HY7 hnw
  have q1 : decide (tile b0 = tile b0) = true := by simp
  have q2 : decide (openBody b0 = openBody b0) = true := by simp
  have q3 : decide (padded b0 = padded b0) = true := by simp
  have q4 : (((openErr b0 : Nat) : Int) != ((openErr b0 : Nat) : Int)) = false := by simp
  have hnxl : nx ≤ 140737488351232 := by have := HNX.out; have := HLB.out; have := HL.out; omega
  have hxy : nx = ny := by rw [HNX.out, HNY.out]
  subst hxy
  go_wp2_with fail
  refine (refSeal_any _ _ _ _ _ (R0.out.below HB8.out) Z0.out (by omega)).mono ?_
  rintro e w9 ⟨g9, c9, rfl, hg9, ho9, hb9⟩
  have HB9 := hide (below_trans HB8.out hb9)
  have HF9 := hide (HF8.out.below hb9)
  have HI9 := hide (HI8.out.below hb9)
  have HU9 := hide (HU8.out.below hb9)
  have HY9 := hide (HY8.out.below hb9)
  have HW9 := hide (HW8.out.below hb9)
  have HS9 := hide ho9
  clear ho9 hb9 HB8 HF8 HI8 HU8 HY8 HW8
  go_wp2_with fail
  refine (same_any _ _ _ _ _ _ _ _ _ (HU9.out.rd (by rw [length_tile]; have := HL.out; omega)) (HS9.out.rd (by rw [length_tile]; have := HL.out; omega))).mono ?_
  rintro e w10 ⟨rfl, hb10⟩
  have HB10 := hide (below_trans HB9.out hb10)
  have HF10 := hide (HF9.out.below hb10)
  have HI10 := hide (HI9.out.below hb10)
  have HY10 := hide (HY9.out.below hb10)
  have HW10 := hide (HW9.out.below hb10)
  clear hb10 HB9 HF9 HI9 HU9 HY9 HW9 HS9
  go_wp2_with fail
  refine (same_any _ _ _ _ _ _ _ _ _ (Got.rd HY10.out (by have := HLB.out; have := HL.out; omega)) (Got.rd HW10.out (by have := HLB.out; have := HL.out; omega))).mono ?_
  rintro e w11 ⟨rfl, hb11⟩
  have HB11 := hide (below_trans HB10.out hb11)
  have HF11 := hide (HF10.out.below hb11)
  have HI11 := hide (HI10.out.below hb11)
  clear hb11 HB10 HF10 HI10 HY10 HW10
  go_wp2_with fail
  refine (roomy_any a0 len0 cap0 b0 _ (R0.out.below HB11.out) (by omega)).mono ?_
  rintro e w12 ⟨g12, rfl, hg12, ho12, hb12⟩
  have HB12 := hide (below_trans HB11.out hb12)
  have HF12 := hide (HF11.out.below hb12)
  have HI12 := hide (HI11.out.below hb12)
  have HM12 := hide ho12
  clear ho12 hb12 HB11 HF11 HI11
  go_wp2_with fail
  refine (same_any _ _ _ _ _ _ _ _ _ (HF12.out.rd (by rw [length_padded]; have := HL.out; omega)) (HM12.out.rd (by rw [length_padded]; have := HL.out; omega))).mono ?_
  rintro e w13 ⟨rfl, hb13⟩
  have HB13 := hide (below_trans HB12.out hb13)
  have HI13 := hide (HI12.out.below hb13)
  clear hb13 HB12 HF12 HI12 HM12
  go_wp2_with fail
  refine (roomy_any a0 len0 cap0 b0 _ (R0.out.below HB13.out) (by omega)).mono ?_
  rintro e w14 ⟨h, rfl, hh, ho14, hb14⟩
  have HB14 := hide (below_trans HB13.out hb14)
  have HI14 := hide (HI13.out.below hb14)
  have HK14 := hide (ho14.cut len0 (by omega))
  rw [← HL.out, take_padded, HL.out] at HK14
  have hgh := HI13.out.lt'
  clear hb14 ho14 HB13 HI13
  go_wp2_with fail
  refine (next_any _ _ _ _ _ _ HK14.out (by omega)).mono ?_
  rintro e w15 ⟨rfl, ho15, hg15⟩
  have hsw14 := HB14.out.size
  have HB15 := hide (grown_below HB14.out hg15 (by omega))
  have HI15 := hide (HI14.out.other hg15 (by omega))
  have HK15 := hide ho15
  clear ho15 hg15 HB14 HI14 HK14
  go_wp2_with fail
  refine (next_any _ _ _ _ _ _ HI15.out (by omega)).mono ?_
  rintro e w16 ⟨rfl, ho16, hg16⟩
  have HB16 := hide (grown_below HB15.out hg16 (by omega))
  have HI16 := hide ho16
  have HK16 := hide (HK15.out.other hg16 (by omega))
  clear ho16 hg16 HB15 HI15 HK15
  go_wp2_with fail
  refine (open_any _ _ _ _ _ (HI16.out.rd (by have := HL.out; have := HLI.out; omega)) (by omega) (by omega)).mono ?_
  rintro e w17 ⟨vz, rfl, ⟨az, nz, cz, rfl, hnz, ho17⟩, hb17⟩
  have HB17 := hide (below_trans HB16.out hb17)
  have HI17 := hide (HI16.out.below hb17)
  have HK17 := hide (HK16.out.below hb17)
  have HZ17 := hide ho17
  clear ho17 hb17 HB16 HI16 HK16 hnz
  go_wp2_with fail
  refine (refOpen_any _ _ _ _ _ (HK17.out.rd (by have := HL.out; have := HLI.out; omega)) (by omega) (by omega)).mono ?_
  rintro e w18 ⟨vl, rfl, ⟨al, nl, cl, rfl, hnl, ho18⟩, hb18⟩
  have HB18 := hide (below_trans HB17.out hb18)
  have HI18 := hide (HI17.out.below hb18)
  have HK18 := hide (HK17.out.below hb18)
  have HZ18 := hide (HZ17.out.below hb18)
  have HL18 := hide ho18
  clear ho18 hb18 HB17 HI17 HK17 HZ17 hnl
  have p1 : decide (tile (inc b0) = tile (inc b0)) = true := by simp
  have p2 : decide (openBody (inc b0) = openBody (inc b0)) = true := by simp
  have p3 : (((openErr (inc b0) : Nat) : Int) == ((openErr (inc b0) : Nat) : Int)) = true := by simp
  go_wp2_with fail
  refine (seal_any _ _ _ _ _ (HI18.out.rd (by have := HL.out; have := HLI.out; omega)) (by intro h; cases h) (by omega)).mono ?_
  rintro e w19 ⟨g19, rfl, hg19, ho19, hb19⟩
  have HB19 := hide (below_trans HB18.out hb19)
  have HK19 := hide (HK18.out.below hb19)
  have HZ19 := hide (HZ18.out.below hb19)
  have HL19 := hide (HL18.out.below hb19)
  have HS19 := hide ho19
  clear ho19 hb19 HB18 HI18 HK18 HZ18 HL18
  go_wp2_with fail
  refine (refSeal_any _ _ _ _ _ (HK19.out.rd (by have := HL.out; have := HLI.out; omega)) (by intro h; cases h) (by omega)).mono ?_
  rintro e w20 ⟨g20, c20, rfl, hg20, ho20, hb20⟩
  have HB20 := hide (below_trans HB19.out hb20)
  have HZ20 := hide (HZ19.out.below hb20)
  have HL20 := hide (HL19.out.below hb20)
  have HS20 := hide (HS19.out.below hb20)
  have HV20 := hide ho20
  clear ho20 hb20 HB19 HK19 HZ19 HL19 HS19
  go_wp2_with fail
  refine (same_any _ _ _ _ _ _ _ _ _ (HS20.out.rd (by rw [length_tile]; have := HL.out; have := HLI.out; omega)) (HV20.out.rd (by rw [length_tile]; have := HL.out; have := HLI.out; omega))).mono ?_
  rintro e w21 ⟨rfl, hb21⟩
  have HB21 := hide (below_trans HB20.out hb21)
  have HZ21 := hide (HZ20.out.below hb21)
  have HL21 := hide (HL20.out.below hb21)
  clear hb21 HB20 HZ20 HL20 HS20 HV20
  go_wp2_with fail
  refine (same_any _ _ _ _ _ _ _ _ _ (Got.rd HZ21.out (by have := HLC.out; have := HL.out; have := HLI.out; omega)) (Got.rd HL21.out (by have := HLC.out; have := HL.out; have := HLI.out; omega))).mono ?_
  rintro e w22 ⟨rfl, hb22⟩
  have HB22 := hide (below_trans HB21.out hb22)
  clear hb22 HB21 HZ21 HL21
  go_wp2_with fail
  go_ret
  exact ⟨rfl, HB22.out⟩
end Go.Proofs.Ytkooijlldpiljab.crcTiles
