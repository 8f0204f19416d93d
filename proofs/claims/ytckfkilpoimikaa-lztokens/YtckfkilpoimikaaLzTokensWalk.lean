/-
  The walk of the statement LzTokens.
-/
import Derived.Test.YtckfkilpoimikaaLzK7
import Derived.Test.YtckfkilpoimikaaLzR3
import Derived.Deep.DeepCutAuto
namespace Go.Proofs.Ytckfkilpoimikaa.lzTokens
open Go.ChangeShapes Go.WideShapes Go.ChangeAt Go.RowKit
open Go.Proofs.Ytckfkilpoimikaa.Base Go.Proofs.Ytckfkilpoimikaa.Nums Go.Proofs.Ytckfkilpoimikaa.Lz
set_option linter.unusedVariables false
/-- What is told of tokens: their text and their bytes, by the program and by the document alike. -/
structure Told (ts : List Tok) (X B : List (BitVec 8)) (E F : Int) : Prop where
  ex : ∀ a n c w, TRd w a n ts → Calls Try.prog 17 #[.slice a n c] w fun e w' => ∃ v, e = .returned (.tuple #[v, .int .i64 E]) ∧ Own w' w.heap.size v X ∧ Below w.heap.size w w'
  rex : ∀ a n c w, TRd w a n ts → Calls Try.prog 14 #[.slice a n c] w fun e w' => ∃ v, e = .returned (.tuple #[v, .int .i64 E]) ∧ Own w' w.heap.size v X ∧ Below w.heap.size w w'
  wr : ∀ a n c w, TRd w a n ts → Calls Try.prog 12 #[.slice a n c] w fun e w' => ∃ v, e = .returned (.tuple #[v, .int .i64 F]) ∧ Own w' w.heap.size v B ∧ Below w.heap.size w w'
  rwr : ∀ a n c w, TRd w a n ts → Calls Try.prog 15 #[.slice a n c] w fun e w' => ∃ v, e = .returned (.tuple #[v, .int .i64 F]) ∧ Own w' w.heap.size v B ∧ Below w.heap.size w w'
  xl : X.length ≤ 65536
  bl : B.length ≤ 2000000
theorem told (ts : List Tok) : ∃ X B E F, Told ts X B E F :=
  ⟨(Lz.expanded ts).1, (Lz.written ts).1, ((Lz.expanded ts).2 : Nat), ((Lz.written ts).2 : Nat), fun a n c w h => expand_any a n c ts w h, fun a n c w h => refExpand_any a n c ts w h, fun a n c w h => write_any a n c ts w h, fun a n c w h => refWrite_any a n c ts w h, expanded_len ts, written_len ts⟩
theorem const_trd (w : World) : TRd ((w.alloc (.cells #[.int .u8 97] 5)).alloc (.cells #[.slice (some ⟨w.heap.size, 0, none⟩) 1 1, .int .i64 1, .int .i64 5] 32)) (some ⟨w.heap.size + 1, 0, none⟩) 1 [⟨[97], 1, 5⟩] := by
  have e : (w.alloc (.cells #[.int .u8 97] 5)).heap.size = w.heap.size + 1 := by simp
  have hT := TRow.new (w.alloc (.cells #[.int .u8 97] 5)) (.slice (some ⟨w.heap.size, 0, none⟩) 1 1) 1 5
  rw [e] at hT
  refine ⟨rfl, by omega, fun _ => ⟨_, 0, rfl, by simp, fun i hi => ?_⟩⟩
  obtain rfl : i = 0 := by omega
  refine ⟨some ⟨w.heap.size, 0, none⟩, 1, 1, hT.c0, hT.c1, hT.c2, ?_, Nat.le_refl _, by omega, fun h => by cases h⟩
  exact (rd_new w [97] (0, 0) (by simp)).below ((Below.refl _ _).alloc (Nat.le_refl _) _)
def put3 (W : World) (g i : Nat) (p : Value × Tok) : World := ((W.setCell ⟨g, i * 3, none⟩ p.1).setCell ⟨g, i * 3 + 1, none⟩ (.int .i64 p.2.dist)).setCell ⟨g, i * 3 + 2, none⟩ (.int .i64 p.2.len)
theorem swap_toks {wr W : World} {base g n c : Nat} {qs : List (Value × Tok)} (h : LToks wr base g n c qs) (hW : wr.grownBy W none) (j q : Nat) (hj : j < n) (hq : q < n) {P Q : Value × Tok} (hP : P ∈ qs) (hQ : Q ∈ qs) :
    LToks (put3 (put3 W g j Q) g q P) base g n c ((qs.set j Q).set q P) := by
  have h0 := h.keep hW (by simp) (fun _ _ _ _ => by simp)
  have off : ∀ {W' : World} {ps' : List (Value × Tok)}, LToks W' base g n c ps' → ∀ p, p ∈ ps' → ∀ k, p.1.ownBlock = some k → k ≠ g := fun {W' ps'} hh p hp k e1 e2 => row_lit hh.row (hh.lits p hp).own g rfl (by rw [e1, e2])
  have mP := h0.lits _ hP
  have mQ := h0.lits _ hQ
  have h1 := h0.put j hj _ mQ (off h0 _ hQ) (off h0)
  have hgg : W.grownBy (put3 W g j Q) (some g) := grown_cell (grown_cell (grown_cell (World.grownBy.refl _ _) _ _) _ _) _ _
  exact h1.put q hq _ (mP.keep hgg (fun k e1 e2 => off h0 _ hP k e1 (Option.some.inj e2).symm)) (off h0 _ hP) (off h1)
set_option maxHeartbeats 4000000 in
set_option maxRecDepth 100000 in
theorem walk (a0 : Option Addr) (n c0 : Nat) (ts : List Tok) (w : World) (r0 : TRd w a0 n ts) (hn : n ≤ 3518437208780) (hl : ∀ t, t ∈ ts → t.lit.length ≤ 140737488351232) :
    Calls Try.prog 6 #[.slice a0 n c0] w fun e w' => e = .returned (.bool true) ∧ Below w.heap.size w w' := by
  have R0 := hide r0
  have HL := hide hl
  have hni : (n : Int) ≤ 3518437208780 := by omega
  obtain ⟨X, B, E, F, hT⟩ := told ts
  have HT := hide hT
  obtain ⟨nX, hX⟩ : ∃ m, m = X.length := ⟨_, rfl⟩
  obtain ⟨nB, hB⟩ : ∃ m, m = B.length := ⟨_, rfl⟩
  have HX := hide hX
  have HBn := hide hB
  have hxl : nX ≤ 65536 := by rw [hX]; exact hT.xl
  have hbl : nB ≤ 2000000 := by rw [hB]; exact hT.bl
  have heE : (E == E) = true := by simp
  have heF : (F == F) = true := by simp
  clear r0 hl hT hX hB
  go_enter Try.func6, Try.ntmps6
  go_wp2_with fail
  refine (HT.out.rex a0 n c0 w R0.out).mono ?_
  rintro e w1 ⟨v1, rfl, ho1, hb1⟩
  obtain ⟨a1, m1, c1, rfl, HN1⟩ := own_named ho1
  obtain rfl : m1 = nX := by rw [HX.out]; exact HN1.out
  have HB1 := hide hb1
  have HW1 := hide ho1
  clear hb1 ho1 HN1
  go_wp2_with fail
  refine (HT.out.rwr a0 n c0 w1 (R0.out.below HB1.out)).mono ?_
  rintro e w2 ⟨v2, rfl, ho2, hb2⟩
  obtain ⟨a2, m2, c2, rfl, HN2⟩ := own_named ho2
  obtain rfl : m2 = nB := by rw [HBn.out]; exact HN2.out
  have HB2 := hide (below_trans HB1.out hb2)
  have HW2 := hide (HW1.out.below hb2)
  have HY2 := hide ho2
  clear hb2 ho2 HN2 HB1 HW1
  go_wp2_with fail
  refine (copied_any a0 n c0 ts w2 (R0.out.below HB2.out) (by omega) HL.out).mono ?_
  rintro e w3 ⟨v3, rfl, ps, hk3, hps, hb3⟩
  have HB3 := hide (below_trans HB2.out hb3)
  have HW3 := hide (HW2.out.below hb3)
  have HY3 := hide (HY2.out.below hb3)
  have HK3 := hide hk3
  have HPS := hide hps
  have HKW : Hid (∀ i, (Value.slice a1 m1 c1).ownBlock = some i → i < w2.heap.size) := fun i e => (blk HW2.out i e).2
  have HKY : Hid (∀ i, (Value.slice a2 m2 c2).ownBlock = some i → i < w2.heap.size) := fun i e => (blk HY2.out i e).2
  obtain ⟨a3, n3, c3, rfl, hn3⟩ := hk3.r.named
  have hs2 : w.heap.size ≤ w2.heap.size := HB2.out.size
  have hs3 : w2.heap.size ≤ w3.heap.size := hb3.size
  have HPN : Hid (ps.length = n) := by have h := congrArg List.length hps; rw [List.length_map] at h; show _ = _; rw [h]; exact R0.out.1
  obtain rfl : n3 = n := by rw [← HPN.out]; exact hn3
  clear hk3 hps hb3 hn3 HB2 HW2 HY2
  obtain ⟨iT, hiT, hT0, hT1, hT2⟩ := info_parts infoT
  have HK4 : Hid (KToks (w3.alloc (.cells #[.slice none 0 0, .int .i64 (-77), .int .i64 0] 32)) w2.heap.size (.slice a3 n3 c3) ps) := HK3.out.below ((Below.refl _ _).alloc (Nat.le_refl _) _)
  go_wp2_with (at_builtin; refine wpList_append_own _ rfl _ _ 33 rfl w2.heap.size 32 iT (.agg #[.slice none 0 0, .int .i64 0, .int .i64 0]) 3 40 Try.underlying33 hiT hT0 hT1 hT2 rfl (by omega) (.slice a3 n3 c3) ps.length (cellsOf ps) rfl HK4.out.row ⟨w3.heap.size, 0, none⟩ 1 1 [.slice none 0 0, .int .i64 (-77), .int .i64 0] rfl rfl (tnews w3 _ _ _) (tok_one _ _ _ _ _) (by have := HPN.out; unfold maxLen; omega) (by have := HPN.out; omega) (by simp; omega) ?_
               intro v4 w4 hown4 hg4 _
               obtain ⟨g4, c4, rfl⟩ : ∃ g c, v4 = .slice (some ⟨g, 0, none⟩) (n3 + 1) c := by
                 rcases hown4.2 with ⟨_, e⟩ | ⟨g, c, cur, e, _⟩
                 · omega
                 · exact ⟨g, c, by rw [e, HPN.out]⟩
               have HLT : Hid (LToks w4 w2.heap.size g4 n3 c4 ps) := ⟨by rw [HPN.out] at hown4; exact hown4, HPN.out, fun p hp => (HK4.out.lits p hp).keep hg4 (fun i e1 e2 => row_lit HK4.out.row (HK4.out.lits p hp).own i e2 e1)⟩
               have HB4 : Hid (Below w.heap.size w w4) := (HB3.out.alloc HB3.out.size _).grown hg4 (HB3.out.alloc HB3.out.size _).size (fun i e => by have := (World.ownsRow.lt HK4.out.row i e).1; omega)
               have HW4 : Hid (Own w4 w.heap.size (.slice a1 m1 c1) X) := Base.keep (HW3.out.below ((Below.refl _ _).alloc (Nat.le_refl _) _)) hg4 (fun i j e1 e2 e => by have h1 := HKW.out i e1; have h2 := (World.ownsRow.lt HK4.out.row j e2).1; omega)
               have HY4 : Hid (Own w4 w1.heap.size (.slice a2 m2 c2) B) := Base.keep (HY3.out.below ((Below.refl _ _).alloc (Nat.le_refl _) _)) hg4 (fun i j e1 e2 e => by have h1 := HKY.out i e1; have h2 := (World.ownsRow.lt HK4.out.row j e2).1; omega)
               have hc4 := HLT.out.cap
               have hc4i : (n3 : Int) ≤ (c4 : Int) := by omega
               have hc4n : n3 ≤ c4 := by omega
               clear hown4 hg4)
  have HPM : Hid (∀ p, p ∈ ps → p.2.lit.length ≤ 140737488355328) := fun p hp => by
    have := HL.out p.2 (by rw [← HPS.out]; exact List.mem_map_of_mem hp)
    omega
  have HXR : Hid (∀ wx, LToks wx w2.heap.size g4 n3 c4 ps → TRd wx (some ⟨g4, 0, none⟩) n3 ts) := fun wx h => by
    have := h.trd (by omega) HPM.out
    rwa [HPS.out] at this
  have HGB : Hid (w2.heap.size ≤ g4 ∧ g4 < w4.heap.size) := HLT.out.lt
  have HPB : Hid (∀ p, p ∈ ps → ∀ i, p.1.ownBlock = some i → w2.heap.size ≤ i ∧ i < w4.heap.size) := HLT.out.blocks
  clear HK3 HK4 HB3 HW3 HY3 hiT hT0 hT1 hT2 hs3
  refine (HT.out.ex _ n3 c4 w4 (HXR.out w4 HLT.out)).mono ?_
  rintro e w5 ⟨v5, rfl, ho5, hb5⟩
  obtain ⟨a5, m5, c5, rfl, HN5⟩ := own_named ho5
  obtain rfl : m5 = m1 := by rw [HX.out]; exact HN5.out
  have HB5 := hide (below_trans HB4.out hb5)
  have HW5 := hide (HW4.out.below hb5)
  have HY5 := hide (HY4.out.below hb5)
  have HL5 := hide (HLT.out.below hb5)
  have HP5 := hide ho5
  have HKP : Hid (∀ i, (Value.slice a5 m5 c5).ownBlock = some i → w4.heap.size ≤ i ∧ i < w5.heap.size) := blk ho5
  have hs5 : w4.heap.size ≤ w5.heap.size := hb5.size
  clear hb5 ho5 HN5 HB4 HW4 HY4 HLT
  go_wp2_with fail
  refine (HT.out.ex _ n3 c4 w5 (HXR.out w5 HL5.out)).mono ?_
  rintro e w6 ⟨v6, rfl, ho6, hb6⟩
  obtain ⟨a6, m6, c6, rfl, HN6⟩ := own_named ho6
  obtain rfl : m6 = m5 := by rw [HX.out]; exact HN6.out
  have HB6 := hide (below_trans HB5.out hb6)
  have HW6 := hide (HW5.out.below hb6)
  have HY6 := hide (HY5.out.below hb6)
  have HL6 := hide (HL5.out.below hb6)
  have HP6 := hide (HP5.out.below hb6)
  have HQ6 := hide ho6
  have HKQ : Hid (∀ i, (Value.slice a6 m6 c6).ownBlock = some i → w5.heap.size ≤ i ∧ i < w6.heap.size) := blk ho6
  have hs6 : w5.heap.size ≤ w6.heap.size := hb6.size
  clear hb6 ho6 HN6 HB5 HW5 HY5 HL5 HP5
  go_wp2_with fail
  refine (HT.out.wr _ n3 c4 w6 (HXR.out w6 HL6.out)).mono ?_
  rintro e w7 ⟨v7, rfl, ho7, hb7⟩
  obtain ⟨a7, m7, c7, rfl, HN7⟩ := own_named ho7
  obtain rfl : m7 = m2 := by rw [HBn.out]; exact HN7.out
  have HB7 := hide (below_trans HB6.out hb7)
  have HW7 := hide (HW6.out.below hb7)
  have HY7 := hide (HY6.out.below hb7)
  have HL7 := hide (HL6.out.below hb7)
  have HP7 := hide (HP6.out.below hb7)
  have HQ7 := hide (HQ6.out.below hb7)
  have HR7 := hide ho7
  have HKR : Hid (∀ i, (Value.slice a7 m7 c7).ownBlock = some i → w6.heap.size ≤ i ∧ i < w7.heap.size) := blk ho7
  have hs7 : w6.heap.size ≤ w7.heap.size := hb7.size
  clear hb7 ho7 HN7 HB6 HW6 HY6 HL6 HP6 HQ6
  go_wp2_with fail
  refine (HT.out.wr _ n3 c4 w7 (HXR.out w7 HL7.out)).mono ?_
  rintro e w8 ⟨v8, rfl, ho8, hb8⟩
  obtain ⟨a8, m8, c8, rfl, HN8⟩ := own_named ho8
  obtain rfl : m8 = m7 := by rw [HBn.out]; exact HN8.out
  have HB8 := hide (below_trans HB7.out hb8)
  have HW8 := hide (HW7.out.below hb8)
  have HY8 := hide (HY7.out.below hb8)
  have HL8 := hide (HL7.out.below hb8)
  have HP8 := hide (HP7.out.below hb8)
  have HQ8 := hide (HQ7.out.below hb8)
  have HR8 := hide (HR7.out.below hb8)
  have HS8 := hide ho8
  have HKS : Hid (∀ i, (Value.slice a8 m8 c8).ownBlock = some i → w7.heap.size ≤ i) := own_blk ho8
  have hs8 : w7.heap.size ≤ w8.heap.size := hb8.size
  clear hb8 ho8 HN8 HB7 HW7 HY7 HL7 HP7 HQ7 HR7
  obtain ⟨Xc, Bc, Ec, Fc, hTc⟩ := told [⟨[97], 1, 5⟩]
  have HTC := hide hTc
  clear hTc
  go_wp2_with fail
  have hba9 : Below w8.heap.size w8 ((w8.alloc (.cells #[.int .u8 97] 5)).alloc (.cells #[.slice (some ⟨w8.heap.size, 0, none⟩) 1 1, .int .i64 1, .int .i64 5] 32)) := ((Below.refl _ _).alloc (Nat.le_refl _) _).alloc (by simp) _
  have HBA9 := hide hba9
  clear hba9
  refine (HTC.out.ex _ 1 1 _ (const_trd w8)).mono ?_
  rintro e w9 ⟨v9, rfl, _, hb9'⟩
  have hb9 := below_trans HBA9.out hb9'
  clear hb9' HBA9
  have HB9 := hide (below_trans HB8.out hb9)
  have HW9 := hide (HW8.out.below hb9)
  have HY9 := hide (HY8.out.below hb9)
  have HL9 := hide (HL8.out.below hb9)
  have HP9 := hide (HP8.out.below hb9)
  have HQ9 := hide (HQ8.out.below hb9)
  have HR9 := hide (HR8.out.below hb9)
  have HS9 := hide (HS8.out.below hb9)
  clear hb9 HB8 HW8 HY8 HL8 HP8 HQ8 HR8 HS8
  go_wp2_with fail
  have hba10 : Below w9.heap.size w9 ((w9.alloc (.cells #[.int .u8 97] 5)).alloc (.cells #[.slice (some ⟨w9.heap.size, 0, none⟩) 1 1, .int .i64 1, .int .i64 5] 32)) := ((Below.refl _ _).alloc (Nat.le_refl _) _).alloc (by simp) _
  have HBA10 := hide hba10
  clear hba10
  refine (HTC.out.wr _ 1 1 _ (const_trd w9)).mono ?_
  rintro e w10 ⟨v10, rfl, _, hb10'⟩
  have hb10 := below_trans HBA10.out hb10'
  clear hb10' HBA10 HTC
  have HB10 := hide (below_trans HB9.out hb10)
  have HW10 := hide (HW9.out.below hb10)
  have HY10 := hide (HY9.out.below hb10)
  have HL10 := hide (HL9.out.below hb10)
  have HP10 := hide (HP9.out.below hb10)
  have HQ10 := hide (HQ9.out.below hb10)
  have HR10 := hide (HR9.out.below hb10)
  have HS10 := hide (HS9.out.below hb10)
  clear hb10 HB9 HW9 HY9 HL9 HP9 HQ9 HR9 HS9
  go_wp2_with fail
  refine (sameBytes_eq _ _ _ _ _ _ X _ (Got.rd HP10.out (by have h1 := HT.out.xl; omega)) (Got.rd HW10.out (by have h1 := HT.out.xl; omega))).mono ?_
  rintro e w11 ⟨rfl, hb11⟩
  have HB11 := hide (below_trans HB10.out hb11)
  have HW11 := hide (HW10.out.below hb11)
  have HY11 := hide (HY10.out.below hb11)
  have HL11 := hide (HL10.out.below hb11)
  have HP11 := hide (HP10.out.below hb11)
  have HQ11 := hide (HQ10.out.below hb11)
  have HR11 := hide (HR10.out.below hb11)
  have HS11 := hide (HS10.out.below hb11)
  clear hb11 HB10 HW10 HY10 HL10 HP10 HQ10 HR10 HS10
  go_wp2_with fail
  refine (sameBytes_eq _ _ _ _ _ _ X _ (Got.rd HQ11.out (by have h1 := HT.out.xl; omega)) (Got.rd HW11.out (by have h1 := HT.out.xl; omega))).mono ?_
  rintro e w12 ⟨rfl, hb12⟩
  have HB12 := hide (below_trans HB11.out hb12)
  have HW12 := hide (HW11.out.below hb12)
  have HY12 := hide (HY11.out.below hb12)
  have HL12 := hide (HL11.out.below hb12)
  have HP12 := hide (HP11.out.below hb12)
  have HQ12 := hide (HQ11.out.below hb12)
  have HR12 := hide (HR11.out.below hb12)
  have HS12 := hide (HS11.out.below hb12)
  clear hb12 HB11 HW11 HY11 HL11 HP11 HQ11 HR11 HS11
  go_wp2_with fail
  refine (sameBytes_eq _ _ _ _ _ _ B _ (Got.rd HR12.out (by have h1 := HT.out.bl; omega)) (Got.rd HY12.out (by have h1 := HT.out.bl; omega))).mono ?_
  rintro e w13 ⟨rfl, hb13⟩
  have HB13 := hide (below_trans HB12.out hb13)
  have HW13 := hide (HW12.out.below hb13)
  have HY13 := hide (HY12.out.below hb13)
  have HL13 := hide (HL12.out.below hb13)
  have HP13 := hide (HP12.out.below hb13)
  have HQ13 := hide (HQ12.out.below hb13)
  have HR13 := hide (HR12.out.below hb13)
  have HS13 := hide (HS12.out.below hb13)
  clear hb13 HB12 HW12 HY12 HL12 HP12 HQ12 HR12 HS12
  go_wp2_with fail
  refine (sameBytes_eq _ _ _ _ _ _ B _ (Got.rd HS13.out (by have h1 := HT.out.bl; omega)) (Got.rd HY13.out (by have h1 := HT.out.bl; omega))).mono ?_
  rintro e w14 ⟨rfl, hb14⟩
  have HB14 := hide (below_trans HB13.out hb14)
  have HW14 := hide (HW13.out.below hb14)
  have HY14 := hide (HY13.out.below hb14)
  have HL14 := hide (HL13.out.below hb14)
  have HP14 := hide (HP13.out.below hb14)
  have HQ14 := hide (HQ13.out.below hb14)
  have HR14 := hide (HR13.out.below hb14)
  have HS14 := hide (HS13.out.below hb14)
  clear hb14 HB13 HW13 HY13 HL13 HP13 HQ13 HR13 HS13
  go_wp2_with fail
  refine (full_any 0 _ _ _ X w14 (HP14.out.mono (Nat.zero_le _)) (by omega) (Nat.zero_le _)).mono ?_
  rintro e w15 ⟨rfl, hg15⟩
  have hs4 : w2.heap.size ≤ w4.heap.size := by have := HGB.out; omega
  have HB15 := hide (HB14.out.grown hg15 HB14.out.size (fun i e => by have := (HKP.out i e).1; omega))
  have HW15 := hide (Base.keep HW14.out hg15 (fun i j e1 e2 e => by have h1 := HKW.out i e1; have h2 := (HKP.out j e2).1; omega))
  have HY15 := hide (Base.keep HY14.out hg15 (fun i j e1 e2 e => by have h1 := HKY.out i e1; have h2 := (HKP.out j e2).1; omega))
  have HL15 := hide (HL14.out.keep hg15 (fun e => by have h1 := HGB.out.2; have h2 := (HKP.out _ e).1; omega) (fun p hp i e1 e2 => by have h1 := (HPB.out p hp i e1).2; have h2 := (HKP.out i e2).1; omega))
  have HQ15 := hide (Base.keep HQ14.out hg15 (fun i j e1 e2 e => by have h1 := (HKQ.out i e1).1; have h2 := (HKP.out j e2).2; omega))
  have HR15 := hide (Base.keep HR14.out hg15 (fun i j e1 e2 e => by have h1 := (HKR.out i e1).1; have h2 := (HKP.out j e2).2; omega))
  have HS15 := hide (Base.keep HS14.out hg15 (fun i j e1 e2 e => by have h1 := HKS.out i e1; have h2 := (HKP.out j e2).2; omega))
  clear hg15 HB14 HW14 HY14 HL14 HP14 HQ14 HR14 HS14
  go_wp2_with fail
  refine (full_any 0 _ _ _ B w15 (HR15.out.mono (Nat.zero_le _)) (by omega) (Nat.zero_le _)).mono ?_
  rintro e w16 ⟨rfl, hg16⟩
  have HB16 := hide (HB15.out.grown hg16 HB15.out.size (fun i e => by have := (HKR.out i e).1; omega))
  have HW16 := hide (Base.keep HW15.out hg16 (fun i j e1 e2 e => by have h1 := HKW.out i e1; have h2 := (HKR.out j e2).1; omega))
  have HY16 := hide (Base.keep HY15.out hg16 (fun i j e1 e2 e => by have h1 := HKY.out i e1; have h2 := (HKR.out j e2).1; omega))
  have HL16 := hide (HL15.out.keep hg16 (fun e => by have h1 := HGB.out.2; have h2 := (HKR.out _ e).1; omega) (fun p hp i e1 e2 => by have h1 := (HPB.out p hp i e1).2; have h2 := (HKR.out i e2).1; omega))
  have HQ16 := hide (Base.keep HQ15.out hg16 (fun i j e1 e2 e => by have h1 := (HKQ.out i e1).2; have h2 := (HKR.out j e2).1; omega))
  have HS16 := hide (Base.keep HS15.out hg16 (fun i j e1 e2 e => by have h1 := HKS.out i e1; have h2 := (HKR.out j e2).2; omega))
  have hsum : (((m6 : Int) + 64 + ((m8 : Int) + 64)) == ((m6 : Int) + (m8 : Int) + 128)) = true := by rw [beq_iff_eq]; omega
  have hm6i : (m6 : Int) ≤ 65536 := by omega
  have hm8i : (m8 : Int) ≤ 2000000 := by omega
  clear hg16 HB15 HW15 HY15 HL15 HQ15 HR15 HS15
  go_wp2_with fail
  refine (sameBytes_eq _ _ _ _ _ _ X _ (Got.rd HQ16.out (by have h1 := HT.out.xl; omega)) (Got.rd HW16.out (by have h1 := HT.out.xl; omega))).mono ?_
  rintro e w17 ⟨rfl, hb17⟩
  have HB17 := hide (below_trans HB16.out hb17)
  have HW17 := hide (HW16.out.below hb17)
  have HY17 := hide (HY16.out.below hb17)
  have HL17 := hide (HL16.out.below hb17)
  have HQ17 := hide (HQ16.out.below hb17)
  have HS17 := hide (HS16.out.below hb17)
  clear hb17 HB16 HW16 HY16 HL16 HQ16 HS16
  go_wp2_with fail
  refine (sameBytes_eq _ _ _ _ _ _ B _ (Got.rd HS17.out (by have h1 := HT.out.bl; omega)) (Got.rd HY17.out (by have h1 := HT.out.bl; omega))).mono ?_
  rintro e w18 ⟨rfl, hb18⟩
  have HB18 := hide (below_trans HB17.out hb18)
  have HW18 := hide (HW17.out.below hb18)
  have HY18 := hide (HY17.out.below hb18)
  have HL18 := hide (HL17.out.below hb18)
  have HQ18 := hide (HQ17.out.below hb18)
  have HS18 := hide (HS17.out.below hb18)
  clear hb18 HB17 HW17 HY17 HL17 HQ17 HS17
  go_wp2_with fail
  refine (same_eq _ _ n3 _ _ ts w18 (HXR.out w18 HL18.out) (R0.out.below HB18.out) (by omega)).mono ?_
  rintro e w19 ⟨rfl, hb19⟩
  have HB19 := hide (below_trans HB18.out hb19)
  have HL19 := hide (HL18.out.below hb19)
  clear hb19 HB18 HL18 HW18 HY18 HQ18 HS18 HKW HKY HKP HKQ HKR HKS hsum
  go_wp2_with fail
  go_loopw [17, 18] (fun o i wr => ∃ k : Nat, k ≤ n3 ∧ i = .int .i64 (k : Int) ∧ o = .bool true ∧ Hid (Below w.heap.size w wr) ∧ Hid (LToks wr w2.heap.size g4 n3 c4 ps)) (fun _ i _ => n3 - (intOf i).toNat)
  case atStart => exact ⟨0, Nat.zero_le _, rfl, rfl, HB19, HL19⟩
  case round =>
    clear HB19 HL19
    obtain ⟨k, hk, rfl, rfl, HB, HLR⟩ := hrel
    by_cases hlt : k < n3
    · have hki : (k : Int) < (n3 : Int) := by omega
      obtain ⟨b1, o1, rfl, hb1, hc1⟩ := (R0.out.below HB.out).2.2 (by omega)
      obtain ⟨la, ln, lc, p0, p1, p2, p3, p4, p5, p6⟩ := hc1 k hlt
      have hkp : k < ps.length := by rw [HPN.out]; exact hlt
      have htk : tokAt ts k = (ps[k]).2 := by
        rw [← HPS.out]
        unfold tokAt
        rw [List.getD_eq_getElem?_getD, List.getElem?_map, List.getElem?_eq_getElem hkp]; rfl
      have c0 := HLR.out.cell (k * 3) _ (cellsOf_get ps k hkp).1
      obtain ⟨gq, cq, hq1, hq2⟩ := HLR.out.lits _ (List.getElem_mem hkp)
      have hll := HL.out (tokAt ts k) (by rw [htk, ← HPS.out]; exact List.mem_map_of_mem (List.getElem_mem hkp))
      have hln := p3.1
      rw [hq1] at c0
      rw [← htk] at c0 hq2
      have hcq := hq2.cap
      have hgq4 := HLR.out.lt.2
      have HKT := hide (fun wx (hx : Below wr.heap.size wr wx) => kept_any gq 0 ln cq la lc (tokAt ts k).lit wx (by
        have h := Got.rd (hq2.below hx) (by rw [marked_len]; omega)
        rw [hln] at h
        exact h) (by omega) (p3.below hx) (by omega))
      rw [hln] at c0
      have HDR := hide ((Below.refl wr.heap.size wr).drew)
      clear p1 p2 p3 p4 p5 p6 hc1 htk hq1 hq2 hll hln hcq hkp
      go_wp2_with fail
      go_region_held (fun V => V.cell? ⟨g4, k * 3, none⟩ = some (.slice (some ⟨gq, 0, none⟩) ln cq) ∧ V.cell? ⟨b1, o1 + k * 3, none⟩ = some (.slice la ln lc)) (go_keep) (first
        | (go_at_call 20; refine (HKT.out _ HDR.out).mono ?_; rintro e w20 ⟨rfl, hb20⟩; have hbb := below_trans HDR.out hb20; have HB20 := hide hbb; have a0 : w20.cell? ⟨g4, k * 3, none⟩ = some (.slice (some ⟨gq, 0, none⟩) ln cq) := (hbb.cell (p := ⟨g4, k * 3, none⟩) hgq4).trans c0; have a1 : w20.cell? ⟨b1, o1 + k * 3, none⟩ = some (.slice la ln lc) := (hbb.cell (p := ⟨b1, o1 + k * 3, none⟩) hb1).trans p0; clear hb20 hbb))
      all_goals
        go_wp2_with fail
        go_roundw
        case rel => exact ⟨k + 1, by omega, by go_num, rfl, below_trans HB.out HB20.out, HLR.out.below HB20.out⟩
        case measure => simp [intOf]; omega
    · have hki : ¬ (k : Int) < (n3 : Int) := by omega
      obtain ⟨l0, l1, l2⟩ := HLR.out.last
      have hnn : (n3 : Int) < (n3 : Int) + 1 := by omega
      go_wp2_with fail
      refine (HT.out.ex _ n3 c4 wr (HXR.out wr HLR.out)).mono ?_
      rintro e w21 ⟨v21, rfl, _, hb21⟩
      have HB21 := hide (below_trans HB.out hb21)
      have HL21 := hide (HLR.out.below hb21)
      clear hb21 HB HLR l0 l1 l2 hki hnn
      go_wp2_with fail
      refine (HT.out.wr _ n3 c4 w21 (HXR.out w21 HL21.out)).mono ?_
      rintro e w22 ⟨v22, rfl, _, hb22⟩
      have HB22 := hide (below_trans HB21.out hb22)
      have HL22 := hide (HL21.out.below hb22)
      clear hb22 HB21 HL21
      go_wp2_with fail
      go_loopw [19] (fun i wz => ∃ (j : Nat) (qs : List (Value × Tok)), j ≤ n3 ∧ i = .int .i64 (j : Int) ∧ Hid (∀ p, p ∈ qs → p ∈ ps) ∧ Hid (LToks wz w2.heap.size g4 n3 c4 qs) ∧ Hid (Below w.heap.size w wz)) (fun i _ => n3 - (intOf i).toNat)
      case atStart => exact ⟨0, ps, Nat.zero_le _, rfl, fun p hp => hp, HL22, HB22⟩
      case round =>
        clear HB22 HL22
        obtain ⟨j, qs, hj, rfl, HSUB, HLR, HB⟩ := hrel
        by_cases hlt2 : (j : Int) < (n3 : Int) / 2
        · obtain ⟨q, hq⟩ : ∃ q : Nat, (n3 : Int) - 1 - (j : Int) = (q : Int) := ⟨n3 - 1 - j, by omega⟩
          have hqn : (q : Int) < (n3 : Int) := by omega
          have hjn : (j : Int) < (n3 : Int) := by omega
          have hjq : j ≠ q := by omega
          have hjl : j < qs.length := by rw [HLR.out.len]; omega
          have hql : q < qs.length := by rw [HLR.out.len]; omega
          obtain ⟨s0, s1, s2⟩ := cellsOf_get qs j hjl
          obtain ⟨t0, t1, t2⟩ := cellsOf_get qs q hql
          have x0 := HLR.out.cell _ _ s0
          have x1 := HLR.out.cell _ _ s1
          have x2 := HLR.out.cell _ _ s2
          have y0 := HLR.out.cell _ _ t0
          have y1 := HLR.out.cell _ _ t1
          have y2 := HLR.out.cell _ _ t2
          have f0 := HLR.out.frozen (j * 3)
          have f1 := HLR.out.frozen (j * 3 + 1)
          have f2 := HLR.out.frozen (j * 3 + 2)
          have f3 := HLR.out.frozen (q * 3)
          have f4 := HLR.out.frozen (q * 3 + 1)
          have f5 := HLR.out.frozen (q * 3 + 2)
          have HMJ := hide (HLR.out.lits _ (List.getElem_mem hjl))
          have HMQ := hide (HLR.out.lits _ (List.getElem_mem hql))
          obtain ⟨PJ, hPJ⟩ : ∃ P, qs[j] = P := ⟨_, rfl⟩
          obtain ⟨PQ, hPQ⟩ : ∃ P, qs[q] = P := ⟨_, rfl⟩
          have HMEM : Hid (PJ ∈ qs ∧ PQ ∈ qs) := by rw [← hPJ, ← hPQ]; exact ⟨List.getElem_mem hjl, List.getElem_mem hql⟩
          rw [hPJ] at x0 x1 x2 HMJ
          rw [hPQ] at y0 y1 y2 HMQ
          have hg4w := HLR.out.lt.2
          have hgne : g4 ≠ wr.heap.size := by omega
          obtain ⟨U, T⟩ := PJ
          obtain ⟨V, S⟩ := PQ
          simp only at x0 x1 x2 y0 y1 y2
          have hMJ := HMJ.out
          have hMQ := HMQ.out
          obtain ⟨gu, cu, hU, _⟩ := hMJ
          obtain ⟨gv, cv, hV, _⟩ := hMQ
          simp only at hU hV
          subst hU hV
          have HSWAP := hide (fun W hW => swap_toks (W := W) HLR.out hW j q (by omega) (by omega) HMEM.out.1 HMEM.out.2)
          simp only [put3] at HSWAP
          clear s0 s1 s2 t0 t1 t2 hPJ hPQ hjl hql HMJ HMQ
          have hgw : w.heap.size ≤ g4 := Nat.le_trans hs2 HGB.out.1
          have HSUB2 : Hid (∀ p, p ∈ (qs.set j (.slice (some ⟨gv, 0, none⟩) S.lit.length cv, S)).set q (.slice (some ⟨gu, 0, none⟩) T.lit.length cu, T) → p ∈ ps) := fun p hp => by
            rcases List.mem_or_eq_of_mem_set hp with hp | rfl
            · rcases List.mem_or_eq_of_mem_set hp with hp | rfl
              · exact HSUB.out p hp
              · exact HSUB.out _ HMEM.out.2
            · exact HSUB.out _ HMEM.out.1
          go_wp2_with fail
          go_roundw
          case rel =>
            refine ⟨j + 1, _, by omega, by go_num, HSUB2, (HSWAP.out wr (World.grownBy.refl _ _)).below ((Below.refl _ _).alloc (Nat.le_refl _) _), ?_⟩
            have hbb := (((((HB.out.setCell (p := ⟨g4, j * 3, none⟩) hgw (.slice (some ⟨gv, 0, none⟩) S.lit.length cv)).setCell (p := ⟨g4, j * 3 + 1, none⟩) hgw (.int .i64 S.dist)).setCell (p := ⟨g4, j * 3 + 2, none⟩) hgw (.int .i64 S.len)).setCell (p := ⟨g4, q * 3, none⟩) hgw (.slice (some ⟨gu, 0, none⟩) T.lit.length cu)).setCell (p := ⟨g4, q * 3 + 1, none⟩) hgw (.int .i64 T.dist)).setCell (p := ⟨g4, q * 3 + 2, none⟩) hgw (.int .i64 T.len)
            exact hbb.alloc hbb.size _
          case measure => simp [intOf]; omega
        · have HXR2 : Hid (∀ wx, LToks wx w2.heap.size g4 n3 c4 qs → TRd wx (some ⟨g4, 0, none⟩) n3 (qs.map (·.2))) := fun wx h => h.trd (by omega) (fun p hp => HPM.out p (HSUB.out p hp))
          have HLQ : Hid (∀ t, t ∈ qs.map (·.2) → t.lit.length ≤ 140737488351232) := fun t ht => by
            obtain ⟨p, hp, rfl⟩ := List.mem_map.1 ht
            exact HL.out p.2 (by rw [← HPS.out]; exact List.mem_map_of_mem (HSUB.out p hp))
          obtain ⟨ts2, hts2⟩ : ∃ ts2, qs.map (·.2) = ts2 := ⟨_, rfl⟩
          have HQL : Hid (ts2.length = n3) := by rw [← hts2]; show _ = _; rw [List.length_map]; exact HLR.out.len
          rw [hts2] at HXR2 HLQ
          obtain ⟨X2, B2, E2, F2, hT2⟩ := told ts2
          have HT2 := hide hT2
          have heE2 : (E2 == E2) = true := by simp
          have heF2 : (F2 == F2) = true := by simp
          clear hts2 hT2 HSUB
          go_wp2_with fail
          refine (copied_any _ n3 c4 ts2 wr (HXR2.out wr HLR.out) (by omega) HLQ.out).mono ?_
          rintro e w23 ⟨v23, rfl, ys, hk23, hys, hb23⟩
          obtain ⟨a23, n23, c23, rfl, hn23⟩ := hk23.r.named
          have hyl : ys.length = n3 := by have h := congrArg List.length hys; rw [List.length_map] at h; rw [h]; exact HQL.out
          obtain rfl : n23 = n3 := by rw [← hyl]; exact hn23
          have HYR : Hid (∀ wx, KToks wx wr.heap.size (.slice a23 n23 c23) ys → TRd wx a23 n23 ts2) := fun wx h => by
            have := h.trd (by omega) (fun p hp => by have := HLQ.out p.2 (by rw [← hys]; exact List.mem_map_of_mem hp); omega)
            rwa [hys] at this
          have HK23 := hide hk23
          have HB23 := hide (below_trans HB.out hb23)
          have HL23 := hide (HLR.out.below hb23)
          clear hk23 hys hyl hn23 hb23 HB HLR
          go_wp2_with fail
          refine (HT2.out.rex _ n23 c23 w23 (HYR.out w23 HK23.out)).mono ?_
          rintro e w24 ⟨v24, rfl, ho24, hb24⟩
          obtain ⟨a24, m24, c24, rfl, HN24⟩ := own_named ho24
          have HB24 := hide (below_trans HB23.out hb24)
          have HL24 := hide (HL23.out.below hb24)
          have HK24 := hide (HK23.out.below hb24)
          have HP24 := hide ho24
          clear hb24 ho24 HB23 HL23 HK23
          go_wp2_with fail
          refine (HT2.out.rwr _ n23 c23 w24 (HYR.out w24 HK24.out)).mono ?_
          rintro e w25 ⟨v25, rfl, ho25, hb25⟩
          obtain ⟨a25, m25, c25, rfl, HN25⟩ := own_named ho25
          have HB25 := hide (below_trans HB24.out hb25)
          have HL25 := hide (HL24.out.below hb25)
          have HP25 := hide (HP24.out.below hb25)
          have HQ25 := hide ho25
          clear hb25 ho25 HB24 HL24 HK24 HP24
          go_wp2_with fail
          refine (HT2.out.ex _ n23 c4 w25 (HXR2.out w25 HL25.out)).mono ?_
          rintro e w26 ⟨v26, rfl, ho26, hb26⟩
          obtain ⟨a26, m26, c26, rfl, HN26⟩ := own_named ho26
          have HB26 := hide (below_trans HB25.out hb26)
          have HL26 := hide (HL25.out.below hb26)
          have HP26 := hide (HP25.out.below hb26)
          have HQ26 := hide (HQ25.out.below hb26)
          have HR26 := hide ho26
          clear hb26 ho26 HB25 HL25 HP25 HQ25
          go_wp2_with fail
          refine (HT2.out.wr _ n23 c4 w26 (HXR2.out w26 HL26.out)).mono ?_
          rintro e w27 ⟨v27, rfl, ho27, hb27⟩
          obtain ⟨a27, m27, c27, rfl, HN27⟩ := own_named ho27
          have HB27 := hide (below_trans HB26.out hb27)
          have HP27 := hide (HP26.out.below hb27)
          have HQ27 := hide (HQ26.out.below hb27)
          have HR27 := hide (HR26.out.below hb27)
          have HS27 := hide ho27
          clear hb27 ho27 HB26 HL26 HP26 HQ26 HR26
          go_wp2_with fail
          refine (sameBytes_eq _ _ _ _ _ _ X2 _ (Got.rd HR27.out (by have h1 := HT2.out.xl; omega)) (Got.rd HP27.out (by have h1 := HT2.out.xl; omega))).mono ?_
          rintro e w28 ⟨rfl, hb28⟩
          have HB28 := hide (below_trans HB27.out hb28)
          have HQ28 := hide (HQ27.out.below hb28)
          have HS28 := hide (HS27.out.below hb28)
          clear hb28 HB27 HP27 HQ27 HR27 HS27
          go_wp2_with fail
          refine (sameBytes_eq _ _ _ _ _ _ B2 _ (Got.rd HS28.out (by have h1 := HT2.out.bl; omega)) (Got.rd HQ28.out (by have h1 := HT2.out.bl; omega))).mono ?_
          rintro e w29 ⟨rfl, hb29⟩
          have HB29 := hide (below_trans HB28.out hb29)
          clear hb29
          go_wp2_with fail
          go_ret
          exact ⟨rfl, HB29.out⟩
end Go.Proofs.Ytckfkilpoimikaa.lzTokens
