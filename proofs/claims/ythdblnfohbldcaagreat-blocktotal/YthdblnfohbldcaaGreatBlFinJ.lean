/-
  Finish: the tile of the raw bytes' shortest payload.
-/
import Derived.Test.YthdblnfohbldcaaGreatBlPackJ
import Derived.Test.YthdblnfohbldcaaGreatBlRawJ
import Derived.Test.YthdblnfohbldcaaGreatCzSealJ
namespace Go.Proofs.YthdblnfohbldcaaGreat.Bl
open Go.ChangeShapes Go.WideShapes Go.ChangeAt Go.RowKit
open Go.Proofs.YthdblnfohbldcaaGreat.Base Go.Proofs.YthdblnfohbldcaaGreat.Nums Go.Proofs.YthdblnfohbldcaaGreat.Crc
set_option linter.unusedVariables false
theorem BB.set0 {w : World} {q : Nat} {r m : Int} {ev pv : Value} {n : Int} {last : ByteArray} (h : BB w q r m ev pv n last) (x : Int) : BB (w.setCell ⟨q, 0, none⟩ (.int .i64 x)) q x m ev pv n last := by
  unfold BB; rw [heap_setCell_same _ _ _ _ _ _ h]; rfl
theorem BB.set1 {w : World} {q : Nat} {r m : Int} {ev pv : Value} {n : Int} {last : ByteArray} (h : BB w q r m ev pv n last) (x : Int) : BB (w.setCell ⟨q, 1, none⟩ (.int .i64 x)) q r x ev pv n last := by
  unfold BB; rw [heap_setCell_same _ _ _ _ _ _ h]; rfl
theorem best_rd {w : World} {base : Nat} {v : Value} {b : List (BitVec 8)} (h : Best w base v b) (hl : b.length ≤ 140737488351240) : ∃ a c, v = .slice a b.length c ∧ Rd w a b.length b ∧ (a = none → b.length = 0 ∧ c = 0) := by
  rcases h with ⟨rfl, rfl⟩ | ⟨g, c, rfl, h2, h3⟩
  · exact ⟨none, 0, rfl, Got.rd (own_none w base) (by simp), fun _ => ⟨rfl, rfl⟩⟩
  · exact ⟨_, c, rfl, Got.rd h3 (by omega), fun e => nomatch e⟩
theorem own_le {w : World} {base cap : Nat} {a : Option Addr} {bs : List (BitVec 8)} (h : Own w base (.slice a bs.length cap) bs) : bs.length ≤ cap := by
  rcases h.2 with ⟨h1, h2⟩ | ⟨g, c, cur, h1, _⟩
  · omega
  · have h2 := h1
    simp only [Value.slice.injEq] at h2
    obtain ⟨rfl, _, rfl⟩ := h2
    exact Own.cap h
theorem grown_drew {w0 w : World} {r : Option Nat} (g : w0.grownBy w r) : w0.grownBy w.drew r := ⟨g.os, g.tape, g.output, g.size, g.block⟩
theorem step_len {n k : Nat} {p b : List (BitVec 8)} {er : Int} (hp : p.length ≤ 8388608) (hb : b.length ≤ 8388609) : (packStep n k p er b).length ≤ 8388609 := by
  unfold packStep
  split
  · exact hb
  · split
    · rw [List.length_append]; simp; omega
    · exact hb
theorem packL_len {bs l h : List (BitVec 8)} {er : Int} (hb : bs.length ≤ 8388608) (hl : l.length ≤ 8388608) (hh : h.length ≤ 8388608) : (packL bs l h er).length ≤ 8388609 :=
  step_len hh (step_len hl (step_len hb (by simp)))
set_option maxHeartbeats 4000000 in
set_option maxRecDepth 100000 in
theorem fin_none (q : Nat) (r m : Int) (ev pv : Value) (last : ByteArray) (w : World) (h : BB w q r m ev pv 0 last) :
    Calls Tryz.prog 33 #[.pointer (some ⟨q, 0, none⟩)] w fun e w' => e = .returned (.tuple #[.slice none 0 0, .int .i64 0, .int .i64 3]) ∧ w' = w := by
  obtain ⟨c0, c1, c2, c3, c4, c5⟩ := h.cells
  clear h
  go_enter Tryz.func33, Tryz.ntmps33
  go_wp2_with fail
  go_ret3
  exact ⟨rfl, rfl⟩
set_option maxHeartbeats 4000000 in
set_option maxRecDepth 100000 in
theorem fin_any (q base : Nat) (r m : Int) (ev pv : Value) (es l h : List (BitVec 8)) (er : Int) (ps : List Int) (n : Nat) (last : ByteArray) (w : World)
    (hB : BB w q r m ev pv (n : Int) last) (he : Own w base ev es) (hp : OwnI w base pv ps) (hbase : base ≤ w.heap.size)
    (hr1 : 0 ≤ r) (hr2 : r ≤ 64) (hel : es.length ≤ 262144) (hpl : ps.length ≤ 131072) (hn : n ≤ 1048576) (hn1 : 0 < n) (hps : ∀ k, k < ps.length → 0 ≤ ps.getD k 0 ∧ ps.getD k 0 ≤ 1048576) (hl : l.length ≤ 8388608) (hh : h.length ≤ 8388608)
    (HLZ : Hid (∀ (a : Option Addr) (cap : Nat) (W : World), Rd W a (rawL es ps r n).length (rawL es ps r n) → (rawL es ps r n).length ≤ cap → cap ≤ 9223372036854775807 → (a = none → (rawL es ps r n).length = 0 ∧ cap = 0) → Calls Tryz.prog 14 #[.slice a (rawL es ps r n).length cap] W fun e w' => ∃ v, e = .returned (.tuple #[v, .int .i64 0]) ∧ Own w' W.heap.size v l ∧ Below W.heap.size W w'))
    (HHU : Hid (∀ (a : Option Addr) (cap : Nat) (W : World), Rd W a (rawL es ps r n).length (rawL es ps r n) → (rawL es ps r n).length ≤ cap → Calls Tryz.prog 15 #[.slice a (rawL es ps r n).length cap] W fun e w' => ∃ v, e = .returned (.tuple #[v, .int .i64 er]) ∧ Own w' W.heap.size v h ∧ Below W.heap.size W w')) :
    Calls Tryz.prog 33 #[.pointer (some ⟨q, 0, none⟩)] w fun e w' => ∃ g, e = .returned (.tuple #[.slice (some ⟨g, 0, none⟩) ((packL (rawL es ps r n) l h er).length + 4) ((packL (rawL es ps r n) l h er).length + 4), .int .i64 ((rawL es ps r n).length : Nat), .int .i64 0]) ∧ Own w' w.heap.size (.slice (some ⟨g, 0, none⟩) ((packL (rawL es ps r n) l h er).length + 4) ((packL (rawL es ps r n) l h er).length + 4)) (tile (packL (rawL es ps r n) l h er)) ∧ BB w' q r m (.slice none 0 0) (.slice none 0 0) 0 ⟨#[]⟩ ∧ KeptF w w' (fun i => i = q) := by
  have HRW := hide (raw_any q base r m ev pv es ps n last w hB he hp hbase hr1 hr2 (by omega) (by omega) hn hps)
  have HRL : Hid ((rawL es ps r n).length ≤ 1048576) := by show _ ≤ _; rw [rawL_len]; omega
  obtain ⟨R, hR⟩ : ∃ R, rawL es ps r n = R := ⟨_, rfl⟩
  rw [hR] at HRW HLZ HHU HRL ⊢
  have HPL := hide (packL_len (bs := R) (l := l) (h := h) (er := er) (by have := HRL.out; omega) hl hh)
  have HPK := hide (fun (a : Option Addr) (cap : Nat) (W : World) (hr : Rd W a R.length R) (hc : R.length ≤ cap) (hc2 : cap ≤ 9223372036854775807) (hnil : a = none → R.length = 0 ∧ cap = 0) => pack_any a R.length cap R l h er W hr hnil HRL.out hl hh (fun V hV => HLZ.out a cap V (hr.below hV) hc hc2 hnil) (fun V hV => HHU.out a cap V (hr.below hV) hc))
  obtain ⟨K, hK⟩ : ∃ K, packL R l h er = K := ⟨_, rfl⟩
  rw [hK] at HPK HPL ⊢
  have HBB := hide hB
  have hnz : ((n : Int) == 0) = false := by rw [beq_eq_false_iff_ne]; omega
  obtain ⟨c0, c1, c2, c3, c4, c5⟩ := hB.cells
  clear hK hR HLZ HHU hB he hp hps
  go_enter Tryz.func33, Tryz.ntmps33
  go_upto_region 6 with (go_at_call 75; refine HRW.out.mono ?_; rintro e w1 ⟨v1, rfl, ho1, hb1⟩; obtain ⟨a1, d1, e1⟩ := ho1.shape; subst e1; have HO1 := hide ho1; have HB1 := hide hb1; clear ho1 hb1)
  clear c0 c1 c2 c3 c4 c5
  have HF1 := hide (HBB.out.below HB1.out)
  obtain ⟨c0, c1, c2, c3, c4, c5⟩ := HF1.out.cells
  have f0 := HF1.out.fz 0
  have f1 := HF1.out.fz 1
  have f2 := HF1.out.fz 2
  have f3 := HF1.out.fz 3
  have f4 := HF1.out.fz 4
  have f5 := HF1.out.fz 5
  go_region
  all_goals
    obtain ⟨w2, hw2⟩ : ∃ w2, ((((((w1.setCell ⟨q, 0, none⟩ (Value.int IntKind.i64 r)).setCell ⟨q, 1, none⟩ (Value.int IntKind.i64 m)).setCell ⟨q, 2, none⟩ (Value.slice none 0 0)).setCell ⟨q, 3, none⟩ (Value.slice none 0 0)).setCell ⟨q, 4, none⟩ (Value.int IntKind.i64 0)).setCell ⟨q, 5, none⟩ (Value.string ⟨#[]⟩)).drew = w2 := ⟨_, rfl⟩
    have HF2 : Hid (BB w2 q r m (.slice none 0 0) (.slice none 0 0) 0 ⟨#[]⟩) := by
      rw [← hw2]
      exact ((((((HF1.out.set0 r).set1 m).set2 (.slice none 0 0)).set3 (.slice none 0 0)).set4 0).set5 ⟨#[]⟩).below (Below.refl _ _).drew
    have HG2 : Hid (w1.grownBy w2 (some q)) := by
      rw [← hw2]
      exact grown_drew (grown_cell (grown_cell (grown_cell (grown_cell (grown_cell (grown_cell (World.grownBy.refl _ _) _ _) _ _) _ _) _ _) _ _) _ _)
    rw [hw2]
    clear hw2 c0 c1 c2 c3 c4 c5 f0 f1 f2 f3 f4 f5
    have HBT : Hid (w.heap.size ≤ w1.heap.size ∧ q < w.heap.size) := ⟨HB1.out.size, HBB.out.lt⟩
    have HO2 : Hid (Own w2 w.heap.size (.slice a1 R.length d1) R) := Base.keep HO1.out HG2.out (fun i j e1 e2 e3 => by have k1 := (blk HO1.out i e1).1; have k2 := Option.some.inj e2; have k3 := HBT.out.2; omega)
    have HS2 := hide HG2.out.size
    have hpk := HPK.out a1 d1 w2 (Got.rd HO2.out (by have := HRL.out; omega)) (own_le HO2.out) (Own.room HO2.out) (Got.nil HO2.out)
    have HPP := hide hpk
    clear hpk HPK
    go_wp2_with (first
      | (go_at_call 76; refine HPP.out.mono ?_; rintro e w3 ⟨v3, rfl, hbe, hb3⟩; obtain ⟨a3, d3, e3, hr3, hn3⟩ := best_rd hbe (by have := HPL.out; omega); subst e3; have HR3 := hide hr3; have HN3 := hide hn3; have HB3 := hide hb3; clear hbe hr3 hn3 hb3)
      | (go_at_call 16; refine (Crc.seal_any a3 K.length d3 K _ HR3.out HN3.out (by have := HPL.out; omega)).mono ?_; rintro e w4 ⟨g4, rfl, hg4, ho4, hb4⟩; have HO4 := hide ho4; have HB4 := hide hb4; clear hg4 ho4 hb4))
    go_ret3
    refine ⟨g4, rfl, HO4.out.mono (by have := HB3.out.size; have := HS2.out; have := HBT.out; omega), (HF2.out.below HB3.out).below HB4.out, ?_⟩
    exact ((((KeptF.of HB1.out).grown HG2.out (fun i e => .inl (Option.some.inj e).symm)).below HB3.out).below HB4.out)
end Go.Proofs.YthdblnfohbldcaaGreat.Bl
