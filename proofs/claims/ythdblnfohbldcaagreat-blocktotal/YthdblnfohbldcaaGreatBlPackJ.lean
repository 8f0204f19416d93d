/-
  pack: the shortest payload, its flag behind it.
-/
import Derived.Test.YthdblnfohbldcaaGreatBlCodeJ
import Derived.Laws.EntriesVeiled
namespace Go.Proofs.YthdblnfohbldcaaGreat.Bl
open Go.ChangeShapes Go.WideShapes Go.ChangeAt Go.RowKit
open Go.Proofs.YthdblnfohbldcaaGreat.Base Go.Proofs.YthdblnfohbldcaaGreat.Nums
set_option linter.unusedVariables false
/-- One code more has been tried: what is best; none: nothing yet. -/
def packStep (n k : Nat) (p : List (BitVec 8)) (er : Int) (best : List (BitVec 8)) : List (BitVec 8) :=
  if er ≠ 0 ∨ 64 * p.length < n then best else if best = [] ∨ p.length + 1 < best.length then p ++ [BitVec.ofNat 8 k] else best
def packTo (bs l h : List (BitVec 8)) (er : Int) : Nat → List (BitVec 8)
  | 0 => []
  | 1 => packStep bs.length 0 bs 0 []
  | 2 => packStep bs.length 1 l 0 (packStep bs.length 0 bs 0 [])
  | _ => packStep bs.length 2 h er (packStep bs.length 1 l 0 (packStep bs.length 0 bs 0 []))
def packL (bs l h : List (BitVec 8)) (er : Int) : List (BitVec 8) := packTo bs l h er 3
theorem step_skip {n k : Nat} {p b : List (BitVec 8)} {er : Int} (h : er ≠ 0 ∨ 64 * p.length < n) : packStep n k p er b = b := if_pos h
theorem step_take {n k : Nat} {p b : List (BitVec 8)} {er : Int} (h : ¬ (er ≠ 0 ∨ 64 * p.length < n)) (h2 : b = [] ∨ p.length + 1 < b.length) : packStep n k p er b = p ++ [BitVec.ofNat 8 k] := (if_neg h).trans (if_pos h2)
theorem step_keep {n k : Nat} {p b : List (BitVec 8)} {er : Int} (h : ¬ (er ≠ 0 ∨ 64 * p.length < n)) (h2 : ¬ (b = [] ∨ p.length + 1 < b.length)) : packStep n k p er b = b := (if_neg h).trans (if_neg h2)
/-- What is best stands in memory. -/
def Best (w : World) (base : Nat) (v : Value) (b : List (BitVec 8)) : Prop := (v = .slice none 0 0 ∧ b = []) ∨ (∃ g c, v = .slice (some ⟨g, 0, none⟩) b.length c ∧ 0 < b.length ∧ Own w base v b)
theorem Best.below {w w' : World} {base : Nat} {v : Value} {b : List (BitVec 8)} (h : Best w base v b) (hb : Below w.heap.size w w') : Best w' base v b := by
  rcases h with h | ⟨g, c, h1, h2, h3⟩
  · exact .inl h
  · exact .inr ⟨g, c, h1, h2, h3.below hb⟩
theorem codes_load (w : World) (g k : Nat) (h : w.heap[g]? = some codesO) : w.cell? ⟨g, k, none⟩ = [fnv 127, fnv 128, fnv 14, fnv 12, fnv 15, fnv 13][k]? := by
  rw [cell_of_row _ _ _ _ _ _ h]
  simp
def zeroO : Obj := .cells #[.nilFunc, .nilFunc] 134
theorem zero_at (w : World) : (w.alloc zeroO).cell? ⟨w.heap.size, 0, none⟩ = some .nilFunc ∧ (w.alloc zeroO).cell? ⟨w.heap.size, 1, none⟩ = some .nilFunc ∧ (∀ k, (w.alloc zeroO).frozen? ⟨w.heap.size, k, none⟩ = false) := by
  have h : (w.alloc zeroO).heap[w.heap.size]? = some zeroO := heap_alloc_new _ _
  refine ⟨?_, ?_, fun k => frozen_of_row _ _ _ _ _ h⟩ <;> (rw [cell_of_row _ _ _ _ _ _ h]; rfl)
theorem eql_nil (w : World) : (binOp .eql 24 (.slice none 0 0) (.slice none 0 0)).run Tryz.prog w = .ok (.bool true) w := Lib.run_eql_slice_nil w _ _ none 0 0 0 0 Tryz.underlying24
theorem eql_some (w : World) (ad : Addr) (n c : Nat) : (binOp .eql 24 (.slice (some ad) n c) (.slice none 0 0)).run Tryz.prog w = .ok (.bool false) w := Lib.run_eql_slice_nil w _ _ (some ad) n c 0 0 Tryz.underlying24
set_option maxHeartbeats 8000000 in
set_option maxRecDepth 100000 in
theorem pack_any (a : Option Addr) (n cap : Nat) (bs l h : List (BitVec 8)) (er : Int) (w : World) (hr : Rd w a n bs) (hnil : a = none → n = 0 ∧ cap = 0) (hn : n ≤ 1048576) (hl : l.length ≤ 8388608) (hh : h.length ≤ 8388608)
    (HLZ : Hid (∀ W, Below w.heap.size w W → Calls Tryz.prog 14 #[.slice a n cap] W fun e w' => ∃ v, e = .returned (.tuple #[v, .int .i64 0]) ∧ Own w' W.heap.size v l ∧ Below W.heap.size W w'))
    (HHU : Hid (∀ W, Below w.heap.size w W → Calls Tryz.prog 15 #[.slice a n cap] W fun e w' => ∃ v, e = .returned (.tuple #[v, .int .i64 er]) ∧ Own w' W.heap.size v h ∧ Below W.heap.size W w')) :
    Calls Tryz.prog 76 #[.slice a n cap] w fun e w' => ∃ v, e = .returned v ∧ Best w' w.heap.size v (packL bs l h er) ∧ Below w.heap.size w w' := by
  have HRA := hide (fun W (hW : Below w.heap.size w W) => encRaw_any a n cap bs W (hr.below hW) hnil)
  have HN := hide hr.1
  have hbn : bs.length ≤ 1048576 := by have := hr.1; omega
  have HBL := hide hbn
  have HEQ := hide eql_nil
  have HES := hide eql_some
  have HS1 : Hid (packTo bs l h er 1 = packStep n 0 bs 0 (packTo bs l h er 0)) := by rw [← HN.out]; rfl
  have HS2 : Hid (packTo bs l h er 2 = packStep n 1 l 0 (packTo bs l h er 1)) := by rw [← HN.out]; rfl
  have HS3 : Hid (packTo bs l h er 3 = packStep n 2 h er (packTo bs l h er 2)) := by rw [← HN.out]; rfl
  unfold packL
  obtain ⟨B, hB⟩ : ∃ B, packTo bs l h er = B := ⟨_, rfl⟩
  have hB0 : B 0 = [] := by rw [← hB]; rfl
  rw [hB] at HS1 HS2 HS3 ⊢
  clear hr hB hbn
  go_enter Tryz.func76, Tryz.ntmps76
  go_wp2_with (go_at_call 82; refine (codes_any _).mono ?_; rintro e w1 ⟨rfl, hw1⟩; have HB1 : Hid (Below w.heap.size w w1) := (by rw [hw1]; exact (Below.refl _ _).alloc (Nat.le_refl _) _); have HC1 : Hid (w1.heap[w.heap.size]? = some codesO) := (by rw [hw1]; exact heap_alloc_new _ _); clear hw1)
  go_loopw [3, 11] (fun s3 s11 wr => ∃ (k : Nat) (z : Int), k ≤ 3 ∧ z = (k : Int) ∧ s11 = .int .i64 z ∧ Hid (Best wr w.heap.size s3 (B k)) ∧ Hid (wr.heap[w.heap.size]? = some codesO) ∧ Hid (Below w.heap.size w wr) ∧ Hid (w.heap.size < wr.heap.size)) (fun _ s11 _ => 3 - (intOf s11).toNat)
  case atStart => exact ⟨0, 0, by omega, rfl, rfl, .inl ⟨rfl, hB0⟩, HC1.out, HB1.out, (Array.getElem?_eq_some_iff.1 HC1.out).1⟩
  case round =>
    obtain ⟨k, z, hk3, hz, rfl, HBE, HC, HB, HLT⟩ := hrel
    clear HB1 HC1 hB0
    by_cases hk : k < 3
    · have hk2 : k = 0 ∨ k = 1 ∨ k = 2 := by omega
      rcases hk2 with rfl | rfl | rfl
      · obtain rfl : z = 0 := by omega
        clear hz hk hk3
        have hpl : bs.length ≤ 8388608 := (by have := HBL.out; omega)
        have c0 : wr.cell? ⟨w.heap.size, 0, none⟩ = some (.func (Fn.func 127) #[] #[]) := codes_load wr w.heap.size 0 HC.out
        have c1 : wr.cell? ⟨w.heap.size, 1, none⟩ = some (.func (Fn.func 128) #[] #[]) := codes_load wr w.heap.size 1 HC.out
        have zc0 : (wr.alloc (Obj.cells #[Value.nilFunc, Value.nilFunc] 134)).cell? ⟨wr.heap.size, 0, none⟩ = some .nilFunc := (zero_at wr).1
        have zc1 : (wr.alloc (Obj.cells #[Value.nilFunc, Value.nilFunc] 134)).cell? ⟨wr.heap.size, 1, none⟩ = some .nilFunc := (zero_at wr).2.1
        have zf0 : (wr.alloc (Obj.cells #[Value.nilFunc, Value.nilFunc] 134)).frozen? ⟨wr.heap.size, 0, none⟩ = false := (zero_at wr).2.2 0
        have zf1 : (wr.alloc (Obj.cells #[Value.nilFunc, Value.nilFunc] 134)).frozen? ⟨wr.heap.size, 1, none⟩ = false := (zero_at wr).2.2 1
        have HBA : Hid (Below w.heap.size w (wr.alloc (Obj.cells #[Value.func (Fn.func 127) #[] #[], Value.func (Fn.func 128) #[] #[]] 134))) := HB.out.alloc HB.out.size _
        have HWA : Hid (Below wr.heap.size wr (wr.alloc (Obj.cells #[Value.func (Fn.func 127) #[] #[], Value.func (Fn.func 128) #[] #[]] 134))) := (Below.refl _ _).alloc (Nat.le_refl _) _
        have HSA : Hid (w.heap.size < (wr.alloc (Obj.cells #[Value.func (Fn.func 127) #[] #[], Value.func (Fn.func 128) #[] #[]] 134)).heap.size ∧ wr.heap.size ≤ (wr.alloc (Obj.cells #[Value.func (Fn.func 127) #[] #[], Value.func (Fn.func 128) #[] #[]] 134)).heap.size) := (by have := HLT.out; have q : (wr.alloc (Obj.cells #[Value.func (Fn.func 127) #[] #[], Value.func (Fn.func 128) #[] #[]] 134)).heap.size = wr.heap.size + 1 := (by simp); exact ⟨by omega, by omega⟩)
        by_cases hd : (64 : Int) * (bs.length : Int) < (n : Int)
        · have HST : Hid (B 1 = B 0) := HS1.out.trans (step_skip (.inr (by omega)))
          have hdd : decide ((64 : Int) * (bs.length : Int) < (n : Int)) = true := by simpa using hd
          go_wp2_with (first
            | (go_at_call 127; refine (HRA.out _ HBA.out).mono ?_; rintro e w2 ⟨v2, rfl, ho, hb⟩; obtain ⟨a2, c2, e2⟩ := ho.shape; subst e2; have HO2 := hide ho; have HB2 := hide (below_trans HBA.out hb); have HV2 := hide hb; clear ho hb)
            | (go_at_call 81; refine (dense_any (bs.length : Int) (n : Int) _ (by omega) (by omega)).mono ?_; rintro e w2 ⟨rfl, rfl⟩))
          go_roundw
          case rel => exact ⟨1, 1, by omega, rfl, rfl, by rw [HST.out]; exact (HBE.out.below HWA.out).below HV2.out, (HV2.out.block _ (by have := HSA.out; omega)).trans ((HWA.out.block _ HLT.out).trans HC.out), HB2.out, by show w.heap.size < _; have := HB2.out.size; have := HV2.out.size; have := HSA.out; omega⟩
          case measure => (simp [intOf] <;> omega)
        · have hnd : ¬ (((0 : Int) ≠ 0) ∨ 64 * bs.length < n) := by omega
          have hdd : decide ((64 : Int) * (bs.length : Int) < (n : Int)) = false := by simpa using hd
          have HND := hide hnd
          clear hnd
          have HBX := hide HBE.out
          rcases HBE.out with ⟨rfl, hb0⟩ | ⟨gb, cb, rfl, hb0, hbo⟩
          · have HST : Hid (B 1 = bs ++ [BitVec.ofNat 8 0]) := HS1.out.trans (step_take HND.out (.inl hb0))
            clear hb0 HBE
            have heq := HEQ.out
            go_wp2_with (first
            | (go_at_call 127; refine (HRA.out _ HBA.out).mono ?_; rintro e w2 ⟨v2, rfl, ho, hb⟩; obtain ⟨a2, c2, e2⟩ := ho.shape; subst e2; have HO2 := hide ho; have HB2 := hide (below_trans HBA.out hb); have HV2 := hide hb; clear ho hb)
            | (go_at_call 81; refine (dense_any (bs.length : Int) (n : Int) _ (by omega) (by omega)).mono ?_; rintro e w2 ⟨rfl, rfl⟩)
            | (at_builtin; refine push2 _ rfl _ _ rfl (wr.alloc (Obj.cells #[Value.func (Fn.func 127) #[] #[], Value.func (Fn.func 128) #[] #[]] 134)).heap.size (.slice a2 bs.length c2) bs rfl (HO2.out.below ((Below.refl w2.heap.size w2).alloc (Nat.le_refl _) _)) ⟨w2.heap.size, 0, none⟩ 1 0 rfl (cell_one_new _ _ _ 0 _ rfl) (by omega) (by have := HV2.out.size; have q : (w2.alloc (.cells #[.int .u8 0] 5)).heap.size = w2.heap.size + 1 := (by simp); omega) ?_; intro g5 c5 w5 ho5 hor5; have HO5 := hide ho5; have hv := HV2.out.size; have hs := HSA.out; have hxx : Below w2.heap.size w2 (w2.alloc (.cells #[.int .u8 0] 5)) := (Below.refl _ _).alloc (Nat.le_refl _) _; have hx : Below w.heap.size w (w2.alloc (.cells #[.int .u8 0] 5)) := HB2.out.alloc HB2.out.size _; have hcx : (w2.alloc (.cells #[.int .u8 0] 5)).heap[w.heap.size]? = some codesO := (hxx.block _ (by omega)).trans ((HV2.out.block _ (by omega)).trans ((HWA.out.block _ HLT.out).trans HC.out)); have hxs := hxx.size; have HB5 : Hid (Below w.heap.size w w5) := hor5.elim (fun ⟨q1, q2⟩ => hx.grown q2 hx.size (fun i e => by cases e; have := (blk HO2.out _ q1).1; omega)) (fun ⟨q1, q2⟩ => hx.grown q2 hx.size (fun i e => nomatch e)); have HC5 : Hid (w5.heap[w.heap.size]? = some codesO) := hor5.elim (fun ⟨q1, q2⟩ => (q2.block _ (by omega) (fun e => by have := (blk HO2.out _ q1).1; have := Option.some.inj e; omega)).trans hcx) (fun ⟨q1, q2⟩ => (q2.block _ (by omega) (fun e => nomatch e)).trans hcx); have HL5 : Hid (w.heap.size < w5.heap.size) := hor5.elim (fun ⟨q1, q2⟩ => (by show w.heap.size < _; have := q2.size; omega)) (fun ⟨q1, q2⟩ => (by show w.heap.size < _; have := q2.size; omega)); have HK5 : Hid (∀ v b, Own wr w.heap.size v b → Own w5 w.heap.size v b) := (fun v b hv => hor5.elim (fun ⟨q1, q2⟩ => Base.keep (((hv.below HWA.out).below HV2.out).below hxx) q2 (fun i j e1 e2 e3 => by have k1 := (blk hv i e1).2; have k2 := (blk HO2.out _ q1).1; have := Option.some.inj e2; omega)) (fun ⟨q1, q2⟩ => Base.keep (((hv.below HWA.out).below HV2.out).below hxx) q2 (fun i j e1 e2 e3 => nomatch e2))); clear hv hs hxx hx hcx hxs ho5 hor5))
            go_roundw
            case rel => exact ⟨1, 1, by omega, rfl, rfl, by rw [HST.out]; exact .inr ⟨g5, c5, by rw [List.length_append]; rfl, by rw [List.length_append]; exact Nat.succ_pos _, HO5.out.mono (by have := HSA.out; omega)⟩, HC5.out, HB5.out, HL5.out⟩
            case measure => (simp [intOf] <;> omega)
          · have heq := HES.out
            have HBO := hide hbo
            clear hbo
            obtain ⟨bl, hbl⟩ : ∃ m, (B 0).length = m := ⟨_, rfl⟩
            rw [hbl] at HBO hb0 ⊢
            have HBN := hide hbl
            by_cases hsh : bs.length + 1 < bl
            · have HST : Hid (B 1 = bs ++ [BitVec.ofNat 8 0]) := HS1.out.trans (step_take HND.out (.inr (by omega)))
              clear hbl HBE HBX
              have hshi : (bs.length : Int) + 1 < (bl : Int) := by omega
              go_wp2_with (first
            | (go_at_call 127; refine (HRA.out _ HBA.out).mono ?_; rintro e w2 ⟨v2, rfl, ho, hb⟩; obtain ⟨a2, c2, e2⟩ := ho.shape; subst e2; have HO2 := hide ho; have HB2 := hide (below_trans HBA.out hb); have HV2 := hide hb; clear ho hb)
            | (go_at_call 81; refine (dense_any (bs.length : Int) (n : Int) _ (by omega) (by omega)).mono ?_; rintro e w2 ⟨rfl, rfl⟩)
            | (at_builtin; refine push2 _ rfl _ _ rfl (wr.alloc (Obj.cells #[Value.func (Fn.func 127) #[] #[], Value.func (Fn.func 128) #[] #[]] 134)).heap.size (.slice a2 bs.length c2) bs rfl (HO2.out.below ((Below.refl w2.heap.size w2).alloc (Nat.le_refl _) _)) ⟨w2.heap.size, 0, none⟩ 1 0 rfl (cell_one_new _ _ _ 0 _ rfl) (by omega) (by have := HV2.out.size; have q : (w2.alloc (.cells #[.int .u8 0] 5)).heap.size = w2.heap.size + 1 := (by simp); omega) ?_; intro g5 c5 w5 ho5 hor5; have HO5 := hide ho5; have hv := HV2.out.size; have hs := HSA.out; have hxx : Below w2.heap.size w2 (w2.alloc (.cells #[.int .u8 0] 5)) := (Below.refl _ _).alloc (Nat.le_refl _) _; have hx : Below w.heap.size w (w2.alloc (.cells #[.int .u8 0] 5)) := HB2.out.alloc HB2.out.size _; have hcx : (w2.alloc (.cells #[.int .u8 0] 5)).heap[w.heap.size]? = some codesO := (hxx.block _ (by omega)).trans ((HV2.out.block _ (by omega)).trans ((HWA.out.block _ HLT.out).trans HC.out)); have hxs := hxx.size; have HB5 : Hid (Below w.heap.size w w5) := hor5.elim (fun ⟨q1, q2⟩ => hx.grown q2 hx.size (fun i e => by cases e; have := (blk HO2.out _ q1).1; omega)) (fun ⟨q1, q2⟩ => hx.grown q2 hx.size (fun i e => nomatch e)); have HC5 : Hid (w5.heap[w.heap.size]? = some codesO) := hor5.elim (fun ⟨q1, q2⟩ => (q2.block _ (by omega) (fun e => by have := (blk HO2.out _ q1).1; have := Option.some.inj e; omega)).trans hcx) (fun ⟨q1, q2⟩ => (q2.block _ (by omega) (fun e => nomatch e)).trans hcx); have HL5 : Hid (w.heap.size < w5.heap.size) := hor5.elim (fun ⟨q1, q2⟩ => (by show w.heap.size < _; have := q2.size; omega)) (fun ⟨q1, q2⟩ => (by show w.heap.size < _; have := q2.size; omega)); have HK5 : Hid (∀ v b, Own wr w.heap.size v b → Own w5 w.heap.size v b) := (fun v b hv => hor5.elim (fun ⟨q1, q2⟩ => Base.keep (((hv.below HWA.out).below HV2.out).below hxx) q2 (fun i j e1 e2 e3 => by have k1 := (blk hv i e1).2; have k2 := (blk HO2.out _ q1).1; have := Option.some.inj e2; omega)) (fun ⟨q1, q2⟩ => Base.keep (((hv.below HWA.out).below HV2.out).below hxx) q2 (fun i j e1 e2 e3 => nomatch e2))); clear hv hs hxx hx hcx hxs ho5 hor5))
              go_roundw
              case rel => exact ⟨1, 1, by omega, rfl, rfl, by rw [HST.out]; exact .inr ⟨g5, c5, by rw [List.length_append]; rfl, by rw [List.length_append]; exact Nat.succ_pos _, HO5.out.mono (by have := HSA.out; omega)⟩, HC5.out, HB5.out, HL5.out⟩
              case measure => (simp [intOf] <;> omega)
            · have HST : Hid (B 1 = B 0) := HS1.out.trans (step_keep HND.out (fun e => by rcases e with e | e; rw [e] at hbl; simp at hbl; omega; omega))
              clear hbl HBE HBX
              have hshi : ¬ (bs.length : Int) + 1 < (bl : Int) := by omega
              go_wp2_with (first
            | (go_at_call 127; refine (HRA.out _ HBA.out).mono ?_; rintro e w2 ⟨v2, rfl, ho, hb⟩; obtain ⟨a2, c2, e2⟩ := ho.shape; subst e2; have HO2 := hide ho; have HB2 := hide (below_trans HBA.out hb); have HV2 := hide hb; clear ho hb)
            | (go_at_call 81; refine (dense_any (bs.length : Int) (n : Int) _ (by omega) (by omega)).mono ?_; rintro e w2 ⟨rfl, rfl⟩)
            | (at_builtin; refine push2 _ rfl _ _ rfl (wr.alloc (Obj.cells #[Value.func (Fn.func 127) #[] #[], Value.func (Fn.func 128) #[] #[]] 134)).heap.size (.slice a2 bs.length c2) bs rfl (HO2.out.below ((Below.refl w2.heap.size w2).alloc (Nat.le_refl _) _)) ⟨w2.heap.size, 0, none⟩ 1 0 rfl (cell_one_new _ _ _ 0 _ rfl) (by omega) (by have := HV2.out.size; have q : (w2.alloc (.cells #[.int .u8 0] 5)).heap.size = w2.heap.size + 1 := (by simp); omega) ?_; intro g5 c5 w5 ho5 hor5; have HO5 := hide ho5; have hv := HV2.out.size; have hs := HSA.out; have hxx : Below w2.heap.size w2 (w2.alloc (.cells #[.int .u8 0] 5)) := (Below.refl _ _).alloc (Nat.le_refl _) _; have hx : Below w.heap.size w (w2.alloc (.cells #[.int .u8 0] 5)) := HB2.out.alloc HB2.out.size _; have hcx : (w2.alloc (.cells #[.int .u8 0] 5)).heap[w.heap.size]? = some codesO := (hxx.block _ (by omega)).trans ((HV2.out.block _ (by omega)).trans ((HWA.out.block _ HLT.out).trans HC.out)); have hxs := hxx.size; have HB5 : Hid (Below w.heap.size w w5) := hor5.elim (fun ⟨q1, q2⟩ => hx.grown q2 hx.size (fun i e => by cases e; have := (blk HO2.out _ q1).1; omega)) (fun ⟨q1, q2⟩ => hx.grown q2 hx.size (fun i e => nomatch e)); have HC5 : Hid (w5.heap[w.heap.size]? = some codesO) := hor5.elim (fun ⟨q1, q2⟩ => (q2.block _ (by omega) (fun e => by have := (blk HO2.out _ q1).1; have := Option.some.inj e; omega)).trans hcx) (fun ⟨q1, q2⟩ => (q2.block _ (by omega) (fun e => nomatch e)).trans hcx); have HL5 : Hid (w.heap.size < w5.heap.size) := hor5.elim (fun ⟨q1, q2⟩ => (by show w.heap.size < _; have := q2.size; omega)) (fun ⟨q1, q2⟩ => (by show w.heap.size < _; have := q2.size; omega)); have HK5 : Hid (∀ v b, Own wr w.heap.size v b → Own w5 w.heap.size v b) := (fun v b hv => hor5.elim (fun ⟨q1, q2⟩ => Base.keep (((hv.below HWA.out).below HV2.out).below hxx) q2 (fun i j e1 e2 e3 => by have k1 := (blk hv i e1).2; have k2 := (blk HO2.out _ q1).1; have := Option.some.inj e2; omega)) (fun ⟨q1, q2⟩ => Base.keep (((hv.below HWA.out).below HV2.out).below hxx) q2 (fun i j e1 e2 e3 => nomatch e2))); clear hv hs hxx hx hcx hxs ho5 hor5))
              go_roundw
              case rel => exact ⟨1, 1, by omega, rfl, rfl, by rw [HST.out]; exact .inr ⟨gb, cb, by rw [HBN.out], by rw [HBN.out]; exact hb0, HK5.out _ _ HBO.out⟩, HC5.out, HB5.out, HL5.out⟩
              case measure => (simp [intOf] <;> omega)
      · obtain rfl : z = 1 := by omega
        clear hz hk hk3
        have hpl : l.length ≤ 8388608 := hl
        have c0 : wr.cell? ⟨w.heap.size, 2, none⟩ = some (.func (Fn.func 14) #[] #[]) := codes_load wr w.heap.size 2 HC.out
        have c1 : wr.cell? ⟨w.heap.size, 3, none⟩ = some (.func (Fn.func 12) #[] #[]) := codes_load wr w.heap.size 3 HC.out
        have zc0 : (wr.alloc (Obj.cells #[Value.nilFunc, Value.nilFunc] 134)).cell? ⟨wr.heap.size, 0, none⟩ = some .nilFunc := (zero_at wr).1
        have zc1 : (wr.alloc (Obj.cells #[Value.nilFunc, Value.nilFunc] 134)).cell? ⟨wr.heap.size, 1, none⟩ = some .nilFunc := (zero_at wr).2.1
        have zf0 : (wr.alloc (Obj.cells #[Value.nilFunc, Value.nilFunc] 134)).frozen? ⟨wr.heap.size, 0, none⟩ = false := (zero_at wr).2.2 0
        have zf1 : (wr.alloc (Obj.cells #[Value.nilFunc, Value.nilFunc] 134)).frozen? ⟨wr.heap.size, 1, none⟩ = false := (zero_at wr).2.2 1
        have HBA : Hid (Below w.heap.size w (wr.alloc (Obj.cells #[Value.func (Fn.func 14) #[] #[], Value.func (Fn.func 12) #[] #[]] 134))) := HB.out.alloc HB.out.size _
        have HWA : Hid (Below wr.heap.size wr (wr.alloc (Obj.cells #[Value.func (Fn.func 14) #[] #[], Value.func (Fn.func 12) #[] #[]] 134))) := (Below.refl _ _).alloc (Nat.le_refl _) _
        have HSA : Hid (w.heap.size < (wr.alloc (Obj.cells #[Value.func (Fn.func 14) #[] #[], Value.func (Fn.func 12) #[] #[]] 134)).heap.size ∧ wr.heap.size ≤ (wr.alloc (Obj.cells #[Value.func (Fn.func 14) #[] #[], Value.func (Fn.func 12) #[] #[]] 134)).heap.size) := (by have := HLT.out; have q : (wr.alloc (Obj.cells #[Value.func (Fn.func 14) #[] #[], Value.func (Fn.func 12) #[] #[]] 134)).heap.size = wr.heap.size + 1 := (by simp); exact ⟨by omega, by omega⟩)
        by_cases hd : (64 : Int) * (l.length : Int) < (n : Int)
        · have HST : Hid (B 2 = B 1) := HS2.out.trans (step_skip (.inr (by omega)))
          have hdd : decide ((64 : Int) * (l.length : Int) < (n : Int)) = true := by simpa using hd
          go_wp2_with (first
            | (go_at_call 14; refine (HLZ.out _ HBA.out).mono ?_; rintro e w2 ⟨v2, rfl, ho, hb⟩; obtain ⟨a2, c2, e2⟩ := ho.shape; subst e2; have HO2 := hide ho; have HB2 := hide (below_trans HBA.out hb); have HV2 := hide hb; clear ho hb)
            | (go_at_call 81; refine (dense_any (l.length : Int) (n : Int) _ (by omega) (by omega)).mono ?_; rintro e w2 ⟨rfl, rfl⟩))
          go_roundw
          case rel => exact ⟨2, 2, by omega, rfl, rfl, by rw [HST.out]; exact (HBE.out.below HWA.out).below HV2.out, (HV2.out.block _ (by have := HSA.out; omega)).trans ((HWA.out.block _ HLT.out).trans HC.out), HB2.out, by show w.heap.size < _; have := HB2.out.size; have := HV2.out.size; have := HSA.out; omega⟩
          case measure => (simp [intOf] <;> omega)
        · have hnd : ¬ (((0 : Int) ≠ 0) ∨ 64 * l.length < n) := by omega
          have hdd : decide ((64 : Int) * (l.length : Int) < (n : Int)) = false := by simpa using hd
          have HND := hide hnd
          clear hnd
          have HBX := hide HBE.out
          rcases HBE.out with ⟨rfl, hb0⟩ | ⟨gb, cb, rfl, hb0, hbo⟩
          · have HST : Hid (B 2 = l ++ [BitVec.ofNat 8 1]) := HS2.out.trans (step_take HND.out (.inl hb0))
            clear hb0 HBE
            have heq := HEQ.out
            go_wp2_with (first
            | (go_at_call 14; refine (HLZ.out _ HBA.out).mono ?_; rintro e w2 ⟨v2, rfl, ho, hb⟩; obtain ⟨a2, c2, e2⟩ := ho.shape; subst e2; have HO2 := hide ho; have HB2 := hide (below_trans HBA.out hb); have HV2 := hide hb; clear ho hb)
            | (go_at_call 81; refine (dense_any (l.length : Int) (n : Int) _ (by omega) (by omega)).mono ?_; rintro e w2 ⟨rfl, rfl⟩)
            | (at_builtin; refine push2 _ rfl _ _ rfl (wr.alloc (Obj.cells #[Value.func (Fn.func 14) #[] #[], Value.func (Fn.func 12) #[] #[]] 134)).heap.size (.slice a2 l.length c2) l rfl (HO2.out.below ((Below.refl w2.heap.size w2).alloc (Nat.le_refl _) _)) ⟨w2.heap.size, 0, none⟩ 1 1 rfl (cell_one_new _ _ _ 0 _ rfl) (by omega) (by have := HV2.out.size; have q : (w2.alloc (.cells #[.int .u8 1] 5)).heap.size = w2.heap.size + 1 := (by simp); omega) ?_; intro g5 c5 w5 ho5 hor5; have HO5 := hide ho5; have hv := HV2.out.size; have hs := HSA.out; have hxx : Below w2.heap.size w2 (w2.alloc (.cells #[.int .u8 1] 5)) := (Below.refl _ _).alloc (Nat.le_refl _) _; have hx : Below w.heap.size w (w2.alloc (.cells #[.int .u8 1] 5)) := HB2.out.alloc HB2.out.size _; have hcx : (w2.alloc (.cells #[.int .u8 1] 5)).heap[w.heap.size]? = some codesO := (hxx.block _ (by omega)).trans ((HV2.out.block _ (by omega)).trans ((HWA.out.block _ HLT.out).trans HC.out)); have hxs := hxx.size; have HB5 : Hid (Below w.heap.size w w5) := hor5.elim (fun ⟨q1, q2⟩ => hx.grown q2 hx.size (fun i e => by cases e; have := (blk HO2.out _ q1).1; omega)) (fun ⟨q1, q2⟩ => hx.grown q2 hx.size (fun i e => nomatch e)); have HC5 : Hid (w5.heap[w.heap.size]? = some codesO) := hor5.elim (fun ⟨q1, q2⟩ => (q2.block _ (by omega) (fun e => by have := (blk HO2.out _ q1).1; have := Option.some.inj e; omega)).trans hcx) (fun ⟨q1, q2⟩ => (q2.block _ (by omega) (fun e => nomatch e)).trans hcx); have HL5 : Hid (w.heap.size < w5.heap.size) := hor5.elim (fun ⟨q1, q2⟩ => (by show w.heap.size < _; have := q2.size; omega)) (fun ⟨q1, q2⟩ => (by show w.heap.size < _; have := q2.size; omega)); have HK5 : Hid (∀ v b, Own wr w.heap.size v b → Own w5 w.heap.size v b) := (fun v b hv => hor5.elim (fun ⟨q1, q2⟩ => Base.keep (((hv.below HWA.out).below HV2.out).below hxx) q2 (fun i j e1 e2 e3 => by have k1 := (blk hv i e1).2; have k2 := (blk HO2.out _ q1).1; have := Option.some.inj e2; omega)) (fun ⟨q1, q2⟩ => Base.keep (((hv.below HWA.out).below HV2.out).below hxx) q2 (fun i j e1 e2 e3 => nomatch e2))); clear hv hs hxx hx hcx hxs ho5 hor5))
            go_roundw
            case rel => exact ⟨2, 2, by omega, rfl, rfl, by rw [HST.out]; exact .inr ⟨g5, c5, by rw [List.length_append]; rfl, by rw [List.length_append]; exact Nat.succ_pos _, HO5.out.mono (by have := HSA.out; omega)⟩, HC5.out, HB5.out, HL5.out⟩
            case measure => (simp [intOf] <;> omega)
          · have heq := HES.out
            have HBO := hide hbo
            clear hbo
            obtain ⟨bl, hbl⟩ : ∃ m, (B 1).length = m := ⟨_, rfl⟩
            rw [hbl] at HBO hb0 ⊢
            have HBN := hide hbl
            by_cases hsh : l.length + 1 < bl
            · have HST : Hid (B 2 = l ++ [BitVec.ofNat 8 1]) := HS2.out.trans (step_take HND.out (.inr (by omega)))
              clear hbl HBE HBX
              have hshi : (l.length : Int) + 1 < (bl : Int) := by omega
              go_wp2_with (first
            | (go_at_call 14; refine (HLZ.out _ HBA.out).mono ?_; rintro e w2 ⟨v2, rfl, ho, hb⟩; obtain ⟨a2, c2, e2⟩ := ho.shape; subst e2; have HO2 := hide ho; have HB2 := hide (below_trans HBA.out hb); have HV2 := hide hb; clear ho hb)
            | (go_at_call 81; refine (dense_any (l.length : Int) (n : Int) _ (by omega) (by omega)).mono ?_; rintro e w2 ⟨rfl, rfl⟩)
            | (at_builtin; refine push2 _ rfl _ _ rfl (wr.alloc (Obj.cells #[Value.func (Fn.func 14) #[] #[], Value.func (Fn.func 12) #[] #[]] 134)).heap.size (.slice a2 l.length c2) l rfl (HO2.out.below ((Below.refl w2.heap.size w2).alloc (Nat.le_refl _) _)) ⟨w2.heap.size, 0, none⟩ 1 1 rfl (cell_one_new _ _ _ 0 _ rfl) (by omega) (by have := HV2.out.size; have q : (w2.alloc (.cells #[.int .u8 1] 5)).heap.size = w2.heap.size + 1 := (by simp); omega) ?_; intro g5 c5 w5 ho5 hor5; have HO5 := hide ho5; have hv := HV2.out.size; have hs := HSA.out; have hxx : Below w2.heap.size w2 (w2.alloc (.cells #[.int .u8 1] 5)) := (Below.refl _ _).alloc (Nat.le_refl _) _; have hx : Below w.heap.size w (w2.alloc (.cells #[.int .u8 1] 5)) := HB2.out.alloc HB2.out.size _; have hcx : (w2.alloc (.cells #[.int .u8 1] 5)).heap[w.heap.size]? = some codesO := (hxx.block _ (by omega)).trans ((HV2.out.block _ (by omega)).trans ((HWA.out.block _ HLT.out).trans HC.out)); have hxs := hxx.size; have HB5 : Hid (Below w.heap.size w w5) := hor5.elim (fun ⟨q1, q2⟩ => hx.grown q2 hx.size (fun i e => by cases e; have := (blk HO2.out _ q1).1; omega)) (fun ⟨q1, q2⟩ => hx.grown q2 hx.size (fun i e => nomatch e)); have HC5 : Hid (w5.heap[w.heap.size]? = some codesO) := hor5.elim (fun ⟨q1, q2⟩ => (q2.block _ (by omega) (fun e => by have := (blk HO2.out _ q1).1; have := Option.some.inj e; omega)).trans hcx) (fun ⟨q1, q2⟩ => (q2.block _ (by omega) (fun e => nomatch e)).trans hcx); have HL5 : Hid (w.heap.size < w5.heap.size) := hor5.elim (fun ⟨q1, q2⟩ => (by show w.heap.size < _; have := q2.size; omega)) (fun ⟨q1, q2⟩ => (by show w.heap.size < _; have := q2.size; omega)); have HK5 : Hid (∀ v b, Own wr w.heap.size v b → Own w5 w.heap.size v b) := (fun v b hv => hor5.elim (fun ⟨q1, q2⟩ => Base.keep (((hv.below HWA.out).below HV2.out).below hxx) q2 (fun i j e1 e2 e3 => by have k1 := (blk hv i e1).2; have k2 := (blk HO2.out _ q1).1; have := Option.some.inj e2; omega)) (fun ⟨q1, q2⟩ => Base.keep (((hv.below HWA.out).below HV2.out).below hxx) q2 (fun i j e1 e2 e3 => nomatch e2))); clear hv hs hxx hx hcx hxs ho5 hor5))
              go_roundw
              case rel => exact ⟨2, 2, by omega, rfl, rfl, by rw [HST.out]; exact .inr ⟨g5, c5, by rw [List.length_append]; rfl, by rw [List.length_append]; exact Nat.succ_pos _, HO5.out.mono (by have := HSA.out; omega)⟩, HC5.out, HB5.out, HL5.out⟩
              case measure => (simp [intOf] <;> omega)
            · have HST : Hid (B 2 = B 1) := HS2.out.trans (step_keep HND.out (fun e => by rcases e with e | e; rw [e] at hbl; simp at hbl; omega; omega))
              clear hbl HBE HBX
              have hshi : ¬ (l.length : Int) + 1 < (bl : Int) := by omega
              go_wp2_with (first
            | (go_at_call 14; refine (HLZ.out _ HBA.out).mono ?_; rintro e w2 ⟨v2, rfl, ho, hb⟩; obtain ⟨a2, c2, e2⟩ := ho.shape; subst e2; have HO2 := hide ho; have HB2 := hide (below_trans HBA.out hb); have HV2 := hide hb; clear ho hb)
            | (go_at_call 81; refine (dense_any (l.length : Int) (n : Int) _ (by omega) (by omega)).mono ?_; rintro e w2 ⟨rfl, rfl⟩)
            | (at_builtin; refine push2 _ rfl _ _ rfl (wr.alloc (Obj.cells #[Value.func (Fn.func 14) #[] #[], Value.func (Fn.func 12) #[] #[]] 134)).heap.size (.slice a2 l.length c2) l rfl (HO2.out.below ((Below.refl w2.heap.size w2).alloc (Nat.le_refl _) _)) ⟨w2.heap.size, 0, none⟩ 1 1 rfl (cell_one_new _ _ _ 0 _ rfl) (by omega) (by have := HV2.out.size; have q : (w2.alloc (.cells #[.int .u8 1] 5)).heap.size = w2.heap.size + 1 := (by simp); omega) ?_; intro g5 c5 w5 ho5 hor5; have HO5 := hide ho5; have hv := HV2.out.size; have hs := HSA.out; have hxx : Below w2.heap.size w2 (w2.alloc (.cells #[.int .u8 1] 5)) := (Below.refl _ _).alloc (Nat.le_refl _) _; have hx : Below w.heap.size w (w2.alloc (.cells #[.int .u8 1] 5)) := HB2.out.alloc HB2.out.size _; have hcx : (w2.alloc (.cells #[.int .u8 1] 5)).heap[w.heap.size]? = some codesO := (hxx.block _ (by omega)).trans ((HV2.out.block _ (by omega)).trans ((HWA.out.block _ HLT.out).trans HC.out)); have hxs := hxx.size; have HB5 : Hid (Below w.heap.size w w5) := hor5.elim (fun ⟨q1, q2⟩ => hx.grown q2 hx.size (fun i e => by cases e; have := (blk HO2.out _ q1).1; omega)) (fun ⟨q1, q2⟩ => hx.grown q2 hx.size (fun i e => nomatch e)); have HC5 : Hid (w5.heap[w.heap.size]? = some codesO) := hor5.elim (fun ⟨q1, q2⟩ => (q2.block _ (by omega) (fun e => by have := (blk HO2.out _ q1).1; have := Option.some.inj e; omega)).trans hcx) (fun ⟨q1, q2⟩ => (q2.block _ (by omega) (fun e => nomatch e)).trans hcx); have HL5 : Hid (w.heap.size < w5.heap.size) := hor5.elim (fun ⟨q1, q2⟩ => (by show w.heap.size < _; have := q2.size; omega)) (fun ⟨q1, q2⟩ => (by show w.heap.size < _; have := q2.size; omega)); have HK5 : Hid (∀ v b, Own wr w.heap.size v b → Own w5 w.heap.size v b) := (fun v b hv => hor5.elim (fun ⟨q1, q2⟩ => Base.keep (((hv.below HWA.out).below HV2.out).below hxx) q2 (fun i j e1 e2 e3 => by have k1 := (blk hv i e1).2; have k2 := (blk HO2.out _ q1).1; have := Option.some.inj e2; omega)) (fun ⟨q1, q2⟩ => Base.keep (((hv.below HWA.out).below HV2.out).below hxx) q2 (fun i j e1 e2 e3 => nomatch e2))); clear hv hs hxx hx hcx hxs ho5 hor5))
              go_roundw
              case rel => exact ⟨2, 2, by omega, rfl, rfl, by rw [HST.out]; exact .inr ⟨gb, cb, by rw [HBN.out], by rw [HBN.out]; exact hb0, HK5.out _ _ HBO.out⟩, HC5.out, HB5.out, HL5.out⟩
              case measure => (simp [intOf] <;> omega)
      · obtain rfl : z = 2 := by omega
        clear hz hk hk3
        have hpl : h.length ≤ 8388608 := hh
        have c0 : wr.cell? ⟨w.heap.size, 4, none⟩ = some (.func (Fn.func 15) #[] #[]) := codes_load wr w.heap.size 4 HC.out
        have c1 : wr.cell? ⟨w.heap.size, 5, none⟩ = some (.func (Fn.func 13) #[] #[]) := codes_load wr w.heap.size 5 HC.out
        have zc0 : (wr.alloc (Obj.cells #[Value.nilFunc, Value.nilFunc] 134)).cell? ⟨wr.heap.size, 0, none⟩ = some .nilFunc := (zero_at wr).1
        have zc1 : (wr.alloc (Obj.cells #[Value.nilFunc, Value.nilFunc] 134)).cell? ⟨wr.heap.size, 1, none⟩ = some .nilFunc := (zero_at wr).2.1
        have zf0 : (wr.alloc (Obj.cells #[Value.nilFunc, Value.nilFunc] 134)).frozen? ⟨wr.heap.size, 0, none⟩ = false := (zero_at wr).2.2 0
        have zf1 : (wr.alloc (Obj.cells #[Value.nilFunc, Value.nilFunc] 134)).frozen? ⟨wr.heap.size, 1, none⟩ = false := (zero_at wr).2.2 1
        have HBA : Hid (Below w.heap.size w (wr.alloc (Obj.cells #[Value.func (Fn.func 15) #[] #[], Value.func (Fn.func 13) #[] #[]] 134))) := HB.out.alloc HB.out.size _
        have HWA : Hid (Below wr.heap.size wr (wr.alloc (Obj.cells #[Value.func (Fn.func 15) #[] #[], Value.func (Fn.func 13) #[] #[]] 134))) := (Below.refl _ _).alloc (Nat.le_refl _) _
        have HSA : Hid (w.heap.size < (wr.alloc (Obj.cells #[Value.func (Fn.func 15) #[] #[], Value.func (Fn.func 13) #[] #[]] 134)).heap.size ∧ wr.heap.size ≤ (wr.alloc (Obj.cells #[Value.func (Fn.func 15) #[] #[], Value.func (Fn.func 13) #[] #[]] 134)).heap.size) := (by have := HLT.out; have q : (wr.alloc (Obj.cells #[Value.func (Fn.func 15) #[] #[], Value.func (Fn.func 13) #[] #[]] 134)).heap.size = wr.heap.size + 1 := (by simp); exact ⟨by omega, by omega⟩)
        by_cases her : er = 0
        · subst her
          by_cases hd : (64 : Int) * (h.length : Int) < (n : Int)
          · have HST : Hid (B 3 = B 2) := HS3.out.trans (step_skip (.inr (by omega)))
            have hdd : decide ((64 : Int) * (h.length : Int) < (n : Int)) = true := by simpa using hd
            go_wp2_with (first
            | (go_at_call 15; refine (HHU.out _ HBA.out).mono ?_; rintro e w2 ⟨v2, rfl, ho, hb⟩; obtain ⟨a2, c2, e2⟩ := ho.shape; subst e2; have HO2 := hide ho; have HB2 := hide (below_trans HBA.out hb); have HV2 := hide hb; clear ho hb)
            | (go_at_call 81; refine (dense_any (h.length : Int) (n : Int) _ (by omega) (by omega)).mono ?_; rintro e w2 ⟨rfl, rfl⟩))
            go_roundw
            case rel => exact ⟨3, 3, by omega, rfl, rfl, by rw [HST.out]; exact (HBE.out.below HWA.out).below HV2.out, (HV2.out.block _ (by have := HSA.out; omega)).trans ((HWA.out.block _ HLT.out).trans HC.out), HB2.out, by show w.heap.size < _; have := HB2.out.size; have := HV2.out.size; have := HSA.out; omega⟩
            case measure => (simp [intOf] <;> omega)
          · have hnd : ¬ (((0 : Int) ≠ 0) ∨ 64 * h.length < n) := by omega
            have hdd : decide ((64 : Int) * (h.length : Int) < (n : Int)) = false := by simpa using hd
            have HND := hide hnd
            clear hnd
            have HBX := hide HBE.out
            rcases HBE.out with ⟨rfl, hb0⟩ | ⟨gb, cb, rfl, hb0, hbo⟩
            · have HST : Hid (B 3 = h ++ [BitVec.ofNat 8 2]) := HS3.out.trans (step_take HND.out (.inl hb0))
              clear hb0 HBE
              have heq := HEQ.out
              go_wp2_with (first
            | (go_at_call 15; refine (HHU.out _ HBA.out).mono ?_; rintro e w2 ⟨v2, rfl, ho, hb⟩; obtain ⟨a2, c2, e2⟩ := ho.shape; subst e2; have HO2 := hide ho; have HB2 := hide (below_trans HBA.out hb); have HV2 := hide hb; clear ho hb)
            | (go_at_call 81; refine (dense_any (h.length : Int) (n : Int) _ (by omega) (by omega)).mono ?_; rintro e w2 ⟨rfl, rfl⟩)
            | (at_builtin; refine push2 _ rfl _ _ rfl (wr.alloc (Obj.cells #[Value.func (Fn.func 15) #[] #[], Value.func (Fn.func 13) #[] #[]] 134)).heap.size (.slice a2 h.length c2) h rfl (HO2.out.below ((Below.refl w2.heap.size w2).alloc (Nat.le_refl _) _)) ⟨w2.heap.size, 0, none⟩ 1 2 rfl (cell_one_new _ _ _ 0 _ rfl) (by omega) (by have := HV2.out.size; have q : (w2.alloc (.cells #[.int .u8 2] 5)).heap.size = w2.heap.size + 1 := (by simp); omega) ?_; intro g5 c5 w5 ho5 hor5; have HO5 := hide ho5; have hv := HV2.out.size; have hs := HSA.out; have hxx : Below w2.heap.size w2 (w2.alloc (.cells #[.int .u8 2] 5)) := (Below.refl _ _).alloc (Nat.le_refl _) _; have hx : Below w.heap.size w (w2.alloc (.cells #[.int .u8 2] 5)) := HB2.out.alloc HB2.out.size _; have hcx : (w2.alloc (.cells #[.int .u8 2] 5)).heap[w.heap.size]? = some codesO := (hxx.block _ (by omega)).trans ((HV2.out.block _ (by omega)).trans ((HWA.out.block _ HLT.out).trans HC.out)); have hxs := hxx.size; have HB5 : Hid (Below w.heap.size w w5) := hor5.elim (fun ⟨q1, q2⟩ => hx.grown q2 hx.size (fun i e => by cases e; have := (blk HO2.out _ q1).1; omega)) (fun ⟨q1, q2⟩ => hx.grown q2 hx.size (fun i e => nomatch e)); have HC5 : Hid (w5.heap[w.heap.size]? = some codesO) := hor5.elim (fun ⟨q1, q2⟩ => (q2.block _ (by omega) (fun e => by have := (blk HO2.out _ q1).1; have := Option.some.inj e; omega)).trans hcx) (fun ⟨q1, q2⟩ => (q2.block _ (by omega) (fun e => nomatch e)).trans hcx); have HL5 : Hid (w.heap.size < w5.heap.size) := hor5.elim (fun ⟨q1, q2⟩ => (by show w.heap.size < _; have := q2.size; omega)) (fun ⟨q1, q2⟩ => (by show w.heap.size < _; have := q2.size; omega)); have HK5 : Hid (∀ v b, Own wr w.heap.size v b → Own w5 w.heap.size v b) := (fun v b hv => hor5.elim (fun ⟨q1, q2⟩ => Base.keep (((hv.below HWA.out).below HV2.out).below hxx) q2 (fun i j e1 e2 e3 => by have k1 := (blk hv i e1).2; have k2 := (blk HO2.out _ q1).1; have := Option.some.inj e2; omega)) (fun ⟨q1, q2⟩ => Base.keep (((hv.below HWA.out).below HV2.out).below hxx) q2 (fun i j e1 e2 e3 => nomatch e2))); clear hv hs hxx hx hcx hxs ho5 hor5))
              go_roundw
              case rel => exact ⟨3, 3, by omega, rfl, rfl, by rw [HST.out]; exact .inr ⟨g5, c5, by rw [List.length_append]; rfl, by rw [List.length_append]; exact Nat.succ_pos _, HO5.out.mono (by have := HSA.out; omega)⟩, HC5.out, HB5.out, HL5.out⟩
              case measure => (simp [intOf] <;> omega)
            · have heq := HES.out
              have HBO := hide hbo
              clear hbo
              obtain ⟨bl, hbl⟩ : ∃ m, (B 2).length = m := ⟨_, rfl⟩
              rw [hbl] at HBO hb0 ⊢
              have HBN := hide hbl
              by_cases hsh : h.length + 1 < bl
              · have HST : Hid (B 3 = h ++ [BitVec.ofNat 8 2]) := HS3.out.trans (step_take HND.out (.inr (by omega)))
                clear hbl HBE HBX
                have hshi : (h.length : Int) + 1 < (bl : Int) := by omega
                go_wp2_with (first
            | (go_at_call 15; refine (HHU.out _ HBA.out).mono ?_; rintro e w2 ⟨v2, rfl, ho, hb⟩; obtain ⟨a2, c2, e2⟩ := ho.shape; subst e2; have HO2 := hide ho; have HB2 := hide (below_trans HBA.out hb); have HV2 := hide hb; clear ho hb)
            | (go_at_call 81; refine (dense_any (h.length : Int) (n : Int) _ (by omega) (by omega)).mono ?_; rintro e w2 ⟨rfl, rfl⟩)
            | (at_builtin; refine push2 _ rfl _ _ rfl (wr.alloc (Obj.cells #[Value.func (Fn.func 15) #[] #[], Value.func (Fn.func 13) #[] #[]] 134)).heap.size (.slice a2 h.length c2) h rfl (HO2.out.below ((Below.refl w2.heap.size w2).alloc (Nat.le_refl _) _)) ⟨w2.heap.size, 0, none⟩ 1 2 rfl (cell_one_new _ _ _ 0 _ rfl) (by omega) (by have := HV2.out.size; have q : (w2.alloc (.cells #[.int .u8 2] 5)).heap.size = w2.heap.size + 1 := (by simp); omega) ?_; intro g5 c5 w5 ho5 hor5; have HO5 := hide ho5; have hv := HV2.out.size; have hs := HSA.out; have hxx : Below w2.heap.size w2 (w2.alloc (.cells #[.int .u8 2] 5)) := (Below.refl _ _).alloc (Nat.le_refl _) _; have hx : Below w.heap.size w (w2.alloc (.cells #[.int .u8 2] 5)) := HB2.out.alloc HB2.out.size _; have hcx : (w2.alloc (.cells #[.int .u8 2] 5)).heap[w.heap.size]? = some codesO := (hxx.block _ (by omega)).trans ((HV2.out.block _ (by omega)).trans ((HWA.out.block _ HLT.out).trans HC.out)); have hxs := hxx.size; have HB5 : Hid (Below w.heap.size w w5) := hor5.elim (fun ⟨q1, q2⟩ => hx.grown q2 hx.size (fun i e => by cases e; have := (blk HO2.out _ q1).1; omega)) (fun ⟨q1, q2⟩ => hx.grown q2 hx.size (fun i e => nomatch e)); have HC5 : Hid (w5.heap[w.heap.size]? = some codesO) := hor5.elim (fun ⟨q1, q2⟩ => (q2.block _ (by omega) (fun e => by have := (blk HO2.out _ q1).1; have := Option.some.inj e; omega)).trans hcx) (fun ⟨q1, q2⟩ => (q2.block _ (by omega) (fun e => nomatch e)).trans hcx); have HL5 : Hid (w.heap.size < w5.heap.size) := hor5.elim (fun ⟨q1, q2⟩ => (by show w.heap.size < _; have := q2.size; omega)) (fun ⟨q1, q2⟩ => (by show w.heap.size < _; have := q2.size; omega)); have HK5 : Hid (∀ v b, Own wr w.heap.size v b → Own w5 w.heap.size v b) := (fun v b hv => hor5.elim (fun ⟨q1, q2⟩ => Base.keep (((hv.below HWA.out).below HV2.out).below hxx) q2 (fun i j e1 e2 e3 => by have k1 := (blk hv i e1).2; have k2 := (blk HO2.out _ q1).1; have := Option.some.inj e2; omega)) (fun ⟨q1, q2⟩ => Base.keep (((hv.below HWA.out).below HV2.out).below hxx) q2 (fun i j e1 e2 e3 => nomatch e2))); clear hv hs hxx hx hcx hxs ho5 hor5))
                go_roundw
                case rel => exact ⟨3, 3, by omega, rfl, rfl, by rw [HST.out]; exact .inr ⟨g5, c5, by rw [List.length_append]; rfl, by rw [List.length_append]; exact Nat.succ_pos _, HO5.out.mono (by have := HSA.out; omega)⟩, HC5.out, HB5.out, HL5.out⟩
                case measure => (simp [intOf] <;> omega)
              · have HST : Hid (B 3 = B 2) := HS3.out.trans (step_keep HND.out (fun e => by rcases e with e | e; rw [e] at hbl; simp at hbl; omega; omega))
                clear hbl HBE HBX
                have hshi : ¬ (h.length : Int) + 1 < (bl : Int) := by omega
                go_wp2_with (first
            | (go_at_call 15; refine (HHU.out _ HBA.out).mono ?_; rintro e w2 ⟨v2, rfl, ho, hb⟩; obtain ⟨a2, c2, e2⟩ := ho.shape; subst e2; have HO2 := hide ho; have HB2 := hide (below_trans HBA.out hb); have HV2 := hide hb; clear ho hb)
            | (go_at_call 81; refine (dense_any (h.length : Int) (n : Int) _ (by omega) (by omega)).mono ?_; rintro e w2 ⟨rfl, rfl⟩)
            | (at_builtin; refine push2 _ rfl _ _ rfl (wr.alloc (Obj.cells #[Value.func (Fn.func 15) #[] #[], Value.func (Fn.func 13) #[] #[]] 134)).heap.size (.slice a2 h.length c2) h rfl (HO2.out.below ((Below.refl w2.heap.size w2).alloc (Nat.le_refl _) _)) ⟨w2.heap.size, 0, none⟩ 1 2 rfl (cell_one_new _ _ _ 0 _ rfl) (by omega) (by have := HV2.out.size; have q : (w2.alloc (.cells #[.int .u8 2] 5)).heap.size = w2.heap.size + 1 := (by simp); omega) ?_; intro g5 c5 w5 ho5 hor5; have HO5 := hide ho5; have hv := HV2.out.size; have hs := HSA.out; have hxx : Below w2.heap.size w2 (w2.alloc (.cells #[.int .u8 2] 5)) := (Below.refl _ _).alloc (Nat.le_refl _) _; have hx : Below w.heap.size w (w2.alloc (.cells #[.int .u8 2] 5)) := HB2.out.alloc HB2.out.size _; have hcx : (w2.alloc (.cells #[.int .u8 2] 5)).heap[w.heap.size]? = some codesO := (hxx.block _ (by omega)).trans ((HV2.out.block _ (by omega)).trans ((HWA.out.block _ HLT.out).trans HC.out)); have hxs := hxx.size; have HB5 : Hid (Below w.heap.size w w5) := hor5.elim (fun ⟨q1, q2⟩ => hx.grown q2 hx.size (fun i e => by cases e; have := (blk HO2.out _ q1).1; omega)) (fun ⟨q1, q2⟩ => hx.grown q2 hx.size (fun i e => nomatch e)); have HC5 : Hid (w5.heap[w.heap.size]? = some codesO) := hor5.elim (fun ⟨q1, q2⟩ => (q2.block _ (by omega) (fun e => by have := (blk HO2.out _ q1).1; have := Option.some.inj e; omega)).trans hcx) (fun ⟨q1, q2⟩ => (q2.block _ (by omega) (fun e => nomatch e)).trans hcx); have HL5 : Hid (w.heap.size < w5.heap.size) := hor5.elim (fun ⟨q1, q2⟩ => (by show w.heap.size < _; have := q2.size; omega)) (fun ⟨q1, q2⟩ => (by show w.heap.size < _; have := q2.size; omega)); have HK5 : Hid (∀ v b, Own wr w.heap.size v b → Own w5 w.heap.size v b) := (fun v b hv => hor5.elim (fun ⟨q1, q2⟩ => Base.keep (((hv.below HWA.out).below HV2.out).below hxx) q2 (fun i j e1 e2 e3 => by have k1 := (blk hv i e1).2; have k2 := (blk HO2.out _ q1).1; have := Option.some.inj e2; omega)) (fun ⟨q1, q2⟩ => Base.keep (((hv.below HWA.out).below HV2.out).below hxx) q2 (fun i j e1 e2 e3 => nomatch e2))); clear hv hs hxx hx hcx hxs ho5 hor5))
                go_roundw
                case rel => exact ⟨3, 3, by omega, rfl, rfl, by rw [HST.out]; exact .inr ⟨gb, cb, by rw [HBN.out], by rw [HBN.out]; exact hb0, HK5.out _ _ HBO.out⟩, HC5.out, HB5.out, HL5.out⟩
                case measure => (simp [intOf] <;> omega)
        · have HST : Hid (B 3 = B 2) := HS3.out.trans (step_skip (.inl her))
          have hneq : (er != 0) = true := by simpa using her
          go_wp2_with (first
            | (go_at_call 15; refine (HHU.out _ HBA.out).mono ?_; rintro e w2 ⟨v2, rfl, ho, hb⟩; obtain ⟨a2, c2, e2⟩ := ho.shape; subst e2; have HO2 := hide ho; have HB2 := hide (below_trans HBA.out hb); have HV2 := hide hb; clear ho hb)
            | (go_at_call 81; refine (dense_any (h.length : Int) (n : Int) _ (by omega) (by omega)).mono ?_; rintro e w2 ⟨rfl, rfl⟩))
          go_roundw
          case rel => exact ⟨3, 3, by omega, rfl, rfl, by rw [HST.out]; exact (HBE.out.below HWA.out).below HV2.out, (HV2.out.block _ (by have := HSA.out; omega)).trans ((HWA.out.block _ HLT.out).trans HC.out), HB2.out, by show w.heap.size < _; have := HB2.out.size; have := HV2.out.size; have := HSA.out; omega⟩
          case measure => (simp [intOf] <;> omega)
    · obtain rfl : k = 3 := by omega
      obtain rfl : z = 3 := by omega
      clear hz hk hk3
      go_wp2_with fail
      go_ret
      exact ⟨_, rfl, HBE.out, HB.out⟩
end Go.Proofs.YthdblnfohbldcaaGreat.Bl
