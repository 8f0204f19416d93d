/-
  What was handed out is kept: bytes and lists that are nil.
-/
import Derived.Test.YtndodbfhigejfacSnNil
import Derived.Test.YtndodbfhigejfacRowV
import Derived.Deep.OwnRows
namespace Go.Proofs.Ytndodbfhigejfac.Sn
open Go.ChangeShapes Go.WideShapes Go.ChangeAt Go.RowKit
open Go.Proofs.Ytndodbfhigejfac.Base
set_option linter.unusedVariables false
/-- The block g is a world of nil stores. -/
def KW (w : World) (g base : Nat) (c2 c3 c4 c5 : Value) : Prop := w.heap[g]? = some (.cells #[.pointer none, .pointer none, c2, c3, c4, c5] 55) ∧ g < base ∧ base ≤ w.heap.size
theorem KW.cells {w : World} {g base : Nat} {c2 c3 c4 c5 : Value} (h : KW w g base c2 c3 c4 c5) : w.cell? ⟨g, 0, none⟩ = some (.pointer none) ∧ w.cell? ⟨g, 1, none⟩ = some (.pointer none) ∧ w.cell? ⟨g, 2, none⟩ = some c2 ∧ w.cell? ⟨g, 3, none⟩ = some c3 ∧ w.cell? ⟨g, 4, none⟩ = some c4 ∧ w.cell? ⟨g, 5, none⟩ = some c5 := by
  refine ⟨?_, ?_, ?_, ?_, ?_, ?_⟩ <;> (rw [cell_of_row _ _ _ _ _ _ h.1]; rfl)
theorem KW.frozen {w : World} {g base : Nat} {c2 c3 c4 c5 : Value} (h : KW w g base c2 c3 c4 c5) (k : Nat) : w.frozen? ⟨g, k, none⟩ = false := frozen_of_row _ _ _ _ _ h.1
theorem KW.grown {w w' : World} {g base : Nat} {c2 c3 c4 c5 : Value} {q : Option Nat} (h : KW w g base c2 c3 c4 c5) (hg : w.grownBy w' q) (hq : q ≠ some g) : KW w' g base c2 c3 c4 c5 :=
  ⟨by rw [hg.block g (by have := h.2.1; have := h.2.2; omega) (fun e => hq e.symm)]; exact h.1, h.2.1, Nat.le_trans h.2.2 hg.size⟩
theorem KW.set2 {w : World} {g base : Nat} {c2 c3 c4 c5 : Value} (h : KW w g base c2 c3 c4 c5) (v : Value) : KW (w.setCell ⟨g, 2, none⟩ v) g base v c3 c4 c5 :=
  ⟨by rw [heap_setCell_same _ _ _ _ _ _ h.1]; rfl, h.2.1, by simp [World.setCell]; exact h.2.2⟩
theorem KW.set3 {w : World} {g base : Nat} {c2 c3 c4 c5 : Value} (h : KW w g base c2 c3 c4 c5) (v : Value) : KW (w.setCell ⟨g, 3, none⟩ v) g base c2 v c4 c5 :=
  ⟨by rw [heap_setCell_same _ _ _ _ _ _ h.1]; rfl, h.2.1, by simp [World.setCell]; exact h.2.2⟩
theorem KW.set4 {w : World} {g base : Nat} {c2 c3 c4 c5 : Value} (h : KW w g base c2 c3 c4 c5) (v : Value) : KW (w.setCell ⟨g, 4, none⟩ v) g base c2 c3 v c5 :=
  ⟨by rw [heap_setCell_same _ _ _ _ _ _ h.1]; rfl, h.2.1, by simp [World.setCell]; exact h.2.2⟩
theorem KW.set5 {w : World} {g base : Nat} {c2 c3 c4 c5 : Value} (h : KW w g base c2 c3 c4 c5) (v : Value) : KW (w.setCell ⟨g, 5, none⟩ v) g base c2 c3 c4 v :=
  ⟨by rw [heap_setCell_same _ _ _ _ _ _ h.1]; rfl, h.2.1, by simp [World.setCell]; exact h.2.2⟩
theorem infoBytes : (Try.prog.info? 25).map (fun i => (i.zero, i.size, i.bytes)) = some (some (.slice none 0 0), 1, 24) := by kernel_rfl
theorem infoInfos : (Try.prog.info? 42).map (fun i => (i.zero, i.size, i.bytes)) = some (some (.slice none 0 0), 1, 24) := by kernel_rfl
theorem infoInfo : (Try.prog.info? 45).map (fun i => (i.zero, i.size, i.bytes)) = some (some (.agg #[.string ⟨#[]⟩, .int .i64 0, .int .i64 0]), 3, 32) := by kernel_rfl
theorem put1_ne {W w' : World} {v : Value} {g k : Nat} (h : Put1 W w' v g) (hv : ∀ i, v.ownBlock = some i → k ≠ i) (hk : k < W.heap.size) : W.grownBy w' v.ownBlock := by
  rcases h with ⟨e, h⟩ | ⟨e, h⟩
  · rw [e]; exact h
  · exact grown_any h _
/-- append of one line of a list. -/
theorem pushInfo {ops : Array Oper} {rest : List Oper} {o : Oper} {a : Act} {Q : Exit → Act → World → Prop} (w : World) (hgd : o.guard = none) (s x : Operand)
    (ho : o.op = .call { callee := .builtin .append, args := #[s, x], argTypes := #[42, 42] })
    (base : Nat) (v : Value) (n : Nat) (xs : List Value) (hs : a.eval s = v) (hown : w.ownsRow base 45 3 v n xs) (ad : Addr) (cap : Nat) (u0 u1 u2 : Value) (hx : a.eval x = .slice (some ad) 1 cap)
    (hc0 : w.cell? (ad.add 0) = some u0) (hc1 : w.cell? (ad.add 1) = some u1) (hc2 : w.cell? (ad.add 2) = some u2) (h0 : u0.oneCell' = true) (h1 : u1.oneCell' = true) (h2 : u2.oneCell' = true) (hl : n + 1 ≤ 137438953472) (hbase : base ≤ w.heap.size)
    (h : ∀ v' w', w'.ownsRow base 45 3 v' (n + 1) (xs ++ [u0, u1, u2]) → w.grownBy w' v.ownBlock → wpList Try.prog ops Q rest (a.put o.dst v') w') : wpList Try.prog ops Q (o :: rest) a w := by
  obtain ⟨i0, hi, hz0, hz1, hz2⟩ := info_parts infoInfo
  refine wpList_append_own w hgd s x 42 ho base 45 i0 (.agg #[.string ⟨#[]⟩, .int .i64 0, .int .i64 0]) 3 32 Try.underlying42 hi hz0 hz1 hz2 rfl (by omega) v n xs hs hown ad 1 cap [u0, u1, u2] hx rfl ?_ ?_ (by unfold maxLen; omega) (by omega) hbase ?_
  · intro j u hu
    match j with
    | 0 => simp at hu; subst hu; exact hc0
    | 1 => simp at hu; subst hu; exact hc1
    | 2 => simp at hu; subst hu; exact hc2
    | j + 3 => simp at hu
  · intro u hu
    simp at hu
    rcases hu with rfl | rfl | rfl
    · exact h0
    · exact h1
    · exact h2
  · intro v' w' k1 k2 _
    exact h v' w' k1 k2
theorem rowInfo_shape {w : World} {base n : Nat} {v : Value} {xs : List Value} (h : w.ownsRow base 45 3 v (n + 1) xs) : ∃ a c, v = .slice a (n + 1) c := by
  rcases h.2 with ⟨_, h2⟩ | ⟨g, c, cur, h1, _⟩
  · omega
  · exact ⟨_, c, h1⟩
/-- Two rows of the call's own, apart from each other. -/
def Two (w : World) (base : Nat) (T : TypeId) (v u : Value) (n : Nat) : Prop := (∃ xs, w.ownsRow base T 1 v n xs) ∧ (∃ ys, w.ownsRow base T 1 u n ys) ∧ ∀ i, v.ownBlock = some i → u.ownBlock ≠ some i
theorem rowV_lt {w : World} {base n : Nat} {T : TypeId} {v : Value} {xs : List Value} (h : w.ownsRow base T 1 v n xs) : ∀ i, v.ownBlock = some i → base ≤ i ∧ i < w.heap.size := fun i e => World.ownsRow.lt h i e
theorem put1_grown {W w' : World} {v : Value} {g : Nat} (h : Put1 W w' v g) : W.grownBy w' v.ownBlock := by
  rcases h with ⟨e, h⟩ | ⟨e, h⟩
  · rw [e]; exact h
  · exact grown_any h _
set_option maxHeartbeats 2000000 in
set_option maxRecDepth 100000 in
theorem keepBytes_any (g base n : Nat) (c2 c3 c4 c5 : Value) (w : World) (hk : KW w g base c2 c3 c4 c5) (ht : Two w base 25 c2 c4 n) (hn : n ≤ 1000) :
    Calls Try.prog 41 #[.pointer (some ⟨g, 0, none⟩), .slice none 0 0] w fun e w' => ∃ d2 d4, e = .returned (.tuple #[]) ∧ KW w' g base d2 c3 d4 c5 ∧ Two w' base 25 d2 d4 (n + 1) ∧ Below g w w' := by
  obtain ⟨⟨xs, hx⟩, ⟨ys, hy⟩, hne⟩ := ht
  obtain ⟨aP, cP, hcP⟩ := rowV_shape hx
  obtain ⟨aQ, cQ, hcQ⟩ := rowV_shape hy
  subst hcP hcQ
  obtain ⟨e0, e1, e2, e3, e4, e5⟩ := hk.cells
  have fz := hk.frozen
  have HK := hide hk
  have HX := hide hx
  have HY := hide hy
  have HNE := hide hne
  have hgb : g < base := hk.2.1
  have hbs : base ≤ w.heap.size := hk.2.2
  have hni : (n : Int) ≤ 1000 := by omega
  have fP := fz 2
  have fQ := fz 4
  have hd0 : (n : Int) % 55 < 55 := by omega
  obtain ⟨d, hd⟩ : ∃ d : Nat, (200 : Int) + (n : Int) % 55 = (d : Int) := ⟨200 + n % 55, by omega⟩
  have hd2 : d ≤ 255 := by omega
  obtain ⟨D, hD⟩ : ∃ D : BitVec 8, (d : Int) = (D.toNat : Int) := ⟨BitVec.ofNat 8 d, by rw [BitVec.toNat_ofNat]; omega⟩
  have hd3 : (200 : Int) + (n : Int) % 55 = (D.toNat : Int) := hd.trans hD
  have hd4 : (D.toNat : Int) % 256 = (D.toNat : Int) := by omega
  have hd5 : IntKind.u8.wrap (D.toNat : Int) = (D.toNat : Int) := by rw [IntKind.wrap_u8]; omega
  clear hd hD hd2 hd0
  clear hk hx hy hne fz
  go_enter Try.func41, Try.ntmps41
  go_wp2_with fail
  go_loop [5] (fun i => i = .int .i64 0) (fun _ => 0)
  case atStart => exact rfl
  case round =>
  obtain rfl := hrel
  have HXA := hide (World.ownsRow.alloc HX.out (.cells #[.slice none 0 0] 25))
  have HKA := hide (HK.out.grown (grown_of_below (r := none) ((Below.refl w.heap.size w).alloc (Nat.le_refl _) (.cells #[.slice none 0 0] 25))) (by simp))
  go_wp2_with (at_builtin; refine pushV _ rfl _ _ 52 25 (.slice none 0 0) 24 rfl Try.underlying52 infoBytes rfl (by omega) base _ n xs rfl HXA.out ⟨w.heap.size, 0, none⟩ 1 (.slice none 0 0) rfl (cell_one_new _ _ _ 0 _ rfl) rfl (by omega) (by simp; omega) ?_
               intro g1 k1 w1 ho1 hp1
               have HG1 : Hid (w.grownBy w1 (Value.slice aP n cP).ownBlock) := grown_trans (grown_of_below ((Below.refl w.heap.size w).alloc (Nat.le_refl _) _)) (put1_grown hp1)
               have HK1 := hide (HKA.out.grown (put1_grown hp1) (fun e => by have := (rowV_lt HX.out g e).1; omega))
               have HY1 := hide (rowV_keep HY.out HG1.out (fun i e e2 => HNE.out i e2 e))
               have HO1 := hide ho1
               have HD1 : Hid (∀ i, (Value.slice (some ⟨g1, 0, none⟩) (n + 1) k1).ownBlock = some i → (Value.slice aQ n cQ).ownBlock ≠ some i) := by
                 show ∀ i, _
                 intro i e
                 have e' : g1 = i := Option.some.inj e
                 subst e'
                 rcases hp1 with ⟨q1, _⟩ | ⟨q1, _⟩
                 · exact HNE.out g1 q1
                 · intro e2; have := (rowV_lt HY.out g1 e2).2; simp at q1; omega
               obtain ⟨x0, x1, x2, x3, x4, x5⟩ := HK1.out.cells
               have y2 := HK1.out.frozen 2
               clear ho1 hp1 e0 e1 e2 e3 e4 e5)
  have HK2 := hide (HK1.out.set2 (.slice (some ⟨g1, 0, none⟩) (n + 1) k1))
  have HGC : Hid (w1.grownBy (w1.setCell ⟨g, 2, none⟩ (.slice (some ⟨g1, 0, none⟩) (n + 1) k1)) (some g)) := grown_cell (World.grownBy.refl _ _) _ _
  have HX2 := hide (rowV_keep HO1.out HGC.out (fun i e e2 => by have := (rowV_lt HO1.out i e).1; have := Option.some.inj e2; omega))
  have HY2 := hide (rowV_keep HY1.out HGC.out (fun i e e2 => by have := (rowV_lt HY1.out i e).1; have := Option.some.inj e2; omega))
  have HB2 : Hid (Below g w (w1.setCell ⟨g, 2, none⟩ (.slice (some ⟨g1, 0, none⟩) (n + 1) k1))) := ((Below.refl g w).grown HG1.out (by omega) (fun i e => by have := (rowV_lt HX.out i e).1; omega)).setCell (Nat.le_refl _) _
  obtain ⟨w2, hw2⟩ : ∃ w2, w1.setCell ⟨g, 2, none⟩ (.slice (some ⟨g1, 0, none⟩) (n + 1) k1) = w2 := ⟨_, rfl⟩
  rw [hw2] at HK2 HX2 HY2 HB2 ⊢
  obtain ⟨M, hM⟩ : ∃ M, w2.heap.size = M := ⟨_, rfl⟩
  have HM := hide hM
  have hgM : g < M := by have h1 := HK2.out.2.1; have h2 := HK2.out.2.2; omega
  have hbM : base ≤ M := by have h2 := HK2.out.2.2; omega
  clear hw2 hM HK1 HY1 HO1 HXA HKA HGC x0 x1 x2 x3 x4 x5 y2 HG1
  go_loopw [1, 6] (fun sv si wz => ∃ (j : Nat) (va : Option Addr) (vc : Nat) (L : List (BitVec 8)), j ≤ 64 ∧ si = .int .i64 (j : Int) ∧ sv = .slice va j vc ∧ Hid ((Own wz M (.slice va j vc) L ∧ L.length = j) ∧ KW wz g base (.slice (some ⟨g1, 0, none⟩) (n + 1) k1) c3 (.slice aQ n cQ) c5 ∧ wz.ownsRow base 25 1 (.slice (some ⟨g1, 0, none⟩) (n + 1) k1) (n + 1) (xs ++ [.slice none 0 0]) ∧ wz.ownsRow base 25 1 (.slice aQ n cQ) n ys ∧ Below g w wz ∧ M ≤ wz.heap.size)) (fun _ si _ => 64 - (intOf si).toNat)
  case atStart => exact ⟨0, none, 0, [], by omega, rfl, rfl, ⟨own_none _ _, rfl⟩, HK2.out, HX2.out, HY2.out, HB2.out, by rw [HM.out]; exact Nat.le_refl _⟩
  case round =>
    have HLB : Hid ((∀ i, (Value.slice (some ⟨g1, 0, none⟩) (n + 1) k1).ownBlock = some i → i < M) ∧ ∀ i, (Value.slice aQ n cQ).ownBlock = some i → i < M) := ⟨fun i e => by have := (rowV_lt HX2.out i e).2; rw [HM.out] at this; exact this, fun i e => by have := (rowV_lt HY2.out i e).2; rw [HM.out] at this; exact this⟩
    clear HK2 HX2 HY2 HB2
    obtain ⟨j, va, vc, L, hj, rfl, rfl, H⟩ := hrel
    have hMw : M ≤ wr.heap.size := H.out.2.2.2.2.2
    by_cases hlt : (j : Int) < 64
    · go_wp2_with (at_builtin; refine push _ rfl _ _ rfl M _ L rfl (H.out.1.1.below ((Below.refl wr.heap.size wr).alloc (Nat.le_refl _) _)) ⟨wr.heap.size, 0, none⟩ 1 D rfl (cell_one_new _ _ _ 0 _ rfl) (by have := H.out.1.2; omega) (by simp; omega) ?_
                   intro v9 w9 ho9 hg9
                   obtain ⟨va9, vc9, rfl⟩ := ho9.shape
                   have hq9 : (L ++ [D]).length = j + 1 := by rw [List.length_append, H.out.1.2]; rfl
                   rw [hq9] at ho9 ⊢
                   have HO9 : Hid (Own w9 M (.slice va9 (j + 1) vc9) (L ++ [D]) ∧ (L ++ [D]).length = j + 1) := ⟨ho9, hq9⟩
                   have HG9 : Hid (wr.grownBy w9 (Value.slice va j vc).ownBlock) := grown_trans (grown_of_below ((Below.refl wr.heap.size wr).alloc (Nat.le_refl _) _)) hg9
                   clear ho9 hg9 hq9)
      go_roundw
      case rel =>
        refine ⟨j + 1, va9, vc9, L ++ [D], by omega, by go_num, rfl, HO9.out, H.out.2.1.grown HG9.out (fun e => by have := (blk H.out.1.1 g e).1; omega), rowV_keep H.out.2.2.1 HG9.out (fun i e e2 => by have := HLB.out.1 i e; have := (blk H.out.1.1 i e2).1; omega), rowV_keep H.out.2.2.2.1 HG9.out (fun i e e2 => by have := HLB.out.2 i e; have := (blk H.out.1.1 i e2).1; omega), H.out.2.2.2.2.1.grown HG9.out (by omega) (fun i e => by have := (blk H.out.1.1 i e).1; omega), Nat.le_trans hMw HG9.out.size⟩
      case measure => simp [intOf]; omega
    · obtain rfl : j = 64 := by omega
      obtain ⟨x0, x1, x2, x3, x4, x5⟩ := H.out.2.1.cells
      have HYA := hide (World.ownsRow.alloc H.out.2.2.2.1 (.cells #[.slice va 64 vc] 25))
      have HKA := hide (H.out.2.1.grown (grown_of_below (r := none) ((Below.refl wr.heap.size wr).alloc (Nat.le_refl _) (.cells #[.slice va 64 vc] 25))) (by simp))
      go_wp2_with (at_builtin; refine pushV _ rfl _ _ 52 25 (.slice none 0 0) 24 rfl Try.underlying52 infoBytes rfl (by omega) base _ n ys rfl HYA.out ⟨wr.heap.size, 0, none⟩ 1 (.slice va 64 vc) rfl (cell_one_new _ _ _ 0 _ rfl) rfl (by omega) (by simp; omega) ?_
                   intro g3 k3 w3 ho3 hp3
                   have HG3 : Hid (wr.grownBy w3 (Value.slice aQ n cQ).ownBlock) := grown_trans (grown_of_below ((Below.refl wr.heap.size wr).alloc (Nat.le_refl _) _)) (put1_grown hp3)
                   have HK3 := hide (HKA.out.grown (put1_grown hp3) (fun e => by have := (rowV_lt H.out.2.2.2.1 g e).1; omega))
                   have HX3 := hide (rowV_keep H.out.2.2.1 HG3.out (fun i e e2 => HD1.out i e e2))
                   have HO3 := hide ho3
                   have HD3 : Hid (∀ i, (Value.slice (some ⟨g1, 0, none⟩) (n + 1) k1).ownBlock = some i → (Value.slice (some ⟨g3, 0, none⟩) (n + 1) k3).ownBlock ≠ some i) := by
                     show ∀ i, _
                     intro i e e2
                     have e' : g3 = i := Option.some.inj e2
                     subst e'
                     rcases hp3 with ⟨q1, _⟩ | ⟨q1, _⟩
                     · exact HD1.out g3 e q1
                     · have := HLB.out.1 g3 e; simp at q1; omega
                   obtain ⟨z0, z1, z2, z3, z4, z5⟩ := HK3.out.cells
                   have y4 := HK3.out.frozen 4
                   clear ho3 hp3 x0 x1 x2 x3 x4 x5)
      have HGC : Hid (w3.grownBy (w3.setCell ⟨g, 4, none⟩ (.slice (some ⟨g3, 0, none⟩) (n + 1) k3)) (some g)) := grown_cell (World.grownBy.refl _ _) _ _
      have HFIN : Hid (KW (w3.setCell ⟨g, 4, none⟩ (.slice (some ⟨g3, 0, none⟩) (n + 1) k3)) g base (.slice (some ⟨g1, 0, none⟩) (n + 1) k1) c3 (.slice (some ⟨g3, 0, none⟩) (n + 1) k3) c5 ∧ Two (w3.setCell ⟨g, 4, none⟩ (.slice (some ⟨g3, 0, none⟩) (n + 1) k3)) base 25 (.slice (some ⟨g1, 0, none⟩) (n + 1) k1) (.slice (some ⟨g3, 0, none⟩) (n + 1) k3) (n + 1) ∧ Below g w (w3.setCell ⟨g, 4, none⟩ (.slice (some ⟨g3, 0, none⟩) (n + 1) k3))) :=
        ⟨HK3.out.set4 _, ⟨⟨_, rowV_keep HX3.out HGC.out (fun i e e2 => by have := (rowV_lt HX3.out i e).1; have := Option.some.inj e2; omega)⟩, ⟨_, rowV_keep HO3.out HGC.out (fun i e e2 => by have := (rowV_lt HO3.out i e).1; have := Option.some.inj e2; omega)⟩, HD3.out⟩, (H.out.2.2.2.2.1.grown HG3.out (by omega) (fun i e => by have := (rowV_lt H.out.2.2.2.1 i e).1; omega)).setCell (Nat.le_refl _) _⟩
      go_end0
      exact ⟨rfl, _, _, HFIN.out.1, HFIN.out.2.1, HFIN.out.2.2⟩
set_option maxHeartbeats 2000000 in
set_option maxRecDepth 100000 in
theorem keepList_any (g base n : Nat) (c2 c3 c4 c5 : Value) (w : World) (hk : KW w g base c2 c3 c4 c5) (ht : Two w base 42 c3 c5 n) (hn : n ≤ 1000) :
    Calls Try.prog 48 #[.pointer (some ⟨g, 0, none⟩), .slice none 0 0] w fun e w' => ∃ d3 d5, e = .returned (.tuple #[]) ∧ KW w' g base c2 d3 c4 d5 ∧ Two w' base 42 d3 d5 (n + 1) ∧ Below g w w' := by
  obtain ⟨⟨xs, hx⟩, ⟨ys, hy⟩, hne⟩ := ht
  obtain ⟨aP, cP, hcP⟩ := rowV_shape hx
  obtain ⟨aQ, cQ, hcQ⟩ := rowV_shape hy
  subst hcP hcQ
  obtain ⟨e0, e1, e2, e3, e4, e5⟩ := hk.cells
  have fz := hk.frozen
  have HK := hide hk
  have HX := hide hx
  have HY := hide hy
  have HNE := hide hne
  have hgb : g < base := hk.2.1
  have hbs : base ≤ w.heap.size := hk.2.2
  have hni : (n : Int) ≤ 1000 := by omega
  have fP := fz 3
  have fQ := fz 5
  obtain ⟨E, hE⟩ : ∃ E : Int, -(n : Int) - 1 = E := ⟨_, rfl⟩
  clear hk hx hy hne fz
  go_enter Try.func48, Try.ntmps48
  go_wp2_with fail
  go_loop [5] (fun i => i = .int .i64 0) (fun _ => 0)
  case atStart => exact rfl
  case round =>
  obtain rfl := hrel
  have HXA := hide (World.ownsRow.alloc HX.out (.cells #[.slice none 0 0] 42))
  have HKA := hide (HK.out.grown (grown_of_below (r := none) ((Below.refl w.heap.size w).alloc (Nat.le_refl _) (.cells #[.slice none 0 0] 42))) (by simp))
  go_wp2_with (at_builtin; refine pushV _ rfl _ _ 53 42 (.slice none 0 0) 24 rfl Try.underlying53 infoInfos rfl (by omega) base _ n xs rfl HXA.out ⟨w.heap.size, 0, none⟩ 1 (.slice none 0 0) rfl (cell_one_new _ _ _ 0 _ rfl) rfl (by omega) (by simp; omega) ?_
               intro g1 k1 w1 ho1 hp1
               have HG1 : Hid (w.grownBy w1 (Value.slice aP n cP).ownBlock) := grown_trans (grown_of_below ((Below.refl w.heap.size w).alloc (Nat.le_refl _) _)) (put1_grown hp1)
               have HK1 := hide (HKA.out.grown (put1_grown hp1) (fun e => by have := (rowV_lt HX.out g e).1; omega))
               have HY1 := hide (rowV_keep HY.out HG1.out (fun i e e2 => HNE.out i e2 e))
               have HO1 := hide ho1
               have HD1 : Hid (∀ i, (Value.slice (some ⟨g1, 0, none⟩) (n + 1) k1).ownBlock = some i → (Value.slice aQ n cQ).ownBlock ≠ some i) := by
                 show ∀ i, _
                 intro i e
                 have e' : g1 = i := Option.some.inj e
                 subst e'
                 rcases hp1 with ⟨q1, _⟩ | ⟨q1, _⟩
                 · exact HNE.out g1 q1
                 · intro e2; have := (rowV_lt HY.out g1 e2).2; simp at q1; omega
               obtain ⟨x0, x1, x2, x3, x4, x5⟩ := HK1.out.cells
               have y2 := HK1.out.frozen 3
               clear ho1 hp1 e0 e1 e2 e3 e4 e5)
  have HK2 := hide (HK1.out.set3 (.slice (some ⟨g1, 0, none⟩) (n + 1) k1))
  have HGC : Hid (w1.grownBy (w1.setCell ⟨g, 3, none⟩ (.slice (some ⟨g1, 0, none⟩) (n + 1) k1)) (some g)) := grown_cell (World.grownBy.refl _ _) _ _
  have HX2 := hide (rowV_keep HO1.out HGC.out (fun i e e2 => by have := (rowV_lt HO1.out i e).1; have := Option.some.inj e2; omega))
  have HY2 := hide (rowV_keep HY1.out HGC.out (fun i e e2 => by have := (rowV_lt HY1.out i e).1; have := Option.some.inj e2; omega))
  have HB2 : Hid (Below g w (w1.setCell ⟨g, 3, none⟩ (.slice (some ⟨g1, 0, none⟩) (n + 1) k1))) := ((Below.refl g w).grown HG1.out (by omega) (fun i e => by have := (rowV_lt HX.out i e).1; omega)).setCell (Nat.le_refl _) _
  obtain ⟨w2, hw2⟩ : ∃ w2, w1.setCell ⟨g, 3, none⟩ (.slice (some ⟨g1, 0, none⟩) (n + 1) k1) = w2 := ⟨_, rfl⟩
  rw [hw2] at HK2 HX2 HY2 HB2 ⊢
  obtain ⟨M, hM⟩ : ∃ M, w2.heap.size = M := ⟨_, rfl⟩
  have HM := hide hM
  have hgM : g < M := by have h1 := HK2.out.2.1; have h2 := HK2.out.2.2; omega
  have hbM : base ≤ M := by have h2 := HK2.out.2.2; omega
  clear hw2 hM HK1 HY1 HO1 HXA HKA HGC x0 x1 x2 x3 x4 x5 y2 HG1
  go_loopw [1, 6] (fun sv si wz => ∃ (j : Nat) (va : Option Addr) (vc : Nat) (L : List Value), j ≤ 64 ∧ si = .int .i64 (j : Int) ∧ sv = .slice va j vc ∧ Hid ((wz.ownsRow M 45 3 (.slice va j vc) j L) ∧ KW wz g base c2 (.slice (some ⟨g1, 0, none⟩) (n + 1) k1) c4 (.slice aQ n cQ) ∧ wz.ownsRow base 42 1 (.slice (some ⟨g1, 0, none⟩) (n + 1) k1) (n + 1) (xs ++ [.slice none 0 0]) ∧ wz.ownsRow base 42 1 (.slice aQ n cQ) n ys ∧ Below g w wz ∧ M ≤ wz.heap.size)) (fun _ si _ => 64 - (intOf si).toNat)
  case atStart => exact ⟨0, none, 0, [], by omega, rfl, rfl, ⟨rfl, .inl ⟨rfl, rfl⟩⟩, HK2.out, HX2.out, HY2.out, HB2.out, by rw [HM.out]; exact Nat.le_refl _⟩
  case round =>
    have HLB : Hid ((∀ i, (Value.slice (some ⟨g1, 0, none⟩) (n + 1) k1).ownBlock = some i → i < M) ∧ ∀ i, (Value.slice aQ n cQ).ownBlock = some i → i < M) := ⟨fun i e => by have := (rowV_lt HX2.out i e).2; rw [HM.out] at this; exact this, fun i e => by have := (rowV_lt HY2.out i e).2; rw [HM.out] at this; exact this⟩
    clear HK2 HX2 HY2 HB2
    obtain ⟨j, va, vc, L, hj, rfl, rfl, H⟩ := hrel
    have hMw : M ≤ wr.heap.size := H.out.2.2.2.2.2
    by_cases hlt : (j : Int) < 64
    · have HCR : Hid ((wr.alloc (.cells #[.string ⟨#[]⟩, .int .i64 0, .int .i64 E] 45)).heap[wr.heap.size]? = some (.cells #[.string ⟨#[]⟩, .int .i64 0, .int .i64 E] 45)) := heap_alloc_new _ _
      have HC0 : Hid ((wr.alloc (.cells #[.string ⟨#[]⟩, .int .i64 0, .int .i64 E] 45)).cell? ((⟨wr.heap.size, 0, none⟩ : Addr).add 0) = some (.string ⟨#[]⟩)) := by show _ = _; rw [Addr.add_mid, cell_of_row _ _ _ _ _ _ HCR.out]; rfl
      have HC1 : Hid ((wr.alloc (.cells #[.string ⟨#[]⟩, .int .i64 0, .int .i64 E] 45)).cell? ((⟨wr.heap.size, 0, none⟩ : Addr).add 1) = some (.int .i64 0)) := by show _ = _; rw [Addr.add_mid, cell_of_row _ _ _ _ _ _ HCR.out]; rfl
      have HC2 : Hid ((wr.alloc (.cells #[.string ⟨#[]⟩, .int .i64 0, .int .i64 E] 45)).cell? ((⟨wr.heap.size, 0, none⟩ : Addr).add 2) = some (.int .i64 E)) := by show _ = _; rw [Addr.add_mid, cell_of_row _ _ _ _ _ _ HCR.out]; rfl
      go_wp2_with (at_builtin; refine pushInfo _ rfl _ _ rfl M _ j L rfl (World.ownsRow.alloc H.out.1 _) ⟨wr.heap.size, 0, none⟩ 1 (.string ⟨#[]⟩) (.int .i64 0) (.int .i64 E) rfl HC0.out HC1.out HC2.out rfl rfl rfl (by omega) (by simp; omega) ?_
                   intro v9 w9 ho9 hg9
                   obtain ⟨va9, vc9, rfl⟩ := rowInfo_shape ho9
                   have HO9 := hide ho9
                   have HG9 : Hid (wr.grownBy w9 (Value.slice va j vc).ownBlock) := grown_trans (grown_of_below ((Below.refl wr.heap.size wr).alloc (Nat.le_refl _) _)) hg9
                   clear ho9 hg9)
      go_roundw
      case rel =>
        refine ⟨j + 1, va9, vc9, _, by omega, by go_num, rfl, HO9.out, H.out.2.1.grown HG9.out (fun e => by have := ((fun i e => World.ownsRow.lt H.out.1 i e) g e).1; omega), rowV_keep H.out.2.2.1 HG9.out (fun i e e2 => by have := HLB.out.1 i e; have := ((fun i e => World.ownsRow.lt H.out.1 i e) i e2).1; omega), rowV_keep H.out.2.2.2.1 HG9.out (fun i e e2 => by have := HLB.out.2 i e; have := ((fun i e => World.ownsRow.lt H.out.1 i e) i e2).1; omega), H.out.2.2.2.2.1.grown HG9.out (by omega) (fun i e => by have := ((fun i e => World.ownsRow.lt H.out.1 i e) i e).1; omega), Nat.le_trans hMw HG9.out.size⟩
      case measure => simp [intOf]; omega
    · obtain rfl : j = 64 := by omega
      obtain ⟨x0, x1, x2, x3, x4, x5⟩ := H.out.2.1.cells
      have HYA := hide (World.ownsRow.alloc H.out.2.2.2.1 (.cells #[.slice va 64 vc] 42))
      have HKA := hide (H.out.2.1.grown (grown_of_below (r := none) ((Below.refl wr.heap.size wr).alloc (Nat.le_refl _) (.cells #[.slice va 64 vc] 42))) (by simp))
      go_wp2_with (at_builtin; refine pushV _ rfl _ _ 53 42 (.slice none 0 0) 24 rfl Try.underlying53 infoInfos rfl (by omega) base _ n ys rfl HYA.out ⟨wr.heap.size, 0, none⟩ 1 (.slice va 64 vc) rfl (cell_one_new _ _ _ 0 _ rfl) rfl (by omega) (by simp; omega) ?_
                   intro g3 k3 w3 ho3 hp3
                   have HG3 : Hid (wr.grownBy w3 (Value.slice aQ n cQ).ownBlock) := grown_trans (grown_of_below ((Below.refl wr.heap.size wr).alloc (Nat.le_refl _) _)) (put1_grown hp3)
                   have HK3 := hide (HKA.out.grown (put1_grown hp3) (fun e => by have := (rowV_lt H.out.2.2.2.1 g e).1; omega))
                   have HX3 := hide (rowV_keep H.out.2.2.1 HG3.out (fun i e e2 => HD1.out i e e2))
                   have HO3 := hide ho3
                   have HD3 : Hid (∀ i, (Value.slice (some ⟨g1, 0, none⟩) (n + 1) k1).ownBlock = some i → (Value.slice (some ⟨g3, 0, none⟩) (n + 1) k3).ownBlock ≠ some i) := by
                     show ∀ i, _
                     intro i e e2
                     have e' : g3 = i := Option.some.inj e2
                     subst e'
                     rcases hp3 with ⟨q1, _⟩ | ⟨q1, _⟩
                     · exact HD1.out g3 e q1
                     · have := HLB.out.1 g3 e; simp at q1; omega
                   obtain ⟨z0, z1, z2, z3, z4, z5⟩ := HK3.out.cells
                   have y4 := HK3.out.frozen 5
                   clear ho3 hp3 x0 x1 x2 x3 x4 x5)
      have HGC : Hid (w3.grownBy (w3.setCell ⟨g, 5, none⟩ (.slice (some ⟨g3, 0, none⟩) (n + 1) k3)) (some g)) := grown_cell (World.grownBy.refl _ _) _ _
      have HFIN : Hid (KW (w3.setCell ⟨g, 5, none⟩ (.slice (some ⟨g3, 0, none⟩) (n + 1) k3)) g base c2 (.slice (some ⟨g1, 0, none⟩) (n + 1) k1) c4 (.slice (some ⟨g3, 0, none⟩) (n + 1) k3) ∧ Two (w3.setCell ⟨g, 5, none⟩ (.slice (some ⟨g3, 0, none⟩) (n + 1) k3)) base 42 (.slice (some ⟨g1, 0, none⟩) (n + 1) k1) (.slice (some ⟨g3, 0, none⟩) (n + 1) k3) (n + 1) ∧ Below g w (w3.setCell ⟨g, 5, none⟩ (.slice (some ⟨g3, 0, none⟩) (n + 1) k3))) :=
        ⟨HK3.out.set5 _, ⟨⟨_, rowV_keep HX3.out HGC.out (fun i e e2 => by have := (rowV_lt HX3.out i e).1; have := Option.some.inj e2; omega)⟩, ⟨_, rowV_keep HO3.out HGC.out (fun i e e2 => by have := (rowV_lt HO3.out i e).1; have := Option.some.inj e2; omega)⟩, HD3.out⟩, (H.out.2.2.2.2.1.grown HG3.out (by omega) (fun i e => by have := (rowV_lt H.out.2.2.2.1 i e).1; omega)).setCell (Nat.le_refl _) _⟩
      go_end0
      exact ⟨rfl, _, _, HFIN.out.1, HFIN.out.2.1, HFIN.out.2.2⟩
end Go.Proofs.Ytndodbfhigejfac.Sn
