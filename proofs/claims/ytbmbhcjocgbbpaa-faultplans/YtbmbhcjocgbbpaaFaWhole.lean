/-
  Does each list hold its own mark yet, when all have been added to once more?
-/
import Derived.Test.YtbmbhcjocgbbpaaFaTold
namespace Go.Proofs.Ytbmbhcjocgbbpaa.Fa
open Go.ChangeShapes Go.WideShapes Go.ChangeAt Go.RowKit
open Go.Proofs.Ytbmbhcjocgbbpaa.Base
set_option linter.unusedVariables false
/-- Lists that were told: each holds its mark, no two share a block. -/
structure Tds (w : World) (base : Nat) (ds : List Td) : Prop where
  own : ∀ j, j < ds.length → OwnL w base (ds.getD j td0).v (List.replicate (ds.getD j td0).n (ovF (ds.getD j td0).m))
  ap : ∀ i j, i < ds.length → j < ds.length → i ≠ j → Ap2 (ds.getD i td0).v (ds.getD j td0).v
  len : ∀ j, j < ds.length → (ds.getD j td0).n ≤ 2199023255488
theorem Tds.kept {w w' : World} {base : Nat} {ds : List Td} {q : Option Nat} (h : Tds w base ds) (hg : w.grownBy w' q) (hne : ∀ j, j < ds.length → ∀ i, (ds.getD j td0).v.ownBlock = some i → q ≠ some i) : Tds w' base ds :=
  ⟨fun j hj => (h.own j hj).kept hg (hne j hj), h.ap, h.len⟩
theorem Tds.below {w w' : World} {base : Nat} {ds : List Td} (h : Tds w base ds) (hb : Below w.heap.size w w') : Tds w' base ds := h.kept (below_grown hb) (fun _ _ _ _ e => by cases e)
/-- One of them has been added to, and kept its mark. -/
theorem Tds.one {w w' : World} {base : Nat} {ds : List Td} (h : Tds w base ds) (i : Nat) (hi : i < ds.length) (hg : w.grownBy w' (ds.getD i td0).v.ownBlock) (ho : OwnL w' base (ds.getD i td0).v (List.replicate (ds.getD i td0).n (ovF (ds.getD i td0).m))) : Tds w' base ds := by
  refine ⟨fun j hj => ?_, h.ap, h.len⟩
  by_cases e : j = i
  · subst e; exact ho
  · exact (h.own j hj).kept hg (fun b e1 e2 => h.ap j i hj hi e b e1 e2)
theorem eq_run (f : Flt) (W : World) : (binOp .neq 25 (.agg #[.int .i64 f.k, .int .i64 f.j, .int .i64 f.t, .int .i64 f.a, .int .i64 f.m, .int .i64 f.r, .int .i64 f.p, .int .u32 (f.q.toNat : Int)]) (.agg #[.int .i64 f.k, .int .i64 f.j, .int .i64 f.t, .int .i64 f.a, .int .i64 f.m, .int .i64 f.r, .int .i64 f.p, .int .u32 (f.q.toNat : Int)])).run Try.prog W = .ok (.bool false) W := by
  simp [go_sem]
def Blk (ds : List Td) (i : Nat) : Prop := ∃ j, j < ds.length ∧ (ds.getD j td0).v.ownBlock = some i
set_option maxHeartbeats 4000000 in
set_option maxRecDepth 100000 in
theorem whole_any (base : Nat) (a : Option Addr) (K c : Nat) (ds : List Td) (w : World) (ho : OwnT w base (.slice a K c) ds) (ht : Tds w base ds) (hap : ∀ j, j < ds.length → Ap2 (.slice a K c) (ds.getD j td0).v) (hb : base ≤ w.heap.size) (hK : K ≤ 4611686018427387904) (hKL : K = ds.length) :
    Calls Try.prog 29 #[.slice a K c] w fun e w' => e = .returned (.bool true) ∧ Mny w w' (Blk ds) := by
  have HO := hide ho
  have HT := hide ht
  have HAP := hide hap
  have HKL := hide hKL
  clear ho ht hap hKL
  go_enter Try.func29, Try.ntmps29
  go_wp2_with fail
  go_loopw [3] (fun si wr => ∃ i : Nat, i ≤ K ∧ .int .i64 (i : Int) = si ∧ Hid (OwnT wr base (.slice a K c) ds) ∧ Hid (Tds wr base ds) ∧ Hid (Mny w wr (Blk ds))) (fun si _ => K - (intOf si).toNat)
  case atStart => exact ⟨0, by omega, rfl, HO, HT, Mny.refl _ _⟩
  case round =>
    clear HO HT
    obtain ⟨i, hi, rfl, HO, HT, HM⟩ := hrel
    by_cases hin : i < K
    · have hii : (i : Int) < (K : Int) := by omega
      obtain ⟨hKd, g, rfl, c0, c1⟩ := HO.out.cells i (by rw [← HKL.out]; exact hin)
      clear hKd
      have HOi := hide (HT.out.own i (by rw [← HKL.out]; exact hin))
      have HLi := hide (HT.out.len i (by rw [← HKL.out]; exact hin))
      obtain ⟨d, hd⟩ : ∃ d, ds.getD i td0 = d := ⟨_, rfl⟩
      rw [hd] at c0 c1 HOi HLi
      have HD := hide hd
      clear hd
      obtain ⟨da, dn, dc, dm⟩ := d
      simp only [Td.v] at c0 c1 HOi HLi
      have hln := HOi.out.len
      obtain ⟨ao, hsl, hao⟩ := cutF da dn dc hln.2.1 hln.2.2
      have HSP : Hid (∀ V, Below wr.heap.size wr V → Calls Try.prog 27 #[.slice ao 0 (dc - dn), .int .i64 5] V fun e w' => e = .returned (.int .i64 64) ∧ OwnL w' base (.slice da dn dc) (List.replicate dn (ovF dm)) ∧ wr.grownBy w' (Value.slice da dn dc).ownBlock) := by
        intro V hV
        refine (spoil_end base da ao dn dc _ 5 V (HOi.out.below hV) (Nat.le_trans (Nat.le_trans hb HM.out.size) hV.size) HLi.out (by omega) (by omega) (fun hlt => ?_)).mono ?_
        · rcases HOi.out.2 with ⟨q1, q2⟩ | ⟨g', cap, cur, q1, _⟩
          · simp only [Value.slice.injEq] at q1; omega
          · simp only [Value.slice.injEq] at q1
            exact ⟨g', q1.1, hao g' q1.1 hlt⟩
        · rintro e w' ⟨h1, h2, h3⟩
          exact ⟨h1, h2, grown_trans (grown_any (below_grown hV) _) h3⟩
      clear hln
      have HNG : Hid ((Value.slice da dn dc).ownBlock ≠ some g) := by
        have h1 := HAP.out i (by rw [← HKL.out]; exact hin) g rfl
        rw [HD.out] at h1
        exact h1
      go_wp2_with fail
      go_region_held (fun V => V.cell? ⟨g, i * 2, none⟩ = some (.slice da dn dc)) (first | go_keep | exact E8.out) (first
        | (go_at_call 27; refine (HSP.out _ (by first | exact (Below.refl _ _).drew | exact (Below.refl _ _).drew.drew | exact Below.refl _ _)).mono ?_; rintro e w2 ⟨rfl, ho2, hg2⟩; have HO2 := hide ho2; have HG2 := hide hg2; have E8 := hide (hg2.cell c0 (fun e => HNG.out e.symm)); clear ho2 hg2))
      all_goals
        go_wp2_with fail
        go_roundw
        case rel =>
          refine ⟨i + 1, by omega, by go_num, HO.out.kept HG2.out (fun b e1 e2 => ?_), ?_, HM.out.grown HG2.out (fun b e => ⟨i, by rw [← HKL.out]; exact hin, by rw [HD.out]; exact e⟩)⟩
          · have h1 := HAP.out i (by rw [← HKL.out]; exact hin) b e1
            rw [HD.out] at h1
            exact h1 e2
          · refine HT.out.one i (by rw [← HKL.out]; exact hin) (by rw [HD.out]; exact HG2.out) (by rw [HD.out]; exact HO2.out)
        case measure => simp [intOf]; omega
    · obtain rfl : i = K := by omega
      go_wp2_with fail
      go_loopw [4] (fun si wq => ∃ (j q : Nat), j ≤ i ∧ .int .i64 (j : Int) = si ∧ wq = wr.drewN q) (fun si _ => i - (intOf si).toNat)
      case atStart => exact ⟨0, 0, by omega, rfl, rfl⟩
      case round =>
        obtain ⟨j, q, hj, rfl, rfl⟩ := hrel
        by_cases hjn : j < i
        · have hji : (j : Int) < (i : Int) := by omega
          obtain ⟨hKd, g, rfl, c0, c1⟩ := HO.out.cells j (by rw [← HKL.out]; exact hjn)
          clear hKd
          have HOi := hide (HT.out.own j (by rw [← HKL.out]; exact hjn))
          have HLi := hide (HT.out.len j (by rw [← HKL.out]; exact hjn))
          obtain ⟨d, hd⟩ : ∃ d, ds.getD j td0 = d := ⟨_, rfl⟩
          rw [hd] at c0 c1 HOi HLi
          clear hd
          obtain ⟨da, dn, dc, dm⟩ := d
          simp only [Td.v] at c0 c1 HOi HLi
          have HRi := hide HOi.out.rdl
          go_wp2_with fail
          go_loopw [5] (fun sk wq => ∃ (k q2 : Nat), k ≤ dn ∧ .int .i64 (k : Int) = sk ∧ wq = wr.drewN q2) (fun sk _ => dn - (intOf sk).toNat)
          case atStart => exact ⟨0, q, by omega, rfl, rfl⟩
          case round =>
            obtain ⟨k, q2, hk, rfl, rfl⟩ := hrel
            by_cases hkn : k < dn
            · have hdn : dn ≤ 2199023255488 := HLi.out
              have hki : (k : Int) < (dn : Int) := by omega
              obtain ⟨b1, o1, rfl, hl1, hc1⟩ := HRi.out.2 (by omega)
              obtain ⟨e0, e1, e2, e3, e4, e5, e6, e7'⟩ := hc1 k hkn
              rw [show (List.replicate dn (ovF dm)).getD k f0 = ovF dm by rw [List.getD_eq_getElem?_getD, List.getElem?_replicate, if_pos hkn]; rfl] at e0 e1 e2 e3 e4 e5 e6 e7'
              have e7 : wr.cell? ⟨b1, o1 + k * 8 + 7, none⟩ = some (.int .u32 0) := e7'
              clear e7'
              simp only [ovF] at e0 e1 e2 e3 e4 e5 e6
              have hne : ∀ W, (binOp .neq 25 (.agg #[.int .i64 dm, .int .i64 0, .int .i64 0, .int .i64 0, .int .i64 0, .int .i64 0, .int .i64 0, .int .u32 0]) (.agg #[.int .i64 dm, .int .i64 0, .int .i64 0, .int .i64 0, .int .i64 0, .int .i64 0, .int .i64 0, .int .u32 0])).run Try.prog W = .ok (.bool false) W := fun W => eq_run (ovF dm) W
              clear hc1
              go_wp2_with fail
              go_quiet (fail)
              go_wp2_with fail
              go_roundw
              case rel => exact ⟨k + 1, q2 + nq, by omega, by go_num, rfl⟩
              case measure => simp [intOf]; omega
            · obtain rfl : k = dn := by omega
              go_wp2_with fail
              go_roundw
              case rel => exact ⟨j + 1, q2, by omega, by go_num, rfl⟩
              case measure => simp [intOf]; omega
        · obtain rfl : j = i := by omega
          go_wp2_with fail
          go_ret
          exact ⟨rfl, HM.out.grown (below_grown (below_drewN' _ _ _)) (fun i e => by cases e)⟩
end Go.Proofs.Ytbmbhcjocgbbpaa.Fa
