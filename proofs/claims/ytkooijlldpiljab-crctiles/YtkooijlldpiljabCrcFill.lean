/-
  The statements' helper 'fill': a list is written over and added to: of what was there before nothing but that list's own block has turned.
-/
import Derived.Test.YtkooijlldpiljabCrcWorks
namespace Go.Proofs.Ytkooijlldpiljab.Crc
open Go.ChangeShapes Go.WideShapes Go.ChangeAt Go.RowKit
theorem own_shape {w : World} {base n : Nat} {v : Value} {xs : List Value} (h : w.ownsRow base 5 1 v (n + 1) xs) : ∃ g c, v = .slice (some ⟨g, 0, none⟩) (n + 1) c := by
  rcases h.2 with ⟨_, h2⟩ | ⟨g, c, cur, h1, _⟩
  · omega
  · exact ⟨g, c, h1⟩
theorem grown_new {w0 w w' : World} {r q : Option Nat} (h : w0.grownBy w r) (k : w.grownBy w' q) (hq : ∀ i, q = some i → w0.heap.size ≤ i) : w0.grownBy w' r :=
  ⟨k.os.trans h.os, k.tape.trans h.tape, k.output.trans h.output, Nat.le_trans h.size k.size, fun i hi hne => (k.block i (Nat.lt_of_lt_of_le hi h.size) (fun e => by have := hq i e.symm; omega)).trans (h.block i hi hne)⟩
theorem grown_alloc {w0 w : World} {r : Option Nat} (h : w0.grownBy w r) (o : Obj) : w0.grownBy (w.alloc o) r :=
  grown_new h (below_grown ((Below.refl _ _).alloc (Nat.le_refl _) o)) (fun i e => by cases e)
set_option maxHeartbeats 1000000 in
theorem fill_any (base n : Nat) (a : Option Addr) (m : Int) (bs : List (BitVec 8)) (w : World) (h0 : 0 ≤ m) (h1 : m < 256) (hr : Own w base (.slice a n n) bs) (hm : n ≤ 140737488355000) :
    Calls Try.prog 18 #[.slice a n n, .int .u8 m] w fun e w' => e = .returned (.int .i64 ((n : Int) + 64)) ∧ w.grownBy w' (Value.slice a n n).ownBlock := by
  obtain ⟨c, rfl⟩ : ∃ c : BitVec 8, m = (c.toNat : Int) := by
    obtain ⟨q, rfl⟩ := Int.eq_ofNat_of_zero_le h0
    refine ⟨BitVec.ofNat 8 q, ?_⟩
    rw [BitVec.toNat_ofNat]
    omega
  have hci := inc_val c
  generalize c + BitVec.ofNat 8 1 = d at hci
  have HR := hide hr
  have HN := hide (Got.cap hr).2
  have HNIL := hide (fun h => Got.nil hr h)
  clear hr
  obtain ⟨i0, hi, hz0, hz1, hz2⟩ := info_parts info8
  go_enter Try.func18, Try.ntmps18
  go_wp2
  go_loopw [5] (fun i wr => ∃ k : Nat, k ≤ n ∧ i = .int .i64 k ∧ ∃ L : List (BitVec 8), Hid (L.length = n) ∧ Hid (Own wr base (.slice a n n) L) ∧ Hid (w.grownBy wr (Value.slice a n n).ownBlock)) (fun i _ => n - (intOf i).toNat)
  case atStart => exact ⟨0, Nat.zero_le _, rfl, bs, HN.out.symm, HR, World.grownBy.refl _ _⟩
  case round =>
    obtain ⟨k, hk, rfl, L, HLL, HO, HG⟩ := hrel
    by_cases hlt : k < n
    · obtain ⟨g, rfl⟩ : ∃ g, a = some ⟨g, 0, none⟩ := by
        rcases HO.out.2 with ⟨e, _⟩ | ⟨g, c', cur, e, _⟩
        · simp only [Value.slice.injEq] at e; omega
        · simp only [Value.slice.injEq] at e; exact ⟨g, e.1⟩
      have g1 := HO.out.cell k hlt
      generalize L.getD k 0 = c0 at g1
      have g2 := HO.out.frozen k
      have HS := hide (HO.out.store k c)
      have hki : (k : Int) < (n : Int) := by omega
      go_wp2
      go_roundw
      case rel => exact ⟨k + 1, by omega, by go_num, L.set k c, by show (L.set k c).length = n; rw [List.length_set]; exact HLL.out, HS.out.1, grown_trans HG.out HS.out.2⟩
      case measure => simp [intOf]; omega
    · go_wp2
      go_loopw [0, 6] (fun v i w2 => ∃ k : Nat, k ≤ 64 ∧ i = .int .i64 k ∧ ∃ (a' : Option Addr) (c' : Nat), v = .slice a' (n + k) c' ∧ Hid (w.grownBy w2 (Value.slice a n n).ownBlock) ∧
          Hid ((k = 0 ∧ a' = a ∧ c' = n ∧ Own w2 base (.slice a n n) L) ∨ (0 < k ∧ ∃ L' : List (BitVec 8), L'.length = n + k ∧ Own w2 w.heap.size (.slice a' (n + k) c') L'))) (fun _ i _ => 64 - (intOf i).toNat)
      case atStart => exact ⟨0, Nat.zero_le _, rfl, a, n, rfl, HG, .inl ⟨rfl, rfl, rfl, HO.out⟩⟩
      case round =>
        obtain ⟨j, hj, rfl, a', c', rfl, HG2, HPH⟩ := hrel
        by_cases hjl : j < 64
        · have hji : (j : Int) < 64 := by omega
          rcases HPH.out with ⟨hj0, ha', hc', ho⟩ | ⟨hp, L', hl', ho⟩
          · subst hj0
            rw [ha', hc']
            clear ha' hc'
            have HOO := hide ho
            have HB1 := hide (ho.below ((Below.refl _ _).alloc (Nat.le_refl _) (.cells #[.int .u8 (d.toNat : Int)] 5)))
            clear ho HPH
            go_wp2_with (
              at_builtin; refine wpList_append_grows _ rfl _ _ 26 rfl 5 i0 (.int .u8 0) 1 1 Try.underlying26 hi hz0 hz1 hz2 rfl (by decide) a n n (vals L) rfl HNIL.out (by rw [length_vals, HLL.out]; omega) (fun b e jj uu hu => (Got.rd HB1.out (by rw [HLL.out]; omega)).cellsAt b e jj uu hu) ⟨wr.heap.size, 0, none⟩ 1 1 [.int .u8 (d.toNat : Int)] rfl rfl (cell_one_new _ _ _) (vals_one [d]) (by omega) (by unfold maxLen; omega) (by omega) ?_
              intro v' w3 hown3 hgrow3
              obtain ⟨g3, c3, rfl⟩ := own_shape hown3
              have HO3 := hide hown3
              have HG3 := hide hgrow3
              clear hown3 hgrow3)
            go_roundw
            case rel =>
              refine ⟨1, by omega, rfl, some ⟨g3, 0, none⟩, c3, rfl, ?_, .inr ⟨by omega, L ++ [d], by simp [HLL.out], ?_⟩⟩
              · exact grown_new (grown_alloc HG2.out _) HG3.out (fun i e => by cases e)
              · have hsz := HG2.out.size
                have h : Own w3 (wr.heap.size + 1) (.slice (some ⟨g3, 0, none⟩) (n + 1) c3) (L ++ [d]) := by
                  have h' := HO3.out
                  simp only [World.size_alloc] at h'
                  exact own_append h' (by rw [HLL.out]; rfl)
                exact h.mono (by omega)
            case measure => simp [intOf]
          · have HLO := hide hl'
            have HOO := hide ho
            have hsz := HG2.out.size
            have HB1 : Hid ((wr.alloc (.cells #[.int .u8 (d.toNat : Int)] 5)).ownsRow w.heap.size 5 1 (.slice a' (n + j) c') (n + j) (vals L')) := by
              have h := ho.below ((Below.refl _ _).alloc (Nat.le_refl _) (.cells #[.int .u8 (d.toNat : Int)] 5))
              unfold Own at h
              rw [hl'] at h
              exact h
            have HBK : Hid (∀ i, (Value.slice a' (n + j) c').ownBlock = some i → w.heap.size ≤ i) := fun i e => (World.ownsRow.lt ho i e).1
            clear ho HPH hl'
            go_wp2_with (
              at_builtin; refine wpList_append_own _ rfl _ _ 26 rfl w.heap.size 5 i0 (.int .u8 0) 1 1 Try.underlying26 hi hz0 hz1 hz2 rfl (by decide) (.slice a' (n + j) c') (n + j) (vals L') rfl HB1.out ⟨wr.heap.size, 0, none⟩ 1 1 [.int .u8 (d.toNat : Int)] rfl rfl (cell_one_new _ _ _) (vals_one [d]) (by unfold maxLen; omega) (by omega) (by simp; omega) ?_
              intro v' w3 hown3 hgrow3 _
              obtain ⟨g3, c3, rfl⟩ := own_shape hown3
              have HO3 := hide hown3
              have HG3 := hide hgrow3
              clear hown3 hgrow3)
            go_roundw
            case rel =>
              refine ⟨j + 1, by omega, by go_num, some ⟨g3, 0, none⟩, c3, rfl, ?_, .inr ⟨by omega, L' ++ [d], by simp [HLO.out]; omega, ?_⟩⟩
              · exact grown_new (grown_alloc HG2.out _) HG3.out HBK.out
              · exact own_append HO3.out (by rw [HLO.out]; rfl)
            case measure => simp [intOf]; omega
        · have hj64 : j = 64 := by omega
          subst hj64
          go_wp2
          go_ret
          refine ⟨ret_int (by omega), HG2.out⟩
end Go.Proofs.Ytkooijlldpiljab.Crc
