/-
  New.
-/
import Derived.Test.YtcnfkgmefikcjaaMeNil
import Derived.Deep.OwnRows
namespace Go.Proofs.Ytcnfkgmefikcjaa.Me
open Go.ChangeShapes Go.WideShapes Go.ChangeAt Go.RowKit
open Go.Proofs.Ytcnfkgmefikcjaa.Base
set_option linter.unusedVariables false
/-- The slice reads as sources that are played. -/
def RdG (w : World) (a : Option Addr) (n : Nat) (g : Nat → Nat) : Prop := 0 < n → ∃ b off, a = some ⟨b, off, none⟩ ∧ b < w.heap.size ∧ ∀ j, j < n → w.cell? ⟨b, off + j, none⟩ = some (feedV (g j))
theorem infoS : (Try.prog.info? 57).map (fun i => (i.zero, i.size, i.bytes)) = some (some (.agg #[.nilFunc, .int .i64 0, .int .i64 0, .bool false]), 4, 32) := by kernel_rfl
set_option maxHeartbeats 4000000 in
set_option maxRecDepth 100000 in
theorem new_many (a : Option Addr) (n c : Nat) (g : Nat → Nat) (w : World) (hR : RdG w a n g) (hn : 64 < n) (hn2 : n ≤ 140737488355328) :
    Calls Try.prog 11 #[fcmp, .slice a n c] w fun e w' => e = .returned (.tuple #[.pointer none, .int .i64 3]) ∧ w' = w := by
  have HR := hide hR
  clear hR
  have hcn : ∀ W, (binOp .eql 51 (.func (.func 12) #[] #[]) .nilFunc).run Try.prog W = .ok (.bool false) W := cmp_nil
  have HAN := hide ask_nil
  have hni : (64 : Int) < (n : Int) := by omega
  unfold fcmp
  go_enter Try.func11, Try.ntmps11
  go_wp2_with fail
  go_loopw [15] (fun s wr => ∃ k : Nat, k ≤ n ∧ .int .i64 (k : Int) = s ∧ w = wr) (fun s _ => n - (intOf s).toNat)
  case atStart => exact ⟨0, by omega, rfl, rfl⟩
  case round =>
    obtain ⟨k, hk, rfl, rfl⟩ := hrel
    by_cases hkn : k < n
    · have hki : (k : Int) < (n : Int) := by omega
      obtain ⟨b, off, rfl, hbl, hcs⟩ := HR.out (by omega)
      have c0 := hcs k hkn
      unfold feedV at c0
      have han : ∀ W, (binOp .eql 38 (.func (.func 10) #[.pointer (some ⟨g k, 0, none⟩)] #[]) .nilFunc).run Try.prog W = .ok (.bool false) W := fun W => HAN.out (g k) W
      generalize g k = gk at c0 han
      clear hcs
      go_wp2_with fail
      go_roundw
      case rel => exact ⟨k + 1, by omega, by go_num, by first | rfl | trivial⟩
      case measure => simp [intOf]; omega
    · obtain rfl : k = n := by omega
      go_wp2_with fail
      go_ret2
      exact ⟨rfl, rfl⟩
/-- A new list of sources that are zero. -/
theorem make_src (n : Nat) (h : n ≤ 64) : ∃ M : Array Value, M.size = n * 4 ∧ (∀ j, j < n → M[j * 4]? = some .nilFunc ∧ M[j * 4 + 1]? = some (.int .i64 0) ∧ M[j * 4 + 2]? = some (.int .i64 0) ∧ M[j * 4 + 3]? = some (.bool false)) ∧
    ∀ W, (Instr.makeSlice 52 (.int .i64 (n : Int)) (.int .i64 (n : Int))).run Try.prog W = .ok (.slice (some ⟨W.heap.size, 0, none⟩) n n) (W.alloc (.cells M 57)) := by
  have hq := infoS
  cases hi : Try.prog.info? 57 with
  | none => simp [hi] at hq
  | some i =>
    simp only [hi, Option.map_some, Option.some.injEq, Prod.mk.injEq] at hq
    obtain ⟨h1, h2, h3⟩ := hq
    refine ⟨madeCells #[.nilFunc, .int .i64 0, .int .i64 0, .bool false] (n * 4), size_madeCells _ _, fun j hj => ?_, fun W => ?_⟩
    · have e : ∀ k, k < n * 4 → (madeCells #[Value.nilFunc, .int .i64 0, .int .i64 0, .bool false] (n * 4))[k]? = some ((#[Value.nilFunc, .int .i64 0, .int .i64 0, .bool false] : Array Value)[k % 4]!) := fun k hk => by
        unfold madeCells
        rw [Array.getElem?_map, Array.getElem?_range, if_pos hk]
        rfl
      refine ⟨?_, ?_, ?_, ?_⟩
      · rw [e _ (by omega), show j * 4 % 4 = 0 by omega]; rfl
      · rw [e _ (by omega), show (j * 4 + 1) % 4 = 1 by omega]; rfl
      · rw [e _ (by omega), show (j * 4 + 2) % 4 = 2 by omega]; rfl
      · rw [e _ (by omega), show (j * 4 + 3) % 4 = 3 by omega]; rfl
    · have := run_make (P := Try.prog) W 52 57 i _ Try.underlying52 hi h1 .i64 .i64 (n : Int) (n : Int) (by omega) (by omega) (by rw [h3]; omega) (by omega)
      rw [h2, Int.toNat_natCast] at this
      exact this
theorem zero_mrg : Me.zm = #[.nilFunc, .slice none 0 0] ++ (List.replicate 64 (Value.int .i64 0)).toArray ++ #[.bool false, .bool false, .int .i64 0] := by kernel_rfl
/-- The merge as it is made. -/
theorem new_ms (w : World) (n : Nat) (hn : n ≤ 64) (M : Array Value) (h1 : M.size = n * 4) (h2 : ∀ j, j < n → M[j * 4]? = some .nilFunc ∧ M[j * 4 + 1]? = some (.int .i64 0) ∧ M[j * 4 + 2]? = some (.int .i64 0) ∧ M[j * 4 + 3]? = some (.bool false)) :
    MS ((w.alloc (.cells M 57)).alloc (.cells ((Me.zm.setIfInBounds 0 fcmp).setIfInBounds 1 (.slice (some ⟨w.heap.size, 0, none⟩) n n)) 55)) (w.heap.size + 1) w.heap.size n pos0 false false 0 (fun _ => sc0) := by
  have hz : (w.alloc (.cells M 57)).heap.size = w.heap.size + 1 := by simp
  refine ⟨⟨(Me.zm.setIfInBounds 0 fcmp).setIfInBounds 1 (.slice (some ⟨w.heap.size, 0, none⟩) n n), ?_, ?_, ?_, ?_, fun j hj => ?_, ?_, ?_, ?_⟩, ⟨M, ?_, h1, h2⟩, by omega, hn⟩
  · have q := heap_alloc_new (w.alloc (.cells M 57)) (.cells ((Me.zm.setIfInBounds 0 fcmp).setIfInBounds 1 (.slice (some ⟨w.heap.size, 0, none⟩) n n)) 55)
    rw [hz] at q
    exact q
  · rw [zero_mrg]; simp
  · rw [Array.getElem?_setIfInBounds, if_neg (by omega), Array.getElem?_setIfInBounds, if_pos rfl, if_pos (by rw [zero_mrg]; simp)]
  · rw [Array.getElem?_setIfInBounds, if_pos rfl, if_pos (by rw [Array.size_setIfInBounds, zero_mrg]; simp)]
  · rw [Array.getElem?_setIfInBounds, if_neg (by omega), Array.getElem?_setIfInBounds, if_neg (by omega), zero_mrg]
    rw [Array.getElem?_append_left (by simp; omega), Array.getElem?_append_right (by simp)]
    rw [show (2 + j - (#[Value.nilFunc, Value.slice none 0 0] : Array Value).size) = j by simp, List.getElem?_toArray, List.getElem?_replicate, if_pos hj]
    rfl
  · rw [Array.getElem?_setIfInBounds, if_neg (by omega), Array.getElem?_setIfInBounds, if_neg (by omega), zero_mrg, Array.getElem?_append_right (by simp)]
    simp
  · rw [Array.getElem?_setIfInBounds, if_neg (by omega), Array.getElem?_setIfInBounds, if_neg (by omega), zero_mrg, Array.getElem?_append_right (by simp)]
    simp
  · rw [Array.getElem?_setIfInBounds, if_neg (by omega), Array.getElem?_setIfInBounds, if_neg (by omega), zero_mrg, Array.getElem?_append_right (by simp)]
    simp
  · exact (((Below.refl (w.alloc (.cells M 57)).heap.size (w.alloc (.cells M 57))).alloc (Nat.le_refl _) _).block w.heap.size (by rw [hz]; omega)).trans (heap_alloc_new _ _)
theorem SB.putA {w : World} {gs n : Nat} {F : Nat → Sc} (h : SB w gs n F) (i : Nat) (hi : i < n) (v : Value) : SB (w.setCell ⟨gs, i * 4, none⟩ v) gs n (setF F i ⟨v, (F i).th, (F i).some⟩) := by
  obtain ⟨cur, h0, h1, h2⟩ := h
  refine ⟨_, heap_setCell_same _ _ _ _ _ _ h0, by simp [h1], fun j hj => ?_⟩
  obtain ⟨a, b, c, d⟩ := h2 j hj
  simp only [Array.getElem?_setIfInBounds]
  unfold setF
  by_cases e : j = i
  · subst e
    simp only [if_true]
    refine ⟨?_, ?_, ?_, ?_⟩
    · rw [if_pos (by omega)]
    · rw [if_neg (by omega)]; exact b
    · rw [if_neg (by omega)]; exact c
    · rw [if_neg (by omega)]; exact d
  · simp only [if_neg e]
    refine ⟨?_, ?_, ?_, ?_⟩
    · rw [if_neg (by omega)]; exact a
    · rw [if_neg (by omega)]; exact b
    · rw [if_neg (by omega)]; exact c
    · rw [if_neg (by omega)]; exact d
def scN (g : Nat → Nat) (k : Nat) : Nat → Sc := fun j => if j < k then sc1 g j else sc0
theorem scN_next (g : Nat → Nat) (k : Nat) : setF (scN g k) k ⟨feedV (g k), (scN g k k).th, (scN g k k).some⟩ = scN g (k + 1) := by
  have e0 : scN g k k = sc0 := by unfold scN; simp
  rw [e0]
  funext j
  unfold setF scN
  by_cases e : j = k
  · subst e; rw [if_pos rfl, if_pos (by omega)]; rfl
  · rw [if_neg e]
    by_cases q : j < k
    · rw [if_pos q, if_pos (by omega)]
    · rw [if_neg q, if_neg (by omega)]
set_option maxHeartbeats 4000000 in
set_option maxRecDepth 100000 in
theorem new_few (a : Option Addr) (n c : Nat) (g : Nat → Nat) (w : World) (hR : RdG w a n g) (hn : n ≤ 64) :
    Calls Try.prog 11 #[fcmp, .slice a n c] w fun e w' => ∃ gm gs, e = .returned (.tuple #[.pointer (some ⟨gm, 0, none⟩), .int .i64 0]) ∧ w.heap.size ≤ gm ∧ w.heap.size ≤ gs ∧ Below w.heap.size w w' ∧ MS w' gm gs n pos0 false false 0 (sc1 g) := by
  have HR := hide hR
  clear hR
  have hcn : ∀ W, (binOp .eql 51 (.func (.func 12) #[] #[]) .nilFunc).run Try.prog W = .ok (.bool false) W := cmp_nil
  have HAN := hide ask_nil
  have hni : ¬ (64 : Int) < (n : Int) := by omega
  obtain ⟨M, hM1, hM2, hM3⟩ := make_src n hn
  have HMA := hide (And.intro hM1 hM2)
  clear hM1 hM2
  unfold fcmp
  have hzv := zm_run
  have hzn := zm_ne
  go_enter Try.func11, Try.ntmps11
  go_wp2_with fail
  go_loopw [15] (fun s wr => ∃ k : Nat, k ≤ n ∧ .int .i64 (k : Int) = s ∧ w = wr) (fun s _ => n - (intOf s).toNat)
  case atStart => exact ⟨0, by omega, rfl, rfl⟩
  case round =>
    obtain ⟨k, hk, rfl, rfl⟩ := hrel
    by_cases hkn : k < n
    · have hki : (k : Int) < (n : Int) := by omega
      obtain ⟨b, off, rfl, hbl, hcs⟩ := HR.out (by omega)
      have c0 := hcs k hkn
      unfold feedV at c0
      have han : ∀ W, (binOp .eql 38 (.func (.func 10) #[.pointer (some ⟨g k, 0, none⟩)] #[]) .nilFunc).run Try.prog W = .ok (.bool false) W := fun W => HAN.out (g k) W
      generalize g k = gk at c0 han
      clear hcs
      go_wp2_with fail
      go_roundw
      case rel => exact ⟨k + 1, by omega, by go_num, by first | rfl | trivial⟩
      case measure => simp [intOf]; omega
    · obtain rfl : k = n := by omega
      go_wp2_with fail
      have HMS : Hid (MS ((w.alloc (.cells M 57)).alloc (.cells ((Me.zm.setIfInBounds 0 (.func (.func 12) #[] #[])).setIfInBounds 1 (.slice (some ⟨w.heap.size, 0, none⟩) k k)) 55)) (w.heap.size + 1) w.heap.size k pos0 false false 0 (scN g 0)) := (new_ms w k hn M HMA.out.1 HMA.out.2).congr (fun j hj => by unfold scN; simp)
      have HBW : Hid (Below w.heap.size w ((w.alloc (.cells M 57)).alloc (.cells ((Me.zm.setIfInBounds 0 (.func (.func 12) #[] #[])).setIfInBounds 1 (.slice (some ⟨w.heap.size, 0, none⟩) k k)) 55))) := two_below _ _ _
      obtain ⟨w2, hw2⟩ : ∃ w2, (w.alloc (.cells M 57)).alloc (.cells ((Me.zm.setIfInBounds 0 (.func (.func 12) #[] #[])).setIfInBounds 1 (.slice (some ⟨w.heap.size, 0, none⟩) k k)) 55) = w2 := ⟨_, rfl⟩
      rw [hw2] at HMS HBW ⊢
      clear hw2 hM3 HMA
      obtain ⟨gs, hgs⟩ : ∃ gs, w.heap.size = gs := ⟨_, rfl⟩
      rw [hgs] at HMS ⊢
      obtain ⟨gm, hgm⟩ : ∃ gm, gs + 1 = gm := ⟨_, rfl⟩
      rw [hgm] at HMS ⊢
      have HLG : Hid (w.heap.size ≤ gs ∧ w.heap.size ≤ gm) := ⟨by omega, by omega⟩
      clear hgs hgm
      generalize (Value.agg ((Me.zm.setIfInBounds 0 (.func (.func 12) #[] #[])).setIfInBounds 1 (.slice (some ⟨gs, 0, none⟩) k k))) = ag
      go_loopw [33] (fun s wr => ∃ i : Nat, i ≤ k ∧ .int .i64 (i : Int) = s ∧ Hid (MS wr gm gs k pos0 false false 0 (scN g i)) ∧ Hid (Below w.heap.size w wr)) (fun s _ => k - (intOf s).toNat)
      case atStart => exact ⟨0, by omega, rfl, HMS, HBW⟩
      case round =>
        clear HMS HBW
        obtain ⟨i, hi, rfl, HMS, HBW⟩ := hrel
        by_cases hin : i < k
        · have hii : (i : Int) < (k : Int) := by omega
          obtain ⟨b, off, rfl, hbl, hcs⟩ := HR.out (by omega)
          have c0 := (HBW.out.cell (p := ⟨b, off + i, none⟩) hbl).trans (hcs i hin)
          unfold feedV at c0
          have m1 := HMS.out.m.cells.2.1
          have s0 := (HMS.out.s.cells i hin).1
          have z0 : scN g i i = sc0 := by unfold scN; simp
          rw [z0] at s0
          unfold sc0 at s0
          simp only at s0
          have f0 := HMS.out.s.frozen (i * 4)
          have HPA : Hid (MS (wr.setCell ⟨gs, i * 4, none⟩ (feedV (g i))) gm gs k pos0 false false 0 (scN g (i + 1))) := by
            rw [← scN_next]
            exact ⟨HMS.out.m.same (Below.heap_setCell _ _ _ _ HMS.out.ne), HMS.out.s.putA i hin _, HMS.out.ne, HMS.out.n64⟩
          have HPB : Hid (Below w.heap.size w (wr.setCell ⟨gs, i * 4, none⟩ (feedV (g i)))) := HBW.out.setCell HLG.out.1 _
          unfold feedV at HPA HPB
          generalize g i = gi at c0 HPA HPB
          clear hcs z0
          go_wp2_with fail
          go_roundw
          case rel => exact ⟨i + 1, by omega, by go_num, HPA, HPB⟩
          case measure => simp [intOf]; omega
        · obtain rfl : i = k := by omega
          go_wp2_with fail
          go_ret2
          have hms := HMS.out.congr (F' := sc1 g) (fun j hj => by unfold scN; rw [if_pos hj])
          refine ⟨gm, gs, ?_⟩
          exact ⟨rfl, HLG.out.2, HLG.out.1, HBW.out, hms⟩
end Go.Proofs.Ytcnfkgmefikcjaa.Me
