/-
  All over a merge that stands within its run: what its iterator gives.
-/
import Derived.Test.YtcnfkgmefikcjaaMeRunE
import Derived.Test.YtcnfkgmefikcjaaMeAllO
import Derived.Test.YtcnfkgmefikcjaaRgLive
import Derived.WalkKit
import Derived.OwnWalkIn
import Derived.TacticsInMore
import Derived.LoopNIn
import Derived.LoopIn
import Derived.Sort.LoopGhostIn
namespace Go.Proofs.Ytcnfkgmefikcjaa.Me
open Go.ChangeShapes Go.WideShapes Go.ChangeAt Go.RowKit
open Go.Proofs.Ytcnfkgmefikcjaa.Base Go.Proofs.Ytcnfkgmefikcjaa.Rg
set_option linter.unusedVariables false
attribute [local go_sem] Oper.semAt_some
/-- All of a merge's blocks hold cells. -/
theorem AtA.cells {w : World} {gm gs n : Nat} {gf : Nat → Nat} {B : Nat → Fd} {P : List Th} (h : AtA w gm gs n gf B P) : ∀ j o, All n gm gs gf j → w.heap[j]? = some o → o.isCells = true := by
  have key : ∀ {pl : Nat → Nat} {bg ov : Bool} {er : Int} {F : Nat → Sc} {fd : Nat → Fd}, MS w gm gs n pl bg ov er F → FSt w n gf fd gm gs → ∀ j o, All n gm gs gf j → w.heap[j]? = some o → o.isCells = true := by
    intro pl bg ov er F fd hm hf j o hj ho
    rcases hj with rfl | rfl | ⟨k, hk, rfl⟩
    · obtain ⟨cur', h0, _⟩ := hm.m
      rw [h0] at ho
      cases ho; rfl
    · obtain ⟨cur', h0, _⟩ := hm.s
      rw [h0] at ho
      cases ho; rfl
    · have h0 : w.heap[gf k]? = _ := hf.fb k hk
      rw [h0] at ho
      cases ho; rfl
  rcases h with ⟨_, h⟩ | ⟨pos, v, h, _⟩
  · obtain ⟨pl, hm⟩ := h.ms
    exact key hm h.fs
  · obtain ⟨pl, hm, _⟩ := h.ms
    exact key hm h.fs
theorem tn_keeps {w w' : World} {S : Nat → Prop} (h : Tn w w' S) (hc : ∀ j o, S j → w.heap[j]? = some o → o.isCells = true) : KeepsOthers w w' :=
  ⟨h.size, fun k o hk ho => (h.block k (Array.getElem?_eq_some_iff.1 hk).1 (fun hS => by rw [hc k o hS hk] at ho; cases ho)).trans hk⟩
/-- One Next, ahead of a round. -/
def NextS (gm gs n : Nat) (gf : Nat → Nat) (B : Nat → Fd) (L : List Th) (i0 : Nat) (k : Nat) (W W' : World) : Prop := Tn W W' (All n gm gs gf) ∧ KeepsOthers W W' ∧ AtA W' gm gs n gf B (L.take (i0 + k + 1))
/-- The last Next. -/
def LastS (gm gs n : Nat) (gf : Nat → Nat) (x : Int) (A : Nat → Nat) (W W' : World) : Prop := Tn W W' (All n gm gs gf) ∧ KeepsOthers W W' ∧ EndA W' gm n gf x A
def ReadG (gc gm gs n : Nat) (gf : Nat → Nat) (B : Nat → Fd) (L : List Th) (i0 : Nat) (k : Nat) (W : World) : Prop := AtA W gm gs n gf B (L.take (i0 + k)) ∧ W.heap[gc]? = some (.cells #[.pointer (some ⟨gm, 0, none⟩)] 26)
theorem EndA.below {w w' : World} {gm n : Nat} {gf : Nat → Nat} {x : Int} {A : Nat → Nat} (h : EndA w gm n gf x A) (hb : Below w.heap.size w w') : EndA w' gm n gf x A := by
  obtain ⟨h1, fd, h2, h3⟩ := h
  exact ⟨h1.below hb, fd, fun j hj => (h2 j hj).same (hb.block _ (lt_row (h2 j hj))), h3⟩
set_option maxHeartbeats 4000000 in
set_option maxRecDepth 100000 in
theorem iter_live (gc gm gs n : Nat) (gf : Nat → Nat) (B : Nat → Fd) (L : List Th) (x : Int) (A : Nat → Nat) (i0 : Nat) (hi0 : i0 ≤ L.length) (hR : RunsA B n L x A) (hl : ∀ j, j < n → (B j).ts.length + 2 ≤ 4611686018427387904) :
    Rg.Live Try.prog 15 #[.pointer (some ⟨gc, 0, none⟩)] (L.length - i0) (fun k => #[(L.getD (i0 + k) th0).val]) (NextS gm gs n gf B L i0) (LastS gm gs n gf x A) (ReadG gc gm gs n gf B L i0) := by
  intro l J J' Jx Je W hS hE hG hY h0
  have HS := hide hS
  have HE := hide hE
  have HG := hide hG
  have HY := hide hY
  have HR := hide hR
  have HL := hide hl
  obtain ⟨N, hN⟩ : ∃ N, L.length - i0 = N := ⟨_, rfl⟩
  have HN := hide hN
  rw [hN]
  rw [hN] at HS HE HG HY
  clear hS hE hG hY hR hl hN
  refine (callsIn_wide (n := 10)).1 (callsIn_of_wp Try.func15 rfl trivial ?_ rfl)
  simp only [Try.ntmps15, List.size_toArray, List.length_cons, List.length_nil, Nat.reduceAdd, Nat.reduceSub, Array.replicate_succ, Array.replicate_zero, List.push_toArray, List.append_toArray, List.nil_append, List.cons_append]
  gi_wp2
  gi_loopg [4] N (fun m s4 wr => ∃ (k : Nat) (v : Value), k + m = N ∧ v = s4 ∧ Hid (J k wr))
  case atStart => exact ⟨0, _, by omega, rfl, h0⟩
  case round =>
    clear h0
    obtain ⟨k, v, hkm, rfl, HJk⟩ := hrel
    have HGk := hide (HG.out k wr (by omega) HJk.out)
    have c0 : wr.cell? ⟨gc, 0, none⟩ = some (.pointer (some ⟨gm, 0, none⟩)) := by rw [cell_of_row _ _ _ _ _ _ HGk.out.2]; rfl
    have HCE := hide HGk.out.1.cells
    have HNX := hide (next_tells gm gs n gf B (i0 + k) L x A wr (by have := HN.out; omega) HGk.out.1 HR.out HL.out)
    by_cases hlt : k < N
    · have HNX2 : Hid (Calls Try.prog 7 #[.pointer (some ⟨gm, 0, none⟩)] wr fun e w' => e = .returned (.tuple #[(L.getD (i0 + k) th0).val, .bool true, .int .i64 0]) ∧ Tn wr w' (All n gm gs gf) ∧ AtA w' gm gs n gf B (L.take (i0 + k + 1))) := hide (HNX.out.mono fun e w' ⟨h1, h2⟩ => by
        rcases h2 with ⟨h3, _⟩ | ⟨_, h4, h5⟩
        · have := HN.out; omega
        · exact ⟨h4, h1, h5⟩)
      have HYK : Hid (∀ V, J' k V → YieldAt Fence.wide 9 Try.prog l #[(L.getD (i0 + k) th0).val] V fun e W' => (e = .returned (.bool true) ∧ J (k + 1) W') ∨ (e = .returned (.bool false) ∧ Jx k W')) := fun V hV => HY.out k V hlt hV
      unfold Th.val at HNX2 HYK
      generalize (L.getD (i0 + k) th0).key = tk at HNX2 HYK
      generalize (L.getD (i0 + k) th0).name = tn at HNX2 HYK
      clear HNX
      gi_wp2_with (refine ⟨trivial, ?_⟩; gi_at_call 7; refine (callsIn_wide.2 HNX2.out).mono ?_; rintro e w1 ⟨rfl, ht, ha⟩; have HB2 := hide ((Below.refl w1.heap.size w1).alloc (Nat.le_refl _) (.cells #[.int .i64 tk, .int .i64 tn] 36)); have HJ2 := hide (HS.out k wr (w1.alloc (.cells #[.int .i64 tk, .int .i64 tn] 36)) hlt HJk.out ⟨ht.trans (Tn.of_below _ HB2.out), (tn_keeps ht HCE.out).trans (keeps_below _ _ HB2.out), ha.below HB2.out⟩); obtain ⟨fn, tmps, assign, body, hy, hR⟩ := HYK.out _ HJ2.out; clear ht ha)
      refine hR.mono ?_
      rintro e W4 (⟨rfl, hJ4⟩ | ⟨rfl, hJx4⟩)
      · gi_wp2
        gi_roundg (gk - 1)
        case rel => exact ⟨k + 1, _, by omega, rfl, hJ4⟩
        case measure => omega
      · gi_wp2
        refine bodyPost_ret (results_none rfl _ _ _) rfl ?_
        exact ⟨⟨_, rfl⟩, .inr ⟨k, hlt, hJx4⟩⟩
    · obtain rfl : k = N := by omega
      have HNX2 : Hid (Calls Try.prog 7 #[.pointer (some ⟨gm, 0, none⟩)] wr fun e w' => e = .returned (.tuple #[th0.val, .bool false, .int .i64 x]) ∧ Tn wr w' (All n gm gs gf) ∧ EndA w' gm n gf x A) := hide (HNX.out.mono fun e w' ⟨h1, h2⟩ => by
        rcases h2 with ⟨_, h4, h5⟩ | ⟨h3, _⟩
        · exact ⟨h4, h1, h5⟩
        · have := HN.out; omega)
      unfold Th.val th0 at HNX2
      clear HNX
      refine wpIn_wide.2 ?_
      go_wp2_with (go_at_call 7; refine HNX2.out.mono ?_; rintro e w1 ⟨rfl, ht, ha⟩; have HB2 := hide ((Below.refl w1.heap.size w1).alloc (Nat.le_refl _) (.cells #[.int .i64 0, .int .i64 0] 36)); have HJ2 := hide (HE.out wr (w1.alloc (.cells #[.int .i64 0, .int .i64 0] 36)) HJk.out ⟨ht.trans (Tn.of_below _ HB2.out), (tn_keeps ht HCE.out).trans (keeps_below _ _ HB2.out), ha.below HB2.out⟩); clear ht ha)
      refine bodyPost_ret (results_none rfl _ _ _) rfl ?_
      exact ⟨⟨_, rfl⟩, .inl HJ2.out⟩
end Go.Proofs.Ytcnfkgmefikcjaa.Me
