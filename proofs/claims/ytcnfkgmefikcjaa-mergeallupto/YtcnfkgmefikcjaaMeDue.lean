/-
  All sources are asked, or the last one's.
-/
import Derived.Test.YtcnfkgmefikcjaaMeAsk
namespace Go.Proofs.Ytcnfkgmefikcjaa.Me
open Go.ChangeShapes Go.WideShapes Go.ChangeAt Go.RowKit
open Go.Proofs.Ytcnfkgmefikcjaa.Base
set_option linter.unusedVariables false
/-- The sources that are played. -/
structure FSt (w : World) (n : Nat) (gf : Nat → Nat) (fd : Nat → Fd) (gm gs : Nat) : Prop where
  fb : ∀ j, j < n → FB w (gf j) (fd j)
  rd : ∀ j, j < n → RdH w (fd j).a (fd j).ts
  ap : ∀ j, j < n → ∀ b off, (fd j).a = some ⟨b, off, none⟩ → 0 < (fd j).ts.length → b ≠ gm ∧ b ≠ gs ∧ ∀ k, k < n → b ≠ gf k
  inj : ∀ j k, j < n → k < n → j ≠ k → gf j ≠ gf k
  far : ∀ j, j < n → gf j ≠ gm ∧ gf j ≠ gs
  len : ∀ j, j < n → (fd j).ts.length ≤ 4611686018427387904
  asks : ∀ j, j < n → (fd j).asks ≤ 4611686018427387904
def setD (fd : Nat → Fd) (i : Nat) (f : Fd) : Nat → Fd := fun j => if j = i then f else fd j
theorem next_ts (f : Fd) : f.next.ts = f.ts ∧ f.next.a = f.a := by unfold Fd.next; split <;> exact ⟨rfl, rfl⟩
theorem next_asks (f : Fd) : f.next.asks = f.asks + 1 := by unfold Fd.next; split <;> rfl
theorem FSt.step {w w' : World} {n : Nat} {gf : Nat → Nat} {fd : Nat → Fd} {gm gs : Nat} (h : FSt w n gf fd gm gs) (i : Nat) (hi : i < n) (hf : FB w' (gf i) (fd i).next) (t : Tn w w' (fun j => j = gs ∨ j = gf i)) (hk : (fd i).asks + 1 ≤ 4611686018427387904) : FSt w' n gf (setD fd i (fd i).next) gm gs := by
  have hb : ∀ j, j < n → (setD fd i (fd i).next j).ts = (fd j).ts ∧ (setD fd i (fd i).next j).a = (fd j).a := fun j hj => by
    unfold setD
    by_cases e : j = i
    · rw [if_pos e, e]; exact next_ts _
    · rw [if_neg e]; exact ⟨rfl, rfl⟩
  refine ⟨fun j hj => ?_, fun j hj => ?_, fun j hj b off e1 e2 => ?_, h.inj, h.far, fun j hj => ?_, fun j hj => ?_⟩
  · unfold setD
    by_cases e : j = i
    · rw [if_pos e, e]; exact hf
    · rw [if_neg e]
      exact (h.fb j hj).same (t.block _ (lt_row (h.fb j hj)) (fun q => by
        rcases q with q | q
        · exact (h.far j hj).2 q
        · exact h.inj j i hj hi e q))
  · rw [(hb j hj).1, (hb j hj).2]
    intro hp
    obtain ⟨b, off, e1, e2, e3⟩ := h.rd j hj hp
    obtain ⟨a1, a2, a3⟩ := h.ap j hj b off e1 hp
    have hblk : w'.heap[b]? = w.heap[b]? := t.block b e2 (fun q => by
      rcases q with q | q
      · exact a2 q
      · exact a3 i hi q)
    exact ⟨b, off, e1, Nat.lt_of_lt_of_le e2 t.size, fun k hk => ⟨(World.cell?_of_block (a := ⟨b, off + k * 2, none⟩) hblk).trans (e3 k hk).1, (World.cell?_of_block (a := ⟨b, off + k * 2 + 1, none⟩) hblk).trans (e3 k hk).2⟩⟩
  · rw [(hb j hj).2] at e1
    rw [(hb j hj).1] at e2
    exact h.ap j hj b off e1 e2
  · rw [(hb j hj).1]; exact h.len j hj
  · unfold setD
    by_cases e : j = i
    · rw [if_pos e, next_asks]; exact hk
    · rw [if_neg e]; exact h.asks j hj
theorem FSt.turned {w w' : World} {n : Nat} {gf : Nat → Nat} {fd : Nat → Fd} {gm gs : Nat} (h : FSt w n gf fd gm gs) (t : Tn w w' (fun j => j = gs ∨ j = gm)) : FSt w' n gf fd gm gs := by
  refine ⟨fun j hj => (h.fb j hj).same (t.block _ (lt_row (h.fb j hj)) (fun q => by
      rcases q with q | q
      · exact (h.far j hj).2 q
      · exact (h.far j hj).1 q)), fun j hj hp => ?_, h.ap, h.inj, h.far, h.len, h.asks⟩
  obtain ⟨b, off, e1, e2, e3⟩ := h.rd j hj hp
  obtain ⟨a1, a2, a3⟩ := h.ap j hj b off e1 hp
  have hblk : w'.heap[b]? = w.heap[b]? := t.block b e2 (fun q => by
    rcases q with q | q
    · exact a2 q
    · exact a1 q)
  exact ⟨b, off, e1, Nat.lt_of_lt_of_le e2 t.size, fun k hk => ⟨(World.cell?_of_block (a := ⟨b, off + k * 2, none⟩) hblk).trans (e3 k hk).1, (World.cell?_of_block (a := ⟨b, off + k * 2 + 1, none⟩) hblk).trans (e3 k hk).2⟩⟩
/-- askOne, with all sources about. -/
theorem ask_one (gm gs n : Nat) (gf : Nat → Nat) (fd : Nat → Fd) (bg ov : Bool) (er : Int) (F : Nat → Sc) (pl : Nat → Nat) (i : Nat) (w : World) (hM : MS w gm gs n pl bg ov er F) (hS : FSt w n gf fd gm gs) (hi : i < n) (hask : (F i).ask = feedV (gf i)) (hk : (fd i).asks + 1 ≤ 4611686018427387904) :
    Calls Try.prog 20 #[.pointer (some ⟨gm, 0, none⟩), .pointer (some ⟨gs, i * 4, none⟩)] w fun e w' => e = .returned (.int .i64 (codeA (F i) (fd i))) ∧ MS w' gm gs n pl bg ov er (setF F i (srcA (F i) (fd i))) ∧ FSt w' n gf (setD fd i (fd i).next) gm gs ∧ Tn w w' (fun j => j = gs ∨ ∃ k, k < n ∧ j = gf k) := by
  refine (askOne_any gm gs n (gf i) bg ov er F pl i (fd i) w hM hi hask (hS.fb i hi) (hS.rd i hi) (fun b off h1 h2 => (hS.ap i hi b off h1 h2).2.2 i hi) (hS.asks i hi) (hS.len i hi) (hS.far i hi).1 (hS.far i hi).2).mono ?_
  rintro e w' ⟨rfl, h1, h2, h3⟩
  exact ⟨rfl, h1, hS.step i hi h2 h3 hk, h3.mono (fun j q => by
    rcases q with q | q
    · exact .inl q
    · exact .inr ⟨i, hi, q⟩)⟩
/-- Behind k of the first askings. -/
def ups (F : Nat → Sc) (fd : Nat → Fd) (k : Nat) : Nat → Sc := fun j => if j < k then srcA (F j) (fd j) else F j
def nexts (fd : Nat → Fd) (k : Nat) : Nat → Fd := fun j => if j < k then (fd j).next else fd j
theorem ups_zero (F : Nat → Sc) (fd : Nat → Fd) : ups F fd 0 = F := by funext j; unfold ups; simp
theorem nexts_zero (fd : Nat → Fd) : nexts fd 0 = fd := by funext j; unfold nexts; simp
theorem ups_at (F : Nat → Sc) (fd : Nat → Fd) (k : Nat) : ups F fd k k = F k := by unfold ups; simp
theorem nexts_at (fd : Nat → Fd) (k : Nat) : nexts fd k k = fd k := by unfold nexts; simp
theorem ups_next (F : Nat → Sc) (fd : Nat → Fd) (k : Nat) : setF (ups F fd k) k (srcA (F k) (fd k)) = ups F fd (k + 1) := by
  funext j
  unfold setF ups
  by_cases e : j = k
  · subst e; rw [if_pos rfl, if_pos (by omega)]
  · rw [if_neg e]
    by_cases q : j < k
    · rw [if_pos q, if_pos (by omega)]
    · rw [if_neg q, if_neg (by omega)]
theorem nexts_next (fd : Nat → Fd) (k : Nat) : setD (nexts fd k) k (fd k).next = nexts fd (k + 1) := by
  funext j
  unfold setD nexts
  by_cases e : j = k
  · subst e; rw [if_pos rfl, if_pos (by omega)]
  · rw [if_neg e]
    by_cases q : j < k
    · rw [if_pos q, if_pos (by omega)]
    · rw [if_neg q, if_neg (by omega)]
set_option maxHeartbeats 4000000 in
set_option maxRecDepth 100000 in
theorem askAll_any (gm gs n : Nat) (gf : Nat → Nat) (fd : Nat → Fd) (ov : Bool) (er : Int) (F : Nat → Sc) (pl : Nat → Nat) (w : World) (hM : MS w gm gs n pl false ov er F) (hS : FSt w n gf fd gm gs) (hask : ∀ j, j < n → (F j).ask = feedV (gf j)) (hk : ∀ j, j < n → (fd j).asks + 1 ≤ 4611686018427387904) :
    Calls Try.prog 16 #[.pointer (some ⟨gm, 0, none⟩)] w fun e w' => ∃ (c : Int) (m : Nat), e = .returned (.int .i64 c) ∧ m ≤ n ∧ MS w' gm gs n pl false ov er (ups F fd m) ∧ FSt w' n gf (nexts fd m) gm gs ∧ Tn w w' (fun j => j = gs ∨ ∃ k, k < n ∧ j = gf k) ∧ ((c = 0 ∧ m = n ∧ ∀ j, j < n → codeA (F j) (fd j) = 0) ∨ (c ≠ 0 ∧ 0 < m ∧ c = codeA (F (m - 1)) (fd (m - 1)) ∧ ∀ j, j < m - 1 → codeA (F j) (fd j) = 0)) := by
  have m1 := hM.m.cells.2.1
  have m2 := hM.m.cells.2.2.1
  have hn := hM.n64
  have HM := hide hM
  have HS := hide hS
  have HASK := hide hask
  have HK := hide hk
  clear hM hS hask hk
  go_enter Try.func16, Try.ntmps16
  go_wp2_with fail
  go_loopw [24] (fun s wr => ∃ k : Nat, k ≤ n ∧ .int .i64 (k : Int) = s ∧ Hid (MS wr gm gs n pl false ov er (ups F fd k)) ∧ Hid (FSt wr n gf (nexts fd k) gm gs) ∧ Hid (Tn w wr (fun j => j = gs ∨ ∃ k, k < n ∧ j = gf k)) ∧ Hid (∀ j, j < k → codeA (F j) (fd j) = 0)) (fun s _ => n - (intOf s).toNat)
  case atStart => exact ⟨0, by omega, rfl, by rw [ups_zero]; exact HM, by rw [nexts_zero]; exact HS, Tn.refl _ _, fun j hj => absurd hj (by omega)⟩
  case round =>
    clear HM HS m1 m2
    obtain ⟨k, hkn, rfl, HM, HS, HT, HC⟩ := hrel
    by_cases hk : k < n
    · have hki : (k : Int) < (n : Int) := by omega
      have HA := hide (ask_one gm gs n gf (nexts fd k) false ov er (ups F fd k) pl k wr HM.out HS.out hk (by rw [ups_at]; exact HASK.out k hk) (by rw [nexts_at]; exact HK.out k hk))
      rw [ups_at, nexts_at, ups_next, nexts_next] at HA
      generalize hcc : codeA (F k) (fd k) = cc at HA
      have HCC := hide hcc
      clear hcc
      by_cases h0 : cc = 0
      · subst h0
        go_wp2_with (go_at_call 20; refine HA.out.mono ?_; rintro e w5 ⟨rfl, hm5, hs5, ht5⟩; have HM5 := hide hm5; have HS5 := hide hs5; have HT5 := hide (HT.out.trans ht5); clear hm5 hs5 ht5)
        go_roundw
        case rel =>
          refine ⟨k + 1, by omega, by go_num, HM5, HS5, HT5, fun j hj => ?_⟩
          by_cases q : j = k
          · rw [q]; exact HCC.out
          · exact HC.out j (by omega)
        case measure => simp [intOf]; omega
      · go_wp2_with (go_at_call 20; refine HA.out.mono ?_; rintro e w5 ⟨rfl, hm5, hs5, ht5⟩; have HM5 := hide hm5; have HS5 := hide hs5; have HT5 := hide (HT.out.trans ht5); clear hm5 hs5 ht5)
        go_ret
        refine ⟨cc, ?_⟩
        first
          | exact ⟨k + 1, rfl, by omega, HM5.out, HS5.out, HT5.out, .inr ⟨h0, by omega, HCC.out.symm, HC.out⟩⟩
          | exact ⟨rfl, k + 1, by omega, HM5.out, HS5.out, HT5.out, .inr ⟨h0, by omega, HCC.out.symm, HC.out⟩⟩
    · obtain rfl : k = n := by omega
      go_wp2_with fail
      go_ret
      refine ⟨0, ?_⟩
      first
        | exact ⟨k, rfl, by omega, HM.out, HS.out, HT.out, .inl ⟨rfl, rfl, HC.out⟩⟩
        | exact ⟨rfl, k, by omega, HM.out, HS.out, HT.out, .inl ⟨rfl, rfl, HC.out⟩⟩
set_option maxHeartbeats 4000000 in
set_option maxRecDepth 100000 in
theorem askLast_any (gm gs n : Nat) (gf : Nat → Nat) (fd : Nat → Fd) (ov : Bool) (er : Int) (F : Nat → Sc) (pl : Nat → Nat) (w : World) (hM : MS w gm gs n pl true ov er F) (hS : FSt w n gf fd gm gs) (hv : pl 0 < n) (hask : (F (pl 0)).ask = feedV (gf (pl 0))) (hk : (fd (pl 0)).asks + 1 ≤ 4611686018427387904) :
    Calls Try.prog 16 #[.pointer (some ⟨gm, 0, none⟩)] w fun e w' => e = .returned (.int .i64 (codeA (F (pl 0)) (fd (pl 0)))) ∧ MS w' gm gs n pl true ov er (setF F (pl 0) (srcA (F (pl 0)) (fd (pl 0)))) ∧ FSt w' n gf (setD fd (pl 0) (fd (pl 0)).next) gm gs ∧ Tn w w' (fun j => j = gs ∨ ∃ k, k < n ∧ j = gf k) := by
  have m1 := hM.m.cells.2.1
  have m2 := hM.m.cells.2.2.1
  have hn := hM.n64
  have HW := hide (winner_any gm gs n pl true ov er F w hM)
  have HA := hide (ask_one gm gs n gf fd true ov er F pl (pl 0) w hM hS hv hask hk)
  clear hM hS hask hk
  generalize pl 0 = v at *
  have hvi : (v : Int) < (n : Int) := by omega
  obtain ⟨u, hu⟩ : ∃ u, v + 1 = u := ⟨_, rfl⟩
  have hwu : IntKind.i64.wrap ((v : Int) + 1) = (u : Int) := by rw [IntKind.wrap_i64]; omega
  have hui : (u : Int) ≤ (n : Int) := by omega
  have hvu : (v : Int) ≤ (u : Int) := by omega
  have HU := hide hu
  clear hu
  go_enter Try.func16, Try.ntmps16
  go_wp2_with (go_at_call 14; refine HW.out.mono ?_; rintro e w1 ⟨rfl, rfl⟩)
  have huv : u - v = 1 := by have h1 := HU.out; omega
  rw [huv]
  generalize hcc : codeA (F v) (fd v) = cc at HA
  have HCC := hide hcc
  clear hcc
  clear HW m1 m2 hwu hui hvu huv
  rw [show ((1 : Nat) : Int) = 1 from rfl]
  go_loopw [24] (fun s wr => (.int .i64 0 = s ∧ w1 = wr) ∨ (.int .i64 1 = s ∧ Hid (cc = 0 ∧ MS wr gm gs n pl true ov er (setF F v (srcA (F v) (fd v))) ∧ FSt wr n gf (setD fd v (fd v).next) gm gs ∧ Tn w1 wr (fun j => j = gs ∨ ∃ k, k < n ∧ j = gf k)))) (fun s _ => 1 - (intOf s).toNat)
  case atStart => exact .inl ⟨rfl, rfl⟩
  case round =>
    rcases hrel with ⟨rfl, rfl⟩ | ⟨rfl, HX⟩
    · by_cases h0 : cc = 0
      · subst h0
        go_wp2_with (go_at_call 20; refine HA.out.mono ?_; rintro e w5 ⟨rfl, hm5, hs5, ht5⟩; have HX5 : Hid ((0 : Int) = 0 ∧ MS w5 gm gs n pl true ov er (setF F v (srcA (F v) (fd v))) ∧ FSt w5 n gf (setD fd v (fd v).next) gm gs ∧ Tn w1 w5 (fun j => j = gs ∨ ∃ k, k < n ∧ j = gf k)) := ⟨rfl, hm5, hs5, ht5⟩; clear hm5 hs5 ht5)
        go_roundw
        case rel => exact .inr ⟨rfl, HX5⟩
        case measure => simp [intOf]
      · go_wp2_with (go_at_call 20; refine HA.out.mono ?_; rintro e w5 ⟨rfl, hm5, hs5, ht5⟩; have HX5 : Hid (MS w5 gm gs n pl true ov er (setF F v (srcA (F v) (fd v))) ∧ FSt w5 n gf (setD fd v (fd v).next) gm gs ∧ Tn w1 w5 (fun j => j = gs ∨ ∃ k, k < n ∧ j = gf k)) := ⟨hm5, hs5, ht5⟩; clear hm5 hs5 ht5)
        go_ret
        exact ⟨by rw [HCC.out]; rfl, HX5.out⟩
    · go_wp2_with fail
      go_ret
      exact ⟨by rw [HCC.out, HX.out.1]; rfl, HX.out.2⟩
end Go.Proofs.Ytcnfkgmefikcjaa.Me
