/-
  The document's Map: the kinds count and index.
-/
import Derived.Test.YtcefodcjmbnpoaaDoorJbCut
import Derived.Laws.EntriesVeiled
namespace Go.Proofs.YtcefodcjmbnpoaaDoor.Jb
open Go.ChangeShapes Go.WideShapes Go.ChangeAt Go.RowKit
open Go.Lib hiding intOf
open Go.Proofs.YtcefodcjmbnpoaaDoor.Base
open Go.Proofs.YtcefodcjmbnpoaaDoor.Pa (OwnS RdS)
set_option linter.unusedVariables false
set_option maxHeartbeats 2000000 in
set_option maxRecDepth 100000 in
theorem rmap0 (p : Int) (s : ByteArray) (w : World) (hs : s.size ≤ 1048576) :
    Calls Tryd.prog 6 #[.int .i64 0, .int .i64 p, .string s] w fun e w' => Ans w e w' (mapP 0 p s) (mapN 0 s) := by
  have HPP : Hid (mapP 0 p s = eachP (wordsL s) (⟨#[49]⟩ : ByteArray) ∧ mapN 0 s = eachN (wordsL s)) := ⟨rfl, rfl⟩
  rw [HPP.out.1, HPP.out.2]
  have HWA := hide (fun W => words_any s W (by omega))
  have hwl := words_len s
  generalize wordsL s = ws at HWA hwl HPP ⊢
  clear HPP
  go_enter Tryd.func6, Tryd.ntmps6
  go_wp2_with (first
    | (go_at_call 26; refine (HWA.out _).mono ?_; rintro e w1 ⟨vw, rfl, ho1, hb1⟩; have HO1 := hide ho1; have HB1 := hide hb1; clear ho1 hb1; obtain ⟨a, c, rfl⟩ := HO1.out.shape))
  obtain ⟨n, hn⟩ : ∃ n, ws.length = n := ⟨_, rfl⟩
  rw [hn] at HO1 hwl ⊢
  have HN := hide hn
  have HRD : Hid (0 < n → ∃ b off, a = some ⟨b, off, none⟩ ∧ b < w1.heap.size ∧ ∀ i, i < n → w1.cell? ⟨b, off + i, none⟩ = some (.string (ws.getD i ⟨#[]⟩))) := by
    intro h0
    rcases HO1.out.2 with ⟨h1, h2⟩ | ⟨g, cap', cur, h1, _⟩
    · rw [HN.out] at h2; omega
    · simp only [Value.slice.injEq] at h1
      obtain ⟨rfl, _, rfl⟩ := h1
      exact ⟨g, 0, rfl, HO1.out.lt'.2, fun i hi => by rw [Nat.zero_add]; exact HO1.out.cell i hi⟩
  clear hn HWA
  go_loopw [8, 9, 12] (fun s8 s9 s12 wr => ∃ (i d : Nat) (x : Value), i ≤ n ∧ d ≤ i ∧ x = s8 ∧ .int .i64 (d : Int) = s9 ∧ .int .i64 (i : Int) = s12 ∧ Hid (eachN (ws.take i) = d) ∧ Hid (OwnP wr w1.heap.size x (eachP (ws.take i) (⟨#[49]⟩ : ByteArray))) ∧ Hid (Below w1.heap.size w1 wr)) (fun _ _ s12 _ => n - (intOf s12).toNat)
  case atStart => exact ⟨0, 0, _, by omega, by omega, rfl, rfl, rfl, rfl, ownp_none _ _, Below.refl _ _⟩
  case round =>
    obtain ⟨i, d, x, hi, hd, rfl, rfl, rfl, HD, HP, HB⟩ := hrel
    by_cases hin : i < n
    · have hii : (i : Int) < (n : Int) := by omega
      have hi0 : (0 : Int) ≤ (i : Int) := by omega
      have hlw : i < ws.length := by rw [HN.out]; exact hin
      obtain ⟨b, off, rfl, hbl, hbc⟩ := HRD.out (by omega)
      have hcell := (HB.out.cell (p := ⟨b, off + i, none⟩) hbl).trans (hbc i hin)
      obtain ⟨z, hz⟩ : ∃ z, ws.getD i ⟨#[]⟩ = z := ⟨_, rfl⟩
      have HT := hide (take_snoc ws i hlw)
      rw [hz] at hcell HT
      clear hbc
      cases hsh : short z with
      | true =>
        have hzs : (z.size : Int) ≤ 1024 := by have h : z.size ≤ 1024 := of_decide_eq_true hsh; omega
        have HE : Hid (eachP (ws.take (i + 1)) (⟨#[49]⟩ : ByteArray) = eachP (ws.take i) (⟨#[49]⟩ : ByteArray) ++ [(z, (⟨#[49]⟩ : ByteArray))] ∧ eachN (ws.take (i + 1)) = d) := by
          show _ ∧ _
          rw [HT.out, eachP_snoc, eachN_snoc, hsh]; exact ⟨rfl, HD.out⟩
        have HPL : Hid ((eachP (ws.take i) (⟨#[49]⟩ : ByteArray)).length ≤ i) := by
          have h := eachP_len (ws.take i) (⟨#[49]⟩ : ByteArray)
          rw [List.length_take] at h
          show _ ≤ _; omega
        clear hsh hz
        obtain ⟨wa, hwa⟩ : ∃ wa, wr.alloc (.cells #[.string z, .string (⟨#[49]⟩ : ByteArray)] 30) = wa := ⟨_, rfl⟩
        have HBA : Hid (Below wr.heap.size wr wa) := by rw [← hwa]; exact (Below.refl _ _).alloc (Nat.le_refl _) _
        have HCA : Hid (wa.heap[wr.heap.size]? = some (.cells #[.string z, .string (⟨#[49]⟩ : ByteArray)] 30)) := by rw [← hwa]; exact heap_alloc_new _ _
        go_wp2_with (at_builtin; refine pushP wa rfl _ _ rfl w1.heap.size x (eachP (ws.take i) (⟨#[49]⟩ : ByteArray)) rfl (HP.out.below HBA.out) wr.heap.size (z, (⟨#[49]⟩ : ByteArray)) rfl HCA.out (by have := HPL.out; omega) (by have := HB.out.size; have := HBA.out.size; omega) ?_; intro g c4 w4 ho4 hg4 _; have HP4 := hide ho4; have HB4 := hide ((below_trans HB.out HBA.out).grown hg4 (below_trans HB.out HBA.out).size (fun k e => (HP.out.blk k e).1)); clear ho4 hg4)
        go_roundw
        case rel => exact ⟨i + 1, d, _, by omega, by omega, rfl, rfl, by go_num, HE.out.2, by rw [HE.out.1]; exact HP4.out, HB4.out⟩
        case measure => (simp [intOf] <;> omega)
      | false =>
        have hzs : ¬ (z.size : Int) ≤ 1024 := by have h : ¬ z.size ≤ 1024 := of_decide_eq_false hsh; omega
        have HE : Hid (eachP (ws.take (i + 1)) (⟨#[49]⟩ : ByteArray) = eachP (ws.take i) (⟨#[49]⟩ : ByteArray) ∧ eachN (ws.take (i + 1)) = d + 1) := by
          show _ ∧ _
          rw [HT.out, eachP_snoc, eachN_snoc, hsh]; exact ⟨rfl, by rw [HD.out]; rfl⟩
        clear hsh hz
        go_wp2_with fail
        go_roundw
        case rel => exact ⟨i + 1, d + 1, _, by omega, by omega, rfl, by go_num, by go_num, HE.out.2, by rw [HE.out.1]; exact HP.out, HB.out⟩
        case measure => (simp [intOf] <;> omega)
    · have hie : i = n := by omega
      subst hie
      have HE : Hid (ws.take i = ws) := by show _ = _; rw [List.take_of_length_le (by rw [HN.out]; exact Nat.le_refl _)]
      go_wp2_with fail
      go_ret2
      refine ⟨x, ?_, ?_, HB1.out.trans (HB.out.mono HB1.out.size)⟩
      · have h := HD.out
        rw [HE.out] at h
        rw [h]; rfl
      · have h := HP.out
        rw [HE.out] at h
        exact h.mono HB1.out.size
set_option maxHeartbeats 2000000 in
set_option maxRecDepth 100000 in
theorem rmap1 (p : Int) (s : ByteArray) (w : World) (hs : s.size ≤ 1048576) (hp : In64 p) :
    Calls Tryd.prog 6 #[.int .i64 1, .int .i64 p, .string s] w fun e w' => Ans w e w' (mapP 1 p s) (mapN 1 s) := by
  have HPP : Hid (mapP 1 p s = eachP (wordsL s) (dec p) ∧ mapN 1 s = eachN (wordsL s)) := ⟨rfl, rfl⟩
  rw [HPP.out.1, HPP.out.2]
  have HWA := hide (fun W => words_any s W (by omega))
  have hwl := words_len s
  have HDC := hide (fun W => decimal_any p hp W)
  generalize dec p = V at HDC HPP ⊢
  generalize wordsL s = ws at HWA hwl HPP ⊢
  clear HPP
  go_enter Tryd.func6, Tryd.ntmps6
  go_wp2_with (first
    | (go_at_call 25; refine (HDC.out _).mono ?_; rintro e w9 ⟨rfl, hq9⟩; obtain rfl := hq9.symm)
    | (go_at_call 26; refine (HWA.out _).mono ?_; rintro e w1 ⟨vw, rfl, ho1, hb1⟩; have HO1 := hide ho1; have HB1 := hide hb1; clear ho1 hb1; obtain ⟨a, c, rfl⟩ := HO1.out.shape))
  obtain ⟨n, hn⟩ : ∃ n, ws.length = n := ⟨_, rfl⟩
  rw [hn] at HO1 hwl ⊢
  have HN := hide hn
  have HRD : Hid (0 < n → ∃ b off, a = some ⟨b, off, none⟩ ∧ b < w1.heap.size ∧ ∀ i, i < n → w1.cell? ⟨b, off + i, none⟩ = some (.string (ws.getD i ⟨#[]⟩))) := by
    intro h0
    rcases HO1.out.2 with ⟨h1, h2⟩ | ⟨g, cap', cur, h1, _⟩
    · rw [HN.out] at h2; omega
    · simp only [Value.slice.injEq] at h1
      obtain ⟨rfl, _, rfl⟩ := h1
      exact ⟨g, 0, rfl, HO1.out.lt'.2, fun i hi => by rw [Nat.zero_add]; exact HO1.out.cell i hi⟩
  clear hn HWA
  go_loopw [8, 9, 12] (fun s8 s9 s12 wr => ∃ (i d : Nat) (x : Value), i ≤ n ∧ d ≤ i ∧ x = s8 ∧ .int .i64 (d : Int) = s9 ∧ .int .i64 (i : Int) = s12 ∧ Hid (eachN (ws.take i) = d) ∧ Hid (OwnP wr w1.heap.size x (eachP (ws.take i) V)) ∧ Hid (Below w1.heap.size w1 wr)) (fun _ _ s12 _ => n - (intOf s12).toNat)
  case atStart => exact ⟨0, 0, _, by omega, by omega, rfl, rfl, rfl, rfl, ownp_none _ _, Below.refl _ _⟩
  case round =>
    obtain ⟨i, d, x, hi, hd, rfl, rfl, rfl, HD, HP, HB⟩ := hrel
    by_cases hin : i < n
    · have hii : (i : Int) < (n : Int) := by omega
      have hi0 : (0 : Int) ≤ (i : Int) := by omega
      have hlw : i < ws.length := by rw [HN.out]; exact hin
      obtain ⟨b, off, rfl, hbl, hbc⟩ := HRD.out (by omega)
      have hcell := (HB.out.cell (p := ⟨b, off + i, none⟩) hbl).trans (hbc i hin)
      obtain ⟨z, hz⟩ : ∃ z, ws.getD i ⟨#[]⟩ = z := ⟨_, rfl⟩
      have HT := hide (take_snoc ws i hlw)
      rw [hz] at hcell HT
      clear hbc
      cases hsh : short z with
      | true =>
        have hzs : (z.size : Int) ≤ 1024 := by have h : z.size ≤ 1024 := of_decide_eq_true hsh; omega
        have HE : Hid (eachP (ws.take (i + 1)) V = eachP (ws.take i) V ++ [(z, V)] ∧ eachN (ws.take (i + 1)) = d) := by
          show _ ∧ _
          rw [HT.out, eachP_snoc, eachN_snoc, hsh]; exact ⟨rfl, HD.out⟩
        have HPL : Hid ((eachP (ws.take i) V).length ≤ i) := by
          have h := eachP_len (ws.take i) V
          rw [List.length_take] at h
          show _ ≤ _; omega
        clear hsh hz
        obtain ⟨wa, hwa⟩ : ∃ wa, wr.alloc (.cells #[.string z, .string V] 30) = wa := ⟨_, rfl⟩
        have HBA : Hid (Below wr.heap.size wr wa) := by rw [← hwa]; exact (Below.refl _ _).alloc (Nat.le_refl _) _
        have HCA : Hid (wa.heap[wr.heap.size]? = some (.cells #[.string z, .string V] 30)) := by rw [← hwa]; exact heap_alloc_new _ _
        go_wp2_with (at_builtin; refine pushP wa rfl _ _ rfl w1.heap.size x (eachP (ws.take i) V) rfl (HP.out.below HBA.out) wr.heap.size (z, V) rfl HCA.out (by have := HPL.out; omega) (by have := HB.out.size; have := HBA.out.size; omega) ?_; intro g c4 w4 ho4 hg4 _; have HP4 := hide ho4; have HB4 := hide ((below_trans HB.out HBA.out).grown hg4 (below_trans HB.out HBA.out).size (fun k e => (HP.out.blk k e).1)); clear ho4 hg4)
        go_roundw
        case rel => exact ⟨i + 1, d, _, by omega, by omega, rfl, rfl, by go_num, HE.out.2, by rw [HE.out.1]; exact HP4.out, HB4.out⟩
        case measure => (simp [intOf] <;> omega)
      | false =>
        have hzs : ¬ (z.size : Int) ≤ 1024 := by have h : ¬ z.size ≤ 1024 := of_decide_eq_false hsh; omega
        have HE : Hid (eachP (ws.take (i + 1)) V = eachP (ws.take i) V ∧ eachN (ws.take (i + 1)) = d + 1) := by
          show _ ∧ _
          rw [HT.out, eachP_snoc, eachN_snoc, hsh]; exact ⟨rfl, by rw [HD.out]; rfl⟩
        clear hsh hz
        go_wp2_with fail
        go_roundw
        case rel => exact ⟨i + 1, d + 1, _, by omega, by omega, rfl, by go_num, by go_num, HE.out.2, by rw [HE.out.1]; exact HP.out, HB.out⟩
        case measure => (simp [intOf] <;> omega)
    · have hie : i = n := by omega
      subst hie
      have HE : Hid (ws.take i = ws) := by show _ = _; rw [List.take_of_length_le (by rw [HN.out]; exact Nat.le_refl _)]
      go_wp2_with fail
      go_ret2
      refine ⟨x, ?_, ?_, HB1.out.trans (HB.out.mono HB1.out.size)⟩
      · have h := HD.out
        rw [HE.out] at h
        rw [h]; rfl
      · have h := HP.out
        rw [HE.out] at h
        exact h.mono HB1.out.size
end Go.Proofs.YtcefodcjmbnpoaaDoor.Jb
