/-
  The document's own answer: Tokens and Decode, of any bytes and any length.
-/
import Derived.Test.YtcchknpgkcmneaaLzR13
import Derived.Test.YtcchknpgkcmneaaLzR2
import Derived.Test.YtcchknpgkcmneaaLzR9
import Derived.Test.YtcchknpgkcmneaaLzBackMath
namespace Go.Proofs.Ytcchknpgkcmneaa.Lz
open Go.ChangeShapes Go.WideShapes Go.ChangeAt Go.RowKit
open Go.Proofs.Ytcchknpgkcmneaa.Base Go.Proofs.Ytcchknpgkcmneaa.Nums
set_option linter.unusedVariables false
theorem toked_out (bs : List (BitVec 8)) (n : Int) (h : n < 0 ∨ 65536 < n) : toked bs n = ([], 3) := by unfold toked; rw [if_pos h]
theorem toked_none (N : Nat) (h : 0 < N) (hN : N ≤ 65536) : toked [] (N : Int) = ([], 30) :=
  toked_bad hN (by
    have hf : first ([] : List (BitVec 8)) 0 N = none := firstA (number_bad _ (by rw [get_nil]; simp))
    rw [read_fail _ _ _ h hN hf])
theorem toked_zero : toked [] ((0 : Nat) : Int) = ([], 0) := toked_good (by omega) (by rw [read_end _ _ _ (by omega)]; rfl)
set_option maxHeartbeats 1000000 in
set_option maxRecDepth 100000 in
theorem refTokens_out (a : Option Addr) (len cap : Nat) (bs : List (BitVec 8)) (n : Int) (w : World) (h : n < 0 ∨ 65536 < n) :
    Calls Try.prog 27 #[.slice a len cap, .int .i64 n] w fun e w' => e = .returned (.tuple #[.slice none 0 0, .int .i64 3]) ∧ w' = w := by
  go_enter Try.func27, Try.ntmps27
  by_cases h0 : n < 0
  · go_wp2_with fail
    go_ret2
    exact ⟨rfl, rfl⟩
  · have h1 : 65536 < n := by omega
    go_wp2_with fail
    go_ret2
    exact ⟨rfl, rfl⟩
set_option maxHeartbeats 1000000 in
set_option maxRecDepth 100000 in
theorem refTokens_zero (a : Option Addr) (cap N : Nat) (w : World) (hz : a = none → cap = 0) (hN : N ≤ 65536) :
    Calls Try.prog 27 #[.slice a 0 cap, .int .i64 (N : Int)] w fun e w' => e = .returned (.tuple #[.slice none 0 0, .int .i64 (if N = 0 then 0 else 30)]) ∧ Below w.heap.size w w' := by
  have HZ := hide hz
  have hNi : (N : Int) ≤ 65536 := by omega
  obtain ⟨E, hE⟩ : ∃ E : Int, (if N = 0 then 0 else 30) = E := ⟨_, rfl⟩
  have HE := hide hE
  rw [hE]
  clear hE hz
  go_enter Try.func27, Try.ntmps27
  go_wp2_with fail
  go_loopw [6, 7, 8] (fun v i j wr => v = .slice none 0 0 ∧ i = .int .i64 0 ∧ j = .int .i64 0 ∧ Hid (Below w.heap.size w wr)) (fun _ _ _ _ => 0)
  case atStart => exact ⟨rfl, rfl, rfl, Below.refl _ _⟩
  case round =>
    obtain ⟨rfl, rfl, rfl, HB⟩ := hrel
    by_cases h0 : N = 0
    · obtain rfl : E = 0 := by rw [← HE.out, if_pos h0]
      have hlt : ¬ (0 : Int) < (N : Int) := by omega
      clear h0
      go_wp2_with fail
      go_ret2
      exact ⟨rfl, HB.out⟩
    · obtain rfl : E = 30 := by rw [← HE.out, if_neg h0]
      have hlt : (0 : Int) < (N : Int) := by omega
      have HB1 : Hid (Below w.heap.size w (wr.alloc (.cells #[.slice none 0 0, .int .i64 0, .int .i64 0] 61))) := HB.out.alloc HB.out.size _
      have HC := hide (fun W => refNumber_zero a cap W HZ.out)
      have hneg : (-1 : Int) < 0 := by decide
      clear h0
      go_wp2_with fail
      refine (HC.out _).mono ?_
      rintro e w1 ⟨rfl, hb1⟩
      have HB2 := hide (below_trans HB1.out hb1)
      clear hb1 HB1 HC
      go_wp2_with fail
      go_ret2
      exact ⟨rfl, HB2.out⟩
/-- The document's Tokens: the same as the program's. -/
theorem refTokens_any (a : Option Addr) (len cap : Nat) (bs : List (BitVec 8)) (n : Int) (w : World) (hr : Rd w a len bs) (hcap : len ≤ cap) (hm : cap ≤ 9223372036854775807) (hz : a = none → len = 0 ∧ cap = 0) :
    Calls Try.prog 27 #[.slice a len cap, .int .i64 n] w fun e w' => ∃ v ps, e = .returned (.tuple #[v, .int .i64 ((toked bs n).2 : Nat)]) ∧ RToks w' w.heap.size v ps ∧ ps.map (·.2) = (toked bs n).1 ∧ Below w.heap.size w w' := by
  by_cases hn : n < 0 ∨ 65536 < n
  · refine (refTokens_out a len cap bs n w hn).mono ?_
    rintro e w1 ⟨rfl, rfl⟩
    rw [toked_out bs n hn]
    exact ⟨_, [], rfl, rtoks_none _ _, rfl, Below.refl _ _⟩
  · obtain ⟨N, rfl⟩ := Int.eq_ofNat_of_zero_le (by omega : 0 ≤ n)
    by_cases hl : len = 0
    · subst hl
      obtain rfl : bs = [] := List.length_eq_zero_iff.1 hr.1
      refine (refTokens_zero a cap N w (fun h => (hz h).2) (by omega)).mono ?_
      rintro e w1 ⟨rfl, hb⟩
      by_cases h0 : N = 0
      · subst h0
        rw [toked_zero]
        exact ⟨_, [], rfl, rtoks_none _ _, rfl, hb⟩
      · rw [toked_none N (by omega) (by omega), if_neg h0]
        exact ⟨_, [], rfl, rtoks_none _ _, rfl, hb⟩
    · obtain ⟨bb, off, rfl, _⟩ := hr.2.2 (by omega)
      exact refTokens_some bb off len cap bs N w hr hcap hm (by omega)
theorem toked_fine {bs : List (BitVec 8)} {n : Int} (h : (toked bs n).2 = 0) : Good (toked bs n).1 0 n.toNat ∧ n.toNat ≤ 65536 ∧ decoded bs n = (expand [] (toked bs n).1, 0) := by
  by_cases hn : n < 0 ∨ 65536 < n
  · rw [toked_out bs n hn] at h; simp at h
  · unfold toked at h ⊢
    unfold decoded
    rw [if_neg hn] at h ⊢
    rw [if_neg hn]
    by_cases hr : (read bs 0 n.toNat).2 = 0
    · rw [if_pos hr, if_pos hr]
      exact ⟨(read_ok n.toNat bs 0 n.toNat _ (by omega) (by omega) (by omega) (Prod.ext rfl hr)).1, by omega, rfl⟩
    · rw [if_neg hr] at h; exact absurd h hr
theorem toked_faulty {bs : List (BitVec 8)} {n : Int} (h : (toked bs n).2 ≠ 0) : decoded bs n = ([], (toked bs n).2) := by
  by_cases hn : n < 0 ∨ 65536 < n
  · rw [toked_out bs n hn]; unfold decoded; rw [if_pos hn]
  · unfold toked at h ⊢
    unfold decoded
    rw [if_neg hn] at h ⊢
    rw [if_neg hn]
    by_cases hr : (read bs 0 n.toNat).2 = 0
    · rw [if_pos hr] at h; exact absurd rfl h
    · rw [if_neg hr, if_neg hr]
set_option maxHeartbeats 1000000 in
set_option maxRecDepth 100000 in
/-- The document's Decode: the same as the program's. -/
theorem refDecode_any (a : Option Addr) (len cap : Nat) (bs : List (BitVec 8)) (n : Int) (w : World) (hr : Rd w a len bs) (hcap : len ≤ cap) (hm : cap ≤ 9223372036854775807) (hz : a = none → len = 0 ∧ cap = 0) :
    Calls Try.prog 26 #[.slice a len cap, .int .i64 n] w fun e w' => ∃ v, e = .returned (.tuple #[v, .int .i64 ((decoded bs n).2 : Nat)]) ∧ Own w' w.heap.size v (decoded bs n).1 ∧ Below w.heap.size w w' := by
  have HT := hide (refTokens_any a len cap bs n w hr hcap hm hz)
  have HFI := hide (fun h => toked_fine (bs := bs) (n := n) h)
  have HFA := hide (fun h => toked_faulty (bs := bs) (n := n) h)
  generalize toked bs n = T at HT HFI HFA
  generalize decoded bs n = D at HFI HFA
  obtain ⟨ts, te⟩ := T
  simp only at HT HFI HFA
  clear hr hcap hm hz
  go_enter Try.func26, Try.ntmps26
  go_wp2_with fail
  refine HT.out.mono ?_
  rintro e w1 ⟨v, ps, rfl, hrt, hps, hb1⟩
  obtain ⟨va, vn, vc, rfl, HVN⟩ := hrt.named
  have HRT := hide hrt
  have HPS := hide hps
  have HB1 := hide hb1
  clear hrt hps hb1 HT
  by_cases he : te = 0
  · subst he
    obtain ⟨hg, hnn, hd⟩ := HFI.out rfl
    have HD := hide hd
    have hgl := good_len ts 0 _ hg
    have HEX := hide (expanded_good ts _ hnn hg)
    have HTR : Hid (TRd w1 va vn ts) := by
      have h1 := HRT.out.trd (fun p hp => by have := hgl.2 p.2 (by rw [← HPS.out]; exact List.mem_map_of_mem hp); omega) (by have := hgl.1; rw [← HPS.out, List.length_map] at this; omega)
      rw [HPS.out] at h1
      exact h1
    have HC := hide (refExpand_any va vn vc ts w1 HTR.out)
    rw [HEX.out] at HC
    have h00 : (((0 : Nat) : Int) != 0) = false := by decide
    have h01 : ((0 : Nat) : Int) = 0 := rfl
    clear hg hnn hd hgl HFI HFA HTR HEX HVN
    go_wp2_with fail
    refine HC.out.mono ?_
    rintro e w2 ⟨v2, rfl, ho2, hb2⟩
    have HO2 := hide (ho2.mono HB1.out.size)
    have HB2 := hide (below_trans HB1.out hb2)
    clear ho2 hb2 HC
    go_wp2_with fail
    go_ret2
    rw [HD.out]
    exact ⟨_, rfl, HO2.out, HB2.out⟩
  · have HD := hide (HFA.out he)
    have hb : ((te : Int) != 0) = true := by rw [bne_iff_ne]; omega
    clear HFI HFA
    go_wp2_with fail
    go_ret2
    rw [HD.out]
    exact ⟨_, rfl, own_none _ _, HB1.out⟩
end Go.Proofs.Ytcchknpgkcmneaa.Lz
