/-
  The document's own answer: Encode.
-/
import Derived.Test.YtckfkilpoimikaaLzR8
namespace Go.Proofs.Ytckfkilpoimikaa.Lz
open Go.ChangeShapes Go.WideShapes Go.ChangeAt Go.RowKit
open Go.Proofs.Ytckfkilpoimikaa.Base Go.Proofs.Ytckfkilpoimikaa.Nums
set_option linter.unusedVariables false
theorem good_len (ts : List Tok) : ∀ h n, Good ts h n → ts.length + h ≤ n ∧ ∀ t, t ∈ ts → t.lit.length ≤ n := by
  induction ts with
  | nil => intro h n e; simp only [Good] at e; subst e; exact ⟨by simp, fun t ht => by simp at ht⟩
  | cons t r ih =>
    intro h n e
    obtain ⟨h1, h2, h3⟩ := e
    obtain ⟨i1, i2⟩ := ih _ _ h3
    have ha := ok_adv t h n h2 h1
    refine ⟨by rw [List.length_cons]; omega, fun u hu => ?_⟩
    rcases List.mem_cons.1 hu with rfl | hu
    · omega
    · exact i2 u hu
set_option maxHeartbeats 1000000 in
set_option maxRecDepth 100000 in
theorem refEncode_long (a : Option Addr) (len cap : Nat) (w : World) (hl : 65536 < len) (hm : len ≤ 140737488355328) :
    Calls Try.prog 21 #[.slice a len cap] w fun e w' => e = .returned (.tuple #[.slice none 0 0, .int .i64 2]) ∧ w' = w := by
  have h1 : (65536 : Int) < (len : Int) := by omega
  clear hl
  go_enter Try.func21, Try.ntmps21
  go_wp2_with fail
  go_ret2
  exact ⟨rfl, rfl⟩
set_option maxHeartbeats 1000000 in
set_option maxRecDepth 100000 in
theorem refEncode_any (a : Option Addr) (len cap : Nat) (x : Txt) (w : World) (hr : Rd w a len x) (hcap : len ≤ cap) (hm : cap ≤ 9223372036854775807) (hl : len ≤ 65536) (hz : a = none → len = 0 ∧ cap = 0) :
    Calls Try.prog 21 #[.slice a len cap] w fun e w' => ∃ v, e = .returned (.tuple #[v, .int .i64 ((written (ownFrom x 0 0)).2 : Nat)]) ∧ Own w' w.heap.size v (written (ownFrom x 0 0)).1 ∧ Below w.heap.size w w' := by
  have HO := hide (refOwn_any a len cap x w hr hcap hm hl hz)
  have HG := hide (good_len _ _ _ (own_good x (by have := hr.1; omega) x.length 0 0 (by omega) (Nat.le_refl _) (Nat.zero_le _)).1)
  have HL := hide hr.1
  have hli : ¬ (65536 : Int) < (len : Int) := by omega
  clear hr
  go_enter Try.func21, Try.ntmps21
  go_wp2_with fail
  refine HO.out.mono ?_
  rintro e w1 ⟨v, ps, rfl, ht, hps, hb⟩
  obtain ⟨va, vn, vc, rfl, hvn⟩ := ht.named
  have hg := HG.out
  rw [HL.out, ← hps] at hg
  have htr := ht.trd (fun p hp => by have := hg.2 p.2 (List.mem_map_of_mem hp); omega) (by have := hg.1; rw [List.length_map] at this; omega)
  rw [hps] at htr
  have HTR := hide htr
  have HB := hide hb
  clear ht hps hb hvn hg htr HO HG
  go_wp2_with fail
  refine (refWrite_any va vn vc _ w1 HTR.out).mono ?_
  rintro e w2 ⟨v2, rfl, ho2, hb2⟩
  have HO2 := hide ho2
  have HB2 := hide (below_trans HB.out hb2)
  have hs := HB.out.size
  clear ho2 hb2
  go_wp2_with fail
  go_ret2
  exact ⟨_, rfl, HO2.out.mono hs, HB2.out⟩
theorem own_written (x : Txt) (hx : x.length ≤ 65536) : written (ownFrom x 0 0) = (bytesOf (ownFrom x 0 0), 0) := by
  have h := good_measure _ 0 x.length hx (own_good x hx x.length 0 0 (by omega) (Nat.le_refl _) (Nat.zero_le _)).1
  unfold written
  rw [h]
  rfl
end Go.Proofs.Ytckfkilpoimikaa.Lz
