/-
  Publishing; what a reading gives.
-/
import Derived.Test.YtdcjhjpbkpiddaaStOps
namespace Go.Proofs.Ytdcjhjpbkpiddaa.St
open Go.ChangeShapes Go.WideShapes Go.ChangeAt Go.RowKit Go.MuLone
open Go.Proofs.Ytdcjhjpbkpiddaa.Base
set_option linter.unusedVariables false
set_option maxHeartbeats 1000000
theorem enter55 (args : Array Value) (W : World) : (callFunc 26 args).run Try.prog W = .ok (.enter 26 args) W := enter_of Try.func26 (by kernel_rfl) (by kernel_rfl) args W
set_option maxRecDepth 100000 in
theorem publishS_any (s bm n b : Nat) (D : DataW Unit) (R B G : Int) (nm : ByteArray) (v : Value) (w : World) (hs : Store w s bm n D R B G) (hn : okName nm = true) (hsz : nm.size ≤ 140737488351232) (hd : D.atKey (key nm) .nil = .lit (.int .i64 (b : Int)))
    (hb : BAt w b v 1 (-1) false) (hsb : s ≠ b) (hmb : bm ≠ b) :
    Calls Try.prog 12 #[.pointer (some ⟨s, 0, none⟩), .string nm] w fun e w' => e = .returned (.int .i64 0) ∧ Store w' s bm n D R B G ∧ BAt w' b v 2 (-1) false ∧ Kept2 w w' (some s) (some b) := by
  have hG2 : w.grownBy (w.setCell ⟨s, 0, none⟩ (.int .i32 1)) (some s) := grown_cell (World.grownBy.refl _ _) _ _
  have hb2 := hb.grown hG2 (by simpa using hsb)
  have hS2 : SAt (w.setCell ⟨s, 0, none⟩ (.int .i32 1)) s 1 bm R B G := hs.at_.lock 1
  have HC := hide (onBlob_any s bm n b 26 R B G D nm #[] w
    (fun e w' => e = .returned (.int .i64 0) ∧ Store w' s bm n D R B G ∧ BAt w' b v 2 (-1) false ∧ Kept2 w w' (some s) (some b)) enter55 hs.at_ hs.map hs.ne hn hsz hd (by
      refine (publish_any b v _ hb2).mono ?_
      rintro e w3 ⟨rfl, rfl⟩
      have hG3 : (w.setCell ⟨s, 0, none⟩ (.int .i32 1)).grownBy ((w.setCell ⟨s, 0, none⟩ (.int .i32 1)).setCell ⟨b, 1, none⟩ (.int .i64 2)) (some b) := grown_cell (World.grownBy.refl _ _) _ _
      have hS3 := hS2.grown hG3 (by simpa using fun e => hsb e.symm)
      have hG4 : ((w.setCell ⟨s, 0, none⟩ (.int .i32 1)).setCell ⟨b, 1, none⟩ (.int .i64 2)).grownBy (((w.setCell ⟨s, 0, none⟩ (.int .i32 1)).setCell ⟨b, 1, none⟩ (.int .i64 2)).setCell ⟨s, 0, none⟩ (.int .i32 0)) (some s) := grown_cell (World.grownBy.refl _ _) _ _
      have kk : Kept2 w (((w.setCell ⟨s, 0, none⟩ (.int .i32 1)).setCell ⟨b, 1, none⟩ (.int .i64 2)).setCell ⟨s, 0, none⟩ (.int .i32 0)) (some s) (some b) := kept2_trans (kept2_trans (kept2_grown hG2 (.inl rfl)) (kept2_grown hG3 (.inr (.inl rfl)))) (kept2_grown hG4 (.inl rfl))
      exact ⟨0, rfl, ⟨R, B, G, hS3⟩, rfl, ⟨hS3.lock 0, MAt.kept hs.map kk (by simpa using hs.ne) (by simpa using fun e => hmb e.symm), hs.ne⟩, (hb2.state 2).grown hG4 (by simpa using hsb), kk⟩))
  clear hG2 hb2 hS2 hb hs hd
  go_enter Try.func12, Try.ntmps12
  go_wp2_with fail
  refine HC.out.mono ?_
  rintro e w' ⟨rfl, h1, h2, h3⟩
  have HF := hide (And.intro h1 (And.intro h2 h3))
  clear h1 h2 h3
  go_wp2_with fail
  go_ret
  exact ⟨rfl, HF.out.1, HF.out.2.1, HF.out.2.2⟩
/-- What a reading of published bytes gives. -/
def readOf (bs : List (BitVec 8)) (at_ n : Int) : List (BitVec 8) × Int := if at_ < 0 ∨ (bs.length : Int) < at_ then ([], 56) else ((bs.drop at_.toNat).take n.toNat, 0)
theorem readB_open {sp : Int} {sd : Bool} (b : Nat) (v : Value) (at_ n : Int) (w : World) (h : BAt w b v 1 sp sd) :
    Calls Try.prog 28 #[.pointer (some ⟨b, 0, none⟩), .int .i64 at_, .int .i64 n] w fun e w' => e = .returned (.tuple #[.slice none 0 0, .int .i64 53]) ∧ w' = w := by
  obtain ⟨c0, c1, c2, c3⟩ := h.cells
  go_enter Try.func28, Try.ntmps28
  go_wp2_with fail
  go_ret2
  exact ⟨rfl, rfl⟩
set_option maxRecDepth 100000 in
theorem readB_any (b : Nat) (va : Option Addr) (len cap : Nat) (bs : List (BitVec 8)) (at_ n : Int) (w : World) (base : Nat) (h : BAt w b (.slice va len cap) 2 (-1) false) (ho : Own w base (.slice va len cap) bs) (hl : len ≤ 268435456) (hn : 0 ≤ n) :
    Calls Try.prog 28 #[.pointer (some ⟨b, 0, none⟩), .int .i64 at_, .int .i64 n] w fun e w' => ∃ v, e = .returned (.tuple #[v, .int .i64 (readOf bs at_ n).2]) ∧ Own w' w.heap.size v (readOf bs at_ n).1 ∧ Below w.heap.size w w' := by
  have hcm := ho.room
  have hc := (Got.cap ho).1
  have hnil : va = none → len = 0 ∧ cap = 0 := Got.nil ho
  have hr := Got.rd ho (by have := (Got.cap ho).2; omega)
  have HOO := hide ho
  clear ho
  obtain ⟨c0, c1, c2, c3⟩ := h.cells
  have HSZ := hide (size_any b va len cap 2 (-1) false w h (by omega))
  have HR := hide hr
  have HL := hide hr.1
  have hli : (len : Int) ≤ 268435456 := by omega
  clear h hr
  by_cases h1 : at_ < 0
  · have e : readOf bs at_ n = ([], 56) := by unfold readOf; rw [if_pos (.inl h1)]
    rw [e]
    clear e
    go_enter Try.func28, Try.ntmps28
    go_wp2_with (go_at_call 39; refine HSZ.out.mono ?_; rintro e w' ⟨rfl, rfl⟩)
    go_ret2
    exact ⟨_, rfl, own_none _ _, Below.refl _ _⟩
  by_cases h2 : (len : Int) < at_
  · have e : readOf bs at_ n = ([], 56) := by unfold readOf; rw [if_pos (.inr (by rw [HL.out]; exact h2))]
    rw [e]
    clear e
    go_enter Try.func28, Try.ntmps28
    go_wp2_with (go_at_call 39; refine HSZ.out.mono ?_; rintro e w' ⟨rfl, rfl⟩)
    go_ret2
    exact ⟨_, rfl, own_none _ _, Below.refl _ _⟩
  obtain ⟨p, rfl⟩ : ∃ p : Nat, at_ = (p : Int) := ⟨at_.toNat, by omega⟩
  obtain ⟨N, rfl⟩ : ∃ N : Nat, n = (N : Int) := ⟨n.toNat, by omega⟩
  have hpl : p ≤ len := by omega
  have HE : Hid (readOf bs (p : Int) (N : Int) = ((bs.drop p).take N, 0)) := by show _ = _; unfold readOf; rw [if_neg (by rw [HL.out]; omega), Int.toNat_natCast, Int.toNat_natCast]
  rw [HE.out]
  obtain ⟨M, hM⟩ : ∃ M, min N (len - p) = M := ⟨_, rfl⟩
  have hMi : min (N : Int) ((len - p : Nat) : Int) = (M : Int) := by omega
  have HTK : Hid ((bs.drop p).take N = (bs.drop p).take M) := by
    show _ = _
    by_cases hq : N ≤ len - p
    · rw [show M = N by omega]
    · rw [show M = len - p by omega, List.take_of_length_le (by rw [List.length_drop, HL.out]; omega), List.take_of_length_le (by rw [List.length_drop, HL.out]; omega)]
  rw [HTK.out]
  cases va with
  | none =>
    obtain ⟨rfl, rfl⟩ := hnil rfl
    obtain rfl : p = 0 := by omega
    obtain rfl : M = 0 := by omega
    have hcl := cloneB_any none 0 0 [] w (rd_nil _) (fun _ => ⟨rfl, rfl⟩)
    have HCL := hide hcl
    rw [List.take_zero]
    rw [show ((0 : Nat) : Int) = 0 from rfl] at HSZ hMi
    have hmin : min (N : Int) 0 = 0 := by omega
    clear hcl
    go_enter Try.func28, Try.ntmps28
    go_wp2_with (first
      | (go_at_call 39; refine HSZ.out.mono ?_; rintro e w' ⟨rfl, rfl⟩)
      | (go_at_call 40; refine HCL.out.mono ?_; rintro e w3 ⟨v, rfl, ho, hb⟩))
    go_ret2
    exact ⟨v, rfl, ho, hb⟩
  | some ad =>
    obtain ⟨g, hg⟩ : ∃ g, ad = ⟨g, 0, none⟩ := by
      rcases HOO.out.2 with ⟨q1, _⟩ | ⟨g, cp, cur, q1, _⟩
      · simp at q1
      · simp only [Value.slice.injEq, Option.some.injEq] at q1; exact ⟨g, q1.1⟩
    subst hg
    obtain ⟨la, hcut, hla, hsp, hbl⟩ := cut_l g 0 len cap p hpl hc
    have hRp : Rd w (some la) (len - p) (bs.drop p) := HR.out.past p hpl la hla
    have hRm := hRp.cut M (by omega)
    obtain ⟨rl, hrl⟩ : ∃ rl, len - p = rl := ⟨_, rfl⟩
    obtain ⟨rc, hrc⟩ : ∃ rc, cap - p = rc := ⟨_, rfl⟩
    have hMc : M ≤ rc := by omega
    have hMci : (M : Int) ≤ (rc : Int) := by omega
    have hrli : (rl : Int) ≤ 268435456 := by omega
    rw [hrl] at hMi
    rw [hrl, hrc] at hcut
    have HCL := hide (cloneB_any (some la) M rc _ w hRm (fun e => by cases e))
    have hlt1 : ¬ (len : Int) < (p : Int) := by omega
    have hcmp : (N : Int) < (rl : Int) ∧ (M : Int) = N ∨ ¬ (N : Int) < (rl : Int) ∧ (M : Int) = rl := by omega
    clear hRp hRm hla hsp hbl hrl hrc hM
    rcases hcmp with ⟨hq1, hq2⟩ | ⟨hq1, hq2⟩
    · obtain rfl : M = N := by omega
      clear hq2
      go_enter Try.func28, Try.ntmps28
      go_wp2_with (first
        | (go_at_call 39; refine HSZ.out.mono ?_; rintro e w' ⟨rfl, rfl⟩)
        | (go_at_call 40; refine HCL.out.mono ?_; rintro e w3 ⟨v, rfl, ho, hb⟩))
      go_ret2
      exact ⟨v, rfl, ho, hb⟩
    · obtain rfl : M = rl := by omega
      clear hq2
      go_enter Try.func28, Try.ntmps28
      go_wp2_with (first
        | (go_at_call 39; refine HSZ.out.mono ?_; rintro e w' ⟨rfl, rfl⟩)
        | (go_at_call 40; refine HCL.out.mono ?_; rintro e w3 ⟨v, rfl, ho, hb⟩))
      go_ret2
      exact ⟨v, rfl, ho, hb⟩
end Go.Proofs.Ytdcjhjpbkpiddaa.St
