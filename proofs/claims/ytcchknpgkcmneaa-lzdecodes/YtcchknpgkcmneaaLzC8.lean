/-
  What the program tells of Tokens.
-/
import Derived.Test.YtcchknpgkcmneaaLzC7
namespace Go.Proofs.Ytcchknpgkcmneaa.Lz
open Go.ChangeShapes Go.WideShapes Go.ChangeAt Go.RowKit
open Go.Proofs.Ytcchknpgkcmneaa.Base Go.Proofs.Ytcchknpgkcmneaa.Nums
set_option linter.unusedVariables false
/-- What 'Tokens' has made when the tokens ts have been handed on. -/
def TokI (w : World) (p base : Nat) (ts : List Tok) (w' : World) : Prop :=
  (∃ v ps, Box w' p v 51 ∧ OwnToks w' base v ps ∧ ps.map (·.2) = ts) ∧ Below w.heap.size w w' ∧ base ≤ w'.heap.size ∧ ts.length ≤ (expand [] ts).length
theorem tok_taker (w : World) (p n base : Nat) (hn : n ≤ 65536) (hpb : p < base) (hpw : w.heap.size ≤ p) : Taker 65 #[.pointer (some ⟨p, 0, none⟩)] n (TokI w p base) := by
  have keep : ∀ ts w0 w1, TokI w p base ts w0 → Below w0.heap.size w0 w1 → TokI w p base ts w1 := by
    intro ts w0 w1 ⟨⟨v, ps, h1, h2, h3⟩, h4, h5, h6⟩ hb
    exact ⟨⟨v, ps, h1.below hb, h2.below hb, h3⟩, below_trans h4 hb, Nat.le_trans h5 hb.size, h6⟩
  refine ⟨keep, fun ts t la lc w0 w1 hI hb hr hz hlc hlc2 hok hlt => ?_⟩
  obtain ⟨⟨v, ps, h1, h2, h3⟩, h4, h5, h6⟩ := hI
  have hs := hb.size
  have hadv := ok_adv t _ n hok hlt
  have hpl : ps.length = ts.length := by rw [← h3, List.length_map]
  refine (tokens1_any p base v ps t la lc w1 (h1.below hb) (h2.below hb) hpb (by omega) hr hz hlc (by omega) (by omega)).mono ?_
  rintro e w2 ⟨rfl, v', u, hb2, ho2, hk⟩
  have hvb : ∀ i, v.ownBlock = some i → base ≤ i ∧ i < w0.heap.size := fun i e => World.ownsRow.lt h2.row i e
  refine ⟨rfl, ⟨⟨v', ps ++ [(u, t)], hb2, ho2, by rw [List.map_append, h3]; rfl⟩, ?_, by have := hk.size; omega, ?_⟩, hk.size, fun g hg1 hg2 => hk.block g hg2 (fun e => by have := Option.some.inj e; omega) (fun e => by have := hvb g e.symm; omega)⟩
  · exact Kept2.below (below_trans h4 hb) hk (fun i e => by cases e; exact hpw) (fun i e => by have := hvb i e; omega)
  · rw [expand_snoc, length_grow, List.length_append]
    simp only [List.length_cons, List.length_nil]
    omega
/-- The program's Tokens, of any bytes and any length. -/
def toked (bs : List (BitVec 8)) (n : Int) : List Tok × Nat := if n < 0 ∨ 65536 < n then ([], 3) else if (read bs 0 n.toNat).2 = 0 then ((read bs 0 n.toNat).1, 0) else ([], (read bs 0 n.toNat).2)
set_option maxHeartbeats 2000000 in
set_option maxRecDepth 100000 in
theorem tokens_any (a : Option Addr) (len cap : Nat) (bs : List (BitVec 8)) (n : Int) (w : World) (hr : Rd w a len bs) (hcap : len ≤ cap) (hm : cap ≤ 9223372036854775807) :
    Calls Try.prog 21 #[.slice a len cap, .int .i64 n] w fun e w' => ∃ v ps, e = .returned (.tuple #[v, .int .i64 ((toked bs n).2 : Nat)]) ∧ OwnToks w' w.heap.size v ps ∧ ps.map (·.2) = (toked bs n).1 ∧ Below w.heap.size w w' := by
  have HR := hide hr
  clear hr
  have HF := hide (fun args w => enter_of Try.func65 (by kernel_rfl) (c := _) rfl args w)
  have HB : Hid (Below w.heap.size w (w.alloc (.cells #[.slice none 0 0] 51))) := (Below.refl _ _).alloc (Nat.le_refl _) _
  by_cases hn : n < 0 ∨ 65536 < n
  · have HD : Hid (toked bs n = ([], 3)) := by show _ = _; unfold toked; rw [if_pos hn]
    go_enter Try.func21, Try.ntmps21
    go_wp2_with fail
    refine (read_arg _ _ a len cap n _ hn).mono ?_
    rintro e w1 ⟨rfl, rfl⟩
    go_wp2_with fail
    go_ret2
    rw [HD.out]
    exact ⟨_, [], rfl, toks_none _ _, rfl, HB.out⟩
  · obtain ⟨m, rfl⟩ := Int.eq_ofNat_of_zero_le (by omega : 0 ≤ n)
    have hm2 : m ≤ 65536 := by omega
    have H5 : Hid (Box (w.alloc (.cells #[.slice none 0 0] 51)) w.heap.size (.slice none 0 0) 51) := heap_alloc_new _ _
    have HZ : Hid ((w.alloc (.cells #[.slice none 0 0] 51)).heap.size = w.heap.size + 1) := by show _ = _; simp
    have HI : Hid (TokI w w.heap.size (w.heap.size + 1) [] (w.alloc (.cells #[.slice none 0 0] 51))) :=
      ⟨⟨_, [], H5.out, toks_none _ _, rfl⟩, HB.out, by rw [HZ.out]; exact Nat.le_refl _, Nat.zero_le _⟩
    have HRE := hide (read_one 65 (.pointer (some ⟨w.heap.size, 0, none⟩)) a len cap bs m (TokI w w.heap.size (w.heap.size + 1)) _ hcap hm hm2 HF.out
      (tok_taker w w.heap.size m (w.heap.size + 1) hm2 (by omega) (Nat.le_refl _)) HI.out (fun ts w' h => HR.out.below h.2.1))
    have HD : Hid (toked bs (m : Int) = if (read bs 0 m).2 = 0 then ((read bs 0 m).1, 0) else ([], (read bs 0 m).2)) := by
      show _ = _; unfold toked; rw [if_neg hn, Int.toNat_natCast]
    generalize read bs 0 m = G at HRE HD
    obtain ⟨gt, ge⟩ := G
    simp only at HRE HD
    clear hn H5 HI
    go_enter Try.func21, Try.ntmps21
    go_wp2_with fail
    refine HRE.out.mono ?_
    rintro e w1 ⟨rfl, hI⟩
    obtain ⟨⟨v, ps, hbx, hown, hps⟩, hbl, _, _⟩ := hI
    have HO := hide hown
    have HPS := hide hps
    have HBL := hide hbl
    have k1 := hbx.c0
    clear hown hbl hbx HRE hps
    by_cases he : ge = 0
    · subst he
      rw [if_pos rfl] at HD
      go_wp2_with fail
      go_ret2
      rw [HD.out]
      exact ⟨_, ps, rfl, ⟨⟨HO.out.row.1, by
        rcases HO.out.row.2 with h | ⟨g, cap, cur, e1, e2, e3⟩
        · exact .inl h
        · exact .inr ⟨g, cap, cur, e1, by omega, e3⟩⟩, fun p hp => (HO.out.lits p hp).mono (by omega), HO.out.full, HO.out.apart⟩, HPS.out, HBL.out⟩
    · have hb : ((ge : Int) != 0) = true := by rw [bne_iff_ne]; omega
      rw [if_neg he] at HD
      go_wp2_with fail
      go_ret2
      rw [HD.out]
      exact ⟨_, [], rfl, toks_none _ _, rfl, HBL.out⟩
end Go.Proofs.Ytcchknpgkcmneaa.Lz
