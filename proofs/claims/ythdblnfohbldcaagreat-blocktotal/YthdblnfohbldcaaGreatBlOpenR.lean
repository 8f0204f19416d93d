/-
  Open of a tile whose payload tells raw bytes.
-/
import Derived.Test.YthdblnfohbldcaaGreatBlCutR
import Derived.Test.YthdblnfohbldcaaGreatBlRight
import Derived.Test.YthdblnfohbldcaaGreatBlOpen0
namespace Go.Proofs.YthdblnfohbldcaaGreat.Bl
open Go.ChangeShapes Go.WideShapes Go.ChangeAt Go.RowKit
open Go.Proofs.YthdblnfohbldcaaGreat.Base Go.Proofs.YthdblnfohbldcaaGreat.Nums Go.Proofs.YthdblnfohbldcaaGreat.Curs Go.Proofs.YthdblnfohbldcaaGreat.Crc
open Go.Proofs.YthdblnfohbldcaaGreat.Fa (St Cst fixS)
set_option linter.unusedVariables false
/-- Whether raw bytes are those of entries. -/
def rightT (T : List (BitVec 8)) : Bool := cutOk T && rightF (T.take (ctE T)) (ctP T) (ctR T) (ctN T) (ctG T) 0 ⟨#[]⟩
theorem cut_facts (T : List (BitVec 8)) (h : cutOk T = true) :
    PsOk (T.take (ctE T)) (ctP T) ∧ (ctP T).length = ctG T + 1 ∧ (∀ g, g < ctG T → g * ctR T < ctN T) ∧ ctN T ≤ ctG T * ctR T ∧ (T.take (ctE T)).length = ctE T ∧ 1 ≤ ctR T ∧ ctR T ≤ 64 ∧ 1 ≤ ctN T ∧ ctN T ≤ T.length ∧ 4 * ctG T + 8 ≤ T.length ∧ ctE T + 4 * ctG T + 8 = T.length := by
  unfold cutOk at h
  rw [Bool.and_eq_true] at h
  obtain ⟨hB, hC⟩ := h
  unfold cutB at hB
  rw [Bool.and_eq_true] at hB
  obtain ⟨hA, hB⟩ := hB
  have hB := of_decide_eq_true hB
  unfold cutA at hA
  obtain ⟨_, h1, h2, h3, h4⟩ := of_decide_eq_true hA
  unfold cutC at hC
  rw [Bool.and_eq_true, beq_iff_eq] at hC
  obtain ⟨hC0, hCU⟩ := hC
  have hE : ctE T + 4 * ctG T + 8 = T.length := by unfold ctE; omega
  have hpl : (ctP T).length = ctG T + 1 := by unfold ctP; rw [List.length_append, tabS_len]; rfl
  have hlast : (ctP T).getD (ctG T) 0 = (ctE T : Int) := by
    unfold ctP
    rw [List.getD_eq_getElem?_getD, List.getElem?_append_right (by rw [tabS_len]; exact Nat.le_refl _), tabS_len, Nat.sub_self]
    rfl
  have hup := upI_get (ctP T) hCU
  have hmono : ∀ d g, g + d < (ctP T).length → (ctP T).getD g 0 ≤ (ctP T).getD (g + d) 0 := by
    intro d
    induction d with
    | zero => intro g _; exact Int.le_refl _
    | succ d ih => intro g hg; exact Int.le_trans (ih g (by omega)) (hup (g + d) (by omega))
  have hlen : (T.take (ctE T)).length = ctE T := by rw [List.length_take]; omega
  refine ⟨?_, hpl, ?_, ?_, hlen, h1, h2, h3, h4, hB, hE⟩
  · intro g hg
    have a1 := hmono g 0 (by omega)
    rw [Nat.zero_add, hC0] at a1
    have a2 := hup g hg
    have a3 := hmono (ctG T - (g + 1)) (g + 1) (by omega)
    rw [Nat.add_sub_cancel' (by omega), hlast] at a3
    exact ⟨a1, a2, by rw [hlen]; exact a3⟩
  · intro g hg
    unfold ctG at hg
    have := (Nat.le_div_iff_mul_le (k := ctR T) (by omega)).1 (Nat.le_of_lt_succ hg)
    omega
  · unfold ctG
    have a1 := Nat.div_add_mod (ctN T - 1) (ctR T)
    have a2 := Nat.mod_lt (ctN T - 1) (y := ctR T) (by omega)
    rw [Nat.add_mul, Nat.mul_comm ((ctN T - 1) / ctR T)]
    omega
/-- What unpack told, as a slice that reads. -/
theorem unp_got {w0 w1 : World} {v : Value} {ok : Bool} {T : List (BitVec 8)} (h : ok = true → (∃ ta tn tc, v = .slice ta tn tc ∧ tn ≤ tc ∧ tc ≤ 9223372036854775807 ∧ (ta = none → tc = 0) ∧ Rd w1 ta tn T) ∨ Own w1 w0.heap.size v T) (hok : ok = true) (hl : T.length ≤ 140737488355328) :
    ∃ ta tn tc, v = .slice ta tn tc ∧ tn ≤ tc ∧ tc ≤ 9223372036854775807 ∧ (ta = none → tc = 0) ∧ Rd w1 ta tn T := by
  rcases h hok with h1 | h1
  · exact h1
  · obtain ⟨a, c, rfl⟩ := h1.shape
    exact ⟨a, _, c, rfl, own_le0 h1, Own.room h1, (fun e => (Got.nil h1 e).2), Got.rd h1 hl⟩
set_option maxHeartbeats 4000000 in
set_option maxRecDepth 100000 in
theorem open_text (a : Option Addr) (n cap : Nat) (bs T : List (BitVec 8)) (raw : Int) (w : World) (hr : Rd w a n bs) (hcap : n ≤ cap) (hm : cap ≤ 9223372036854775807) (h1 : 1 ≤ raw) (h2 : raw ≤ 65536) (he : openErr bs = 0) (hl : (openBody bs).length ≤ 140737488355328) (hu : unpOk (openBody bs) raw = true) (hT : unpT (openBody bs) raw = T) (hTl : T.length ≤ 65536) :
    Calls Tryz.prog 10 #[.slice a n cap, .int .i64 raw] w fun e w' => ∃ v, e = .returned (.tuple #[v, .int .i64 (if rightT T = true then 0 else 60)]) ∧ (rightT T = true → ∃ q, v = .pointer (some ⟨q, 0, none⟩) ∧ w.heap.size ≤ q ∧ RX w' q (T.take (ctE T)) (ctP T) (ctR T) (ctN T)) ∧ (rightT T = false → v = .pointer none) ∧ Below w.heap.size w w' := by
  have HO := hide (Crc.open_any a n cap bs w hr hcap hm)
  rw [he] at HO
  have h1n : ¬ raw < 1 := by omega
  have h2n : ¬ 65536 < raw := by omega
  obtain ⟨P, hP⟩ : ∃ P, openBody bs = P := ⟨_, rfl⟩
  rw [hP] at HO hl hu hT
  have HU := hide hu
  have HT := hide hT
  clear hP hr hu hT
  obtain ⟨RT, hRT⟩ : ∃ b, rightT T = b := ⟨_, rfl⟩
  rw [hRT]
  obtain ⟨er, her⟩ : ∃ er : Int, (if RT = true then 0 else 60) = er := ⟨_, rfl⟩
  rw [her]
  have HRT0 := hide hRT
  have HER := hide her
  clear hRT her
  cases hc : cutOk T with
  | false =>
    have HR0 : Hid (RT = false) := by show _ = _; rw [← HRT0.out]; unfold rightT; rw [hc]; rfl
    have HR : Hid (RT = false ∧ er = 60) := ⟨HR0.out, by rw [← HER.out, HR0.out]; rfl⟩
    clear HR0 HER
    go_enter Tryz.func10, Tryz.ntmps10
    go_wp2_with (first
      | (go_at_call 11; refine HO.out.mono ?_; rintro e w1 ⟨v, rfl, ⟨ga, gn, gc, rfl, hgn, hg⟩, hb⟩; have HB := hide hb; have HG := hide hg; have HGN := hide hgn; clear hg hb hgn)
      | (go_at_call 36; refine (unpack_any ga gn gc P raw _ (by rw [HGN.out] at HG ⊢; exact Got.rd HG.out hl) (by rw [HGN.out] at HG ⊢; exact own_le0 HG.out) (Own.room HG.out)).mono ?_; rintro e w2 ⟨v2, rfl, ht2, hb2⟩; rw [HU.out]; obtain ⟨ta, tn, tc, rfl, ht3, ht4, ht5, ht6⟩ := unp_got ht2 HU.out (by rw [HT.out]; omega); rw [HT.out] at ht6; have HC2 := hide (cut_any ta tn tc T w2 ht6 ht3 ht4 ht5 (by have := ht6.1; omega)); have HB2 := hide (below_trans HB.out hb2); clear hb2 ht2 ht3 ht4 ht5 ht6)
      | (go_at_call 37; refine HC2.out.mono ?_; rintro e w3 ⟨v3, rfl, _, hb3⟩; rw [hc]; have HB3 := hide (below_trans HB2.out hb3); clear hb3))
    go_ret2
    obtain ⟨rfl, rfl⟩ := HR.out
    exact ⟨_, rfl, (fun e => nomatch e), (fun _ => rfl), HB3.out⟩
  | true =>
    have HF := hide (cut_facts T hc)
    obtain ⟨RB, hRB⟩ : ∃ RB, rightF (T.take (ctE T)) (ctP T) (ctR T) (ctN T) (ctG T) 0 ⟨#[]⟩ = RB := ⟨_, rfl⟩
    have HR : Hid (RT = RB) := by show _ = _; rw [← HRT0.out]; unfold rightT; rw [hc, hRB]; rfl
    have HRT : Hid (∀ q W, RX W q (T.take (ctE T)) (ctP T) (ctR T) (ctN T) → Calls Tryz.prog 38 #[.pointer (some ⟨q, 0, none⟩)] W fun e w' => e = .returned (.bool RB) ∧ Below W.heap.size W w') := fun q W hW => by
      obtain ⟨f1, f2, f3, f4, f5, f6, f7, f8, f9, f10, f11⟩ := HF.out
      have := right_any q _ _ _ _ (ctG T) W hW f1 f2 f3 (by rw [f5]; omega) (by omega) f6 f7 (by omega)
      rw [hRB] at this; exact this
    clear hRB
    cases RB with
    | false =>
      have HE6 : Hid (er = 60) := by show _ = _; rw [← HER.out, HR.out]; rfl
      clear HER
      go_enter Tryz.func10, Tryz.ntmps10
      go_wp2_with (first
        | (go_at_call 11; refine HO.out.mono ?_; rintro e w1 ⟨v, rfl, ⟨ga, gn, gc, rfl, hgn, hg⟩, hb⟩; have HB := hide hb; have HG := hide hg; have HGN := hide hgn; clear hg hb hgn)
        | (go_at_call 36; refine (unpack_any ga gn gc P raw _ (by rw [HGN.out] at HG ⊢; exact Got.rd HG.out hl) (by rw [HGN.out] at HG ⊢; exact own_le0 HG.out) (Own.room HG.out)).mono ?_; rintro e w2 ⟨v2, rfl, ht2, hb2⟩; rw [HU.out]; obtain ⟨ta, tn, tc, rfl, ht3, ht4, ht5, ht6⟩ := unp_got ht2 HU.out (by rw [HT.out]; omega); rw [HT.out] at ht6; have HC2 := hide (cut_any ta tn tc T w2 ht6 ht3 ht4 ht5 (by have := ht6.1; omega)); have HB2 := hide (below_trans HB.out hb2); clear hb2 ht2 ht3 ht4 ht5 ht6)
        | (go_at_call 37; refine HC2.out.mono ?_; rintro e w3 ⟨v3, rfl, hx3, hb3⟩; rw [hc]; obtain ⟨q, rfl, hq0, hq⟩ := hx3 hc; have HQ := hide hq; have HB3 := hide (below_trans HB2.out hb3); clear hb3 hx3 hq hq0)
        | (go_at_call 38; refine (HRT.out q _ HQ.out).mono ?_; rintro e w4 ⟨rfl, hb4⟩; have HB4 := hide (below_trans HB3.out hb4); clear hb4))
      go_ret2
      obtain rfl := HR.out
      obtain rfl := HE6.out
      exact ⟨_, rfl, (fun e => nomatch e), (fun _ => rfl), HB4.out⟩
    | true =>
      have HE6 : Hid (er = 0) := by show _ = _; rw [← HER.out, HR.out]; rfl
      clear HER
      go_enter Tryz.func10, Tryz.ntmps10
      go_wp2_with (first
        | (go_at_call 11; refine HO.out.mono ?_; rintro e w1 ⟨v, rfl, ⟨ga, gn, gc, rfl, hgn, hg⟩, hb⟩; have HB := hide hb; have HG := hide hg; have HGN := hide hgn; clear hg hb hgn)
        | (go_at_call 36; refine (unpack_any ga gn gc P raw _ (by rw [HGN.out] at HG ⊢; exact Got.rd HG.out hl) (by rw [HGN.out] at HG ⊢; exact own_le0 HG.out) (Own.room HG.out)).mono ?_; rintro e w2 ⟨v2, rfl, ht2, hb2⟩; rw [HU.out]; obtain ⟨ta, tn, tc, rfl, ht3, ht4, ht5, ht6⟩ := unp_got ht2 HU.out (by rw [HT.out]; omega); rw [HT.out] at ht6; have HC2 := hide (cut_any ta tn tc T w2 ht6 ht3 ht4 ht5 (by have := ht6.1; omega)); have HB2 := hide (below_trans HB.out hb2); clear hb2 ht2 ht3 ht4 ht5 ht6)
        | (go_at_call 37; refine HC2.out.mono ?_; rintro e w3 ⟨v3, rfl, hx3, hb3⟩; rw [hc]; obtain ⟨q, rfl, hq0, hq⟩ := hx3 hc; have HQ := hide hq; have HQ0 := hide (Nat.le_trans HB2.out.size hq0); have HB3 := hide (below_trans HB2.out hb3); clear hb3 hx3 hq hq0)
        | (go_at_call 38; refine (HRT.out q _ HQ.out).mono ?_; rintro e w4 ⟨rfl, hb4⟩; have HB4 := hide (below_trans HB3.out hb4); have HQ4 := hide (HQ.out.below hb4); clear hb4))
      go_ret2
      obtain rfl := HR.out
      obtain rfl := HE6.out
      exact ⟨_, rfl, (fun _ => ⟨q, rfl, HQ0.out, HQ4.out⟩), (fun e => nomatch e), HB4.out⟩
end Go.Proofs.YthdblnfohbldcaaGreat.Bl
