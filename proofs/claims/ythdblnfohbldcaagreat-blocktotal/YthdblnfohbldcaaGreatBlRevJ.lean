/-
  Open of a tile whose payload tells raw bytes.
-/
import Derived.Test.YthdblnfohbldcaaGreatBlRightJ
import Derived.Test.YthdblnfohbldcaaGreatBlSlRJ
namespace Go.Proofs.YthdblnfohbldcaaGreat.Bl
open Go.ChangeShapes Go.WideShapes Go.ChangeAt Go.RowKit
open Go.Proofs.YthdblnfohbldcaaGreat.Base Go.Proofs.YthdblnfohbldcaaGreat.Nums Go.Proofs.YthdblnfohbldcaaGreat.Curs Go.Proofs.YthdblnfohbldcaaGreat.Crc
open Go.Proofs.YthdblnfohbldcaaGreat.Fa (St Cst fixS)
set_option linter.unusedVariables false
/-- Whether raw bytes are those of entries. -/
def rightT (T : List (BitVec 8)) : Bool := cutOk T && rightF (T.take (ctE T)) (ctP T) (ctR T) (ctN T) (ctG T) 0 ⟨#[]⟩
theorem cut_facts (T : List (BitVec 8)) (h : cutOk T = true) :
    PsOk (T.take (ctE T)) (ctP T) ∧ (ctP T).length = ctG T + 1 ∧ (∀ g, g < ctG T → g * ctR T < ctN T) ∧ ctN T ≤ ctG T * ctR T ∧ (T.take (ctE T)).length = ctE T ∧ 1 ≤ ctR T ∧ ctR T ≤ 64 ∧ 1 ≤ ctN T ∧ ctN T ≤ T.length ∧ 4 * ctG T + 8 ≤ T.length ∧ ctE T + 4 * ctG T + 8 = T.length := by
  unfold cutOk at h
  rw [Bool.and_eq_true] at h
  obtain ⟨hB, hC⟩ := h
  unfold cutB at hB
  rw [Bool.and_eq_true] at hB
  obtain ⟨hA, hB⟩ := hB
  have hB := of_decide_eq_true hB
  unfold cutA at hA
  obtain ⟨_, h1, h2, h3, h4⟩ := of_decide_eq_true hA
  unfold cutC at hC
  rw [Bool.and_eq_true, beq_iff_eq] at hC
  obtain ⟨hC0, hCU⟩ := hC
  have hE : ctE T + 4 * ctG T + 8 = T.length := by unfold ctE; omega
  have hpl : (ctP T).length = ctG T + 1 := by unfold ctP; rw [List.length_append, tabS_len]; rfl
  have hlast : (ctP T).getD (ctG T) 0 = (ctE T : Int) := by
    unfold ctP
    rw [List.getD_eq_getElem?_getD, List.getElem?_append_right (by rw [tabS_len]; exact Nat.le_refl _), tabS_len, Nat.sub_self]
    rfl
  have hup := upI_get (ctP T) hCU
  have hmono : ∀ d g, g + d < (ctP T).length → (ctP T).getD g 0 ≤ (ctP T).getD (g + d) 0 := by
    intro d
    induction d with
    | zero => intro g _; exact Int.le_refl _
    | succ d ih => intro g hg; exact Int.le_trans (ih g (by omega)) (hup (g + d) (by omega))
  have hlen : (T.take (ctE T)).length = ctE T := by rw [List.length_take]; omega
  refine ⟨?_, hpl, ?_, ?_, hlen, h1, h2, h3, h4, hB, hE⟩
  · intro g hg
    have a1 := hmono g 0 (by omega)
    rw [Nat.zero_add, hC0] at a1
    have a2 := hup g hg
    have a3 := hmono (ctG T - (g + 1)) (g + 1) (by omega)
    rw [Nat.add_sub_cancel' (by omega), hlast] at a3
    exact ⟨a1, a2, by rw [hlen]; exact a3⟩
  · intro g hg
    unfold ctG at hg
    have := (Nat.le_div_iff_mul_le (k := ctR T) (by omega)).1 (Nat.le_of_lt_succ hg)
    omega
  · unfold ctG
    have a1 := Nat.div_add_mod (ctN T - 1) (ctR T)
    have a2 := Nat.mod_lt (ctN T - 1) (y := ctR T) (by omega)
    rw [Nat.add_mul, Nat.mul_comm ((ctN T - 1) / ctR T)]
    omega
/-- What unpack told, as a slice that reads. -/
theorem unp_got {w0 w1 : World} {v : Value} {ok : Bool} {T : List (BitVec 8)} (h : ok = true → (∃ ta tn tc, v = .slice ta tn tc ∧ tn ≤ tc ∧ tc ≤ 9223372036854775807 ∧ (ta = none → tc = 0) ∧ Rd w1 ta tn T) ∨ Own w1 w0.heap.size v T) (hok : ok = true) (hl : T.length ≤ 140737488355328) :
    ∃ ta tn tc, v = .slice ta tn tc ∧ tn ≤ tc ∧ tc ≤ 9223372036854775807 ∧ (ta = none → tc = 0) ∧ Rd w1 ta tn T := by
  rcases h hok with h1 | h1
  · exact h1
  · obtain ⟨a, c, rfl⟩ := h1.shape
    exact ⟨a, _, c, rfl, own_le0 h1, Own.room h1, (fun e => (Got.nil h1 e).2), Got.rd h1 hl⟩
set_option maxHeartbeats 4000000 in
set_option maxRecDepth 100000 in
theorem open_text (a : Option Addr) (n cap : Nat) (bs T : List (BitVec 8)) (raw : Int) (w : World) (hr : Rd w a n bs) (hcap : n ≤ cap) (hm : cap ≤ 9223372036854775807) (h1 : 1 ≤ raw) (h2 : raw ≤ 65536) (he : openErr bs = 0) (hl : (openBody bs).length ≤ 140737488355328) (hu : unpOk (openBody bs) raw = true) (hT : unpT (openBody bs) raw = T) (hTl : T.length ≤ 65536) :
    Calls Tryz.prog 10 #[.slice a n cap, .int .i64 raw] w fun e w' => ∃ v, e = .returned (.tuple #[v, .int .i64 (if rightT T = true then 0 else 60)]) ∧ (rightT T = true → ∃ q, v = .pointer (some ⟨q, 0, none⟩) ∧ w.heap.size ≤ q ∧ RX w' q (T.take (ctE T)) (ctP T) (ctR T) (ctN T)) ∧ (rightT T = false → v = .pointer none) ∧ Below w.heap.size w w' := by
  have HO := hide (Crc.open_any a n cap bs w hr hcap hm)
  rw [he] at HO
  have h1n : ¬ raw < 1 := by omega
  have h2n : ¬ 65536 < raw := by omega
  obtain ⟨P, hP⟩ : ∃ P, openBody bs = P := ⟨_, rfl⟩
  rw [hP] at HO hl hu hT
  have HU := hide hu
  have HT := hide hT
  clear hP hr hu hT
  obtain ⟨RT, hRT⟩ : ∃ b, rightT T = b := ⟨_, rfl⟩
  rw [hRT]
  obtain ⟨er, her⟩ : ∃ er : Int, (if RT = true then 0 else 60) = er := ⟨_, rfl⟩
  rw [her]
  have HRT0 := hide hRT
  have HER := hide her
  clear hRT her
  cases hc : cutOk T with
  | false =>
    have HR0 : Hid (RT = false) := by show _ = _; rw [← HRT0.out]; unfold rightT; rw [hc]; rfl
    have HR : Hid (RT = false ∧ er = 60) := ⟨HR0.out, by rw [← HER.out, HR0.out]; rfl⟩
    clear HR0 HER
    go_enter Tryz.func10, Tryz.ntmps10
    go_wp2_with (first
      | (go_at_call 11; refine HO.out.mono ?_; rintro e w1 ⟨v, rfl, ⟨ga, gn, gc, rfl, hgn, hg⟩, hb⟩; have HB := hide hb; have HG := hide hg; have HGN := hide hgn; clear hg hb hgn)
      | (go_at_call 36; refine (unpack_any ga gn gc P raw _ (by rw [HGN.out] at HG ⊢; exact Got.rd HG.out hl) (by rw [HGN.out] at HG ⊢; exact own_le0 HG.out) (Own.room HG.out)).mono ?_; rintro e w2 ⟨v2, rfl, ht2, hb2⟩; rw [HU.out]; obtain ⟨ta, tn, tc, rfl, ht3, ht4, ht5, ht6⟩ := unp_got ht2 HU.out (by rw [HT.out]; omega); rw [HT.out] at ht6; have HC2 := hide (cut_any ta tn tc T w2 ht6 ht3 ht4 ht5 (by have := ht6.1; omega)); have HB2 := hide (below_trans HB.out hb2); clear hb2 ht2 ht3 ht4 ht5 ht6)
      | (go_at_call 37; refine HC2.out.mono ?_; rintro e w3 ⟨v3, rfl, _, hb3⟩; rw [hc]; have HB3 := hide (below_trans HB2.out hb3); clear hb3))
    go_ret2
    obtain ⟨rfl, rfl⟩ := HR.out
    exact ⟨_, rfl, (fun e => nomatch e), (fun _ => rfl), HB3.out⟩
  | true =>
    have HF := hide (cut_facts T hc)
    obtain ⟨RB, hRB⟩ : ∃ RB, rightF (T.take (ctE T)) (ctP T) (ctR T) (ctN T) (ctG T) 0 ⟨#[]⟩ = RB := ⟨_, rfl⟩
    have HR : Hid (RT = RB) := by show _ = _; rw [← HRT0.out]; unfold rightT; rw [hc, hRB]; rfl
    have HRT : Hid (∀ q W, RX W q (T.take (ctE T)) (ctP T) (ctR T) (ctN T) → Calls Tryz.prog 38 #[.pointer (some ⟨q, 0, none⟩)] W fun e w' => e = .returned (.bool RB) ∧ Below W.heap.size W w') := fun q W hW => by
      obtain ⟨f1, f2, f3, f4, f5, f6, f7, f8, f9, f10, f11⟩ := HF.out
      have := right_any q _ _ _ _ (ctG T) W hW f1 f2 f3 (by rw [f5]; omega) (by omega) f6 f7 (by omega)
      rw [hRB] at this; exact this
    clear hRB
    cases RB with
    | false =>
      have HE6 : Hid (er = 60) := by show _ = _; rw [← HER.out, HR.out]; rfl
      clear HER
      go_enter Tryz.func10, Tryz.ntmps10
      go_wp2_with (first
        | (go_at_call 11; refine HO.out.mono ?_; rintro e w1 ⟨v, rfl, ⟨ga, gn, gc, rfl, hgn, hg⟩, hb⟩; have HB := hide hb; have HG := hide hg; have HGN := hide hgn; clear hg hb hgn)
        | (go_at_call 36; refine (unpack_any ga gn gc P raw _ (by rw [HGN.out] at HG ⊢; exact Got.rd HG.out hl) (by rw [HGN.out] at HG ⊢; exact own_le0 HG.out) (Own.room HG.out)).mono ?_; rintro e w2 ⟨v2, rfl, ht2, hb2⟩; rw [HU.out]; obtain ⟨ta, tn, tc, rfl, ht3, ht4, ht5, ht6⟩ := unp_got ht2 HU.out (by rw [HT.out]; omega); rw [HT.out] at ht6; have HC2 := hide (cut_any ta tn tc T w2 ht6 ht3 ht4 ht5 (by have := ht6.1; omega)); have HB2 := hide (below_trans HB.out hb2); clear hb2 ht2 ht3 ht4 ht5 ht6)
        | (go_at_call 37; refine HC2.out.mono ?_; rintro e w3 ⟨v3, rfl, hx3, hb3⟩; rw [hc]; obtain ⟨q, rfl, hq0, hq⟩ := hx3 hc; have HQ := hide hq; have HB3 := hide (below_trans HB2.out hb3); clear hb3 hx3 hq hq0)
        | (go_at_call 38; refine (HRT.out q _ HQ.out).mono ?_; rintro e w4 ⟨rfl, hb4⟩; have HB4 := hide (below_trans HB3.out hb4); clear hb4))
      go_ret2
      obtain rfl := HR.out
      obtain rfl := HE6.out
      exact ⟨_, rfl, (fun e => nomatch e), (fun _ => rfl), HB4.out⟩
    | true =>
      have HE6 : Hid (er = 0) := by show _ = _; rw [← HER.out, HR.out]; rfl
      clear HER
      go_enter Tryz.func10, Tryz.ntmps10
      go_wp2_with (first
        | (go_at_call 11; refine HO.out.mono ?_; rintro e w1 ⟨v, rfl, ⟨ga, gn, gc, rfl, hgn, hg⟩, hb⟩; have HB := hide hb; have HG := hide hg; have HGN := hide hgn; clear hg hb hgn)
        | (go_at_call 36; refine (unpack_any ga gn gc P raw _ (by rw [HGN.out] at HG ⊢; exact Got.rd HG.out hl) (by rw [HGN.out] at HG ⊢; exact own_le0 HG.out) (Own.room HG.out)).mono ?_; rintro e w2 ⟨v2, rfl, ht2, hb2⟩; rw [HU.out]; obtain ⟨ta, tn, tc, rfl, ht3, ht4, ht5, ht6⟩ := unp_got ht2 HU.out (by rw [HT.out]; omega); rw [HT.out] at ht6; have HC2 := hide (cut_any ta tn tc T w2 ht6 ht3 ht4 ht5 (by have := ht6.1; omega)); have HB2 := hide (below_trans HB.out hb2); clear hb2 ht2 ht3 ht4 ht5 ht6)
        | (go_at_call 37; refine HC2.out.mono ?_; rintro e w3 ⟨v3, rfl, hx3, hb3⟩; rw [hc]; obtain ⟨q, rfl, hq0, hq⟩ := hx3 hc; have HQ := hide hq; have HQ0 := hide (Nat.le_trans HB2.out.size hq0); have HB3 := hide (below_trans HB2.out hb3); clear hb3 hx3 hq hq0)
        | (go_at_call 38; refine (HRT.out q _ HQ.out).mono ?_; rintro e w4 ⟨rfl, hb4⟩; have HB4 := hide (below_trans HB3.out hb4); have HQ4 := hide (HQ.out.below hb4); clear hb4))
      go_ret2
      obtain rfl := HR.out
      obtain rfl := HE6.out
      exact ⟨_, rfl, (fun _ => ⟨q, rfl, HQ0.out, HQ4.out⟩), (fun e => nomatch e), HB4.out⟩
end Go.Proofs.YthdblnfohbldcaaGreat.Bl
/-
  A reader of the entries L: Len, At.
-/
namespace Go.Proofs.YthdblnfohbldcaaGreat.Bl
open Go.ChangeShapes Go.WideShapes Go.ChangeAt Go.RowKit
open Go.Proofs.YthdblnfohbldcaaGreat.Base Go.Proofs.YthdblnfohbldcaaGreat.Nums Go.Proofs.YthdblnfohbldcaaGreat.Curs Go.Proofs.YthdblnfohbldcaaGreat.Crc
open Go.Proofs.YthdblnfohbldcaaGreat.Fa (St Cst fixS)
set_option linter.unusedVariables false
/-- What is right of a reader's numbers. -/
def RG (E : List (BitVec 8)) (ps : List Int) (r G : Nat) (L : List En) : Prop :=
  PsOk E ps ∧ ps.length = G + 1 ∧ (∀ g, g < G → g * r < L.length) ∧ L.length ≤ G * r ∧ E.length ≤ 65536 ∧ G ≤ 65536 ∧ 1 ≤ r ∧ r ≤ 64 ∧ L.length ≤ 65536 ∧ (∀ g, g < G → entsW (gszN r L.length g) ⟨#[]⟩ (some (grpL E ps g)) = ((L.drop (g * r)).take (gszN r L.length g), some [])) ∧ rises ⟨#[]⟩ L = true ∧ Small L
/-- A reader of the entries L stands at q. -/
def RL (w : World) (q : Nat) (L : List En) : Prop := ∃ E ps r G, RX w q E ps r L.length ∧ RG E ps r G L
theorem RL.below {w w' : World} {q : Nat} {L : List En} (h : RL w q L) (hb : Below w.heap.size w w') : RL w' q L := by
  obtain ⟨E, ps, r, G, h1, h2⟩ := h
  exact ⟨E, ps, r, G, h1.below hb, h2⟩
theorem RL.lt {w : World} {q : Nat} {L : List En} (h : RL w q L) : q < w.heap.size := by
  obtain ⟨E, ps, r, G, h1, h2⟩ := h
  exact h1.lt
theorem len_rl (q : Nat) (L : List En) (w : World) (h : RL w q L) : Calls Tryz.prog 17 #[.pointer (some ⟨q, 0, none⟩)] w fun e w' => e = .returned (.int .i64 (L.length : Nat)) ∧ w' = w := by
  obtain ⟨E, ps, r, G, ⟨ea, ec, pa, pc, h1, _⟩, h2⟩ := h
  exact rlen_any q _ _ _ _ w h1
/-- The entry i, read in its group. -/
theorem ent_at {E : List (BitVec 8)} {ps : List Int} {r G : Nat} {L : List En} (h : RG E ps r G L) (i : Nat) (hi : i < L.length) :
    i / r < G ∧ (nextW (leftW (i % r) ⟨#[]⟩ (some (grpL E ps (i / r)))).1 (leftW (i % r) ⟨#[]⟩ (some (grpL E ps (i / r)))).2).1 = L.getD i dE := by
  obtain ⟨h1, h2, h3, h4, h5, h6, h7, h8, h9, h10, h11, h12⟩ := h
  have hd := Nat.div_add_mod i r
  have hm := Nat.mod_lt i (y := r) (by omega)
  have hg : i / r < G := by
    refine Nat.lt_of_not_le (fun hc => ?_)
    have : G * r ≤ i / r * r := Nat.mul_le_mul_right r hc
    rw [Nat.mul_comm (i / r)] at this
    omega
  have hj : i % r < gszN r L.length (i / r) := by unfold gszN; rw [Nat.mul_comm (i / r)]; omega
  refine ⟨hg, ?_⟩
  have e1 := ents_get (gszN r L.length (i / r)) (i % r) ⟨#[]⟩ (some (grpL E ps (i / r))) hj
  rw [h10 _ hg] at e1
  simp only at e1
  rw [List.getElem?_take_of_lt hj, List.getElem?_drop] at e1
  rw [List.getD_eq_getElem?_getD, show i = i / r * r + i % r by rw [Nat.mul_comm]; omega]
  rw [show (i / r * r + i % r) / r = i / r by rw [← show i = i / r * r + i % r by rw [Nat.mul_comm]; omega], show (i / r * r + i % r) % r = i % r by rw [← show i = i / r * r + i % r by rw [Nat.mul_comm]; omega], e1]
  rfl
set_option maxHeartbeats 4000000 in
set_option maxRecDepth 100000 in
theorem at_bad (q : Nat) (L : List En) (i : Int) (w : World) (h : RL w q L) (hi : i < 0 ∨ (L.length : Int) ≤ i) :
    Calls Tryz.prog 20 #[.pointer (some ⟨q, 0, none⟩), .int .i64 i] w fun e w' => e = .returned (.tuple #[.string ⟨#[]⟩, .string ⟨#[]⟩, .int .i64 3]) ∧ w' = w := by
  obtain ⟨E, ps, r, G, ⟨ea, ec, pa, pc, h1, _⟩, h2⟩ := h
  obtain ⟨c0, c1, c2, c3⟩ := h1.cells
  by_cases h0 : i < 0
  · go_enter Tryz.func20, Tryz.ntmps20
    go_wp2_with fail
    go_ret3
    exact ⟨rfl, rfl⟩
  · have h3 : (L.length : Int) ≤ i := by omega
    go_enter Tryz.func20, Tryz.ntmps20
    go_wp2_with fail
    go_ret3
    exact ⟨rfl, rfl⟩
set_option maxHeartbeats 4000000 in
set_option maxRecDepth 100000 in
theorem at_rl (q : Nat) (L : List En) (i : Nat) (w : World) (h : RL w q L) (hi : i < L.length) :
    Calls Tryz.prog 20 #[.pointer (some ⟨q, 0, none⟩), .int .i64 (i : Int)] w fun e w' => e = .returned (.tuple #[.string (L.getD i dE).1, .string (L.getD i dE).2, .int .i64 0]) ∧ Below w.heap.size w w' := by
  obtain ⟨E, ps, r, G, hX, hG⟩ := h
  obtain ⟨hg, hat⟩ := ent_at hG i hi
  obtain ⟨f1, f2, f3, f4, f5, f6, f7, f8, f9, _⟩ := hG
  have hil : i ≤ 65536 := by omega
  obtain ⟨g, hgg⟩ : ∃ g, i / r = g := ⟨_, rfl⟩
  obtain ⟨j, hj⟩ : ∃ j, i % r = j := ⟨_, rfl⟩
  rw [hgg] at hg hat
  rw [hj] at hat
  have hjr : j < r := by rw [← hj]; exact Nat.mod_lt _ (by omega)
  obtain ⟨EN, hEN⟩ : ∃ EN, L.getD i dE = EN := ⟨_, rfl⟩
  rw [hEN] at hat ⊢
  obtain ⟨AK, AV⟩ := EN
  simp only
  have HAT := hide hat
  clear hEN
  have HWL : Hid (∀ W, Below w.heap.size w W → Calls Tryz.prog 57 #[.pointer (some ⟨q, 0, none⟩), .int .i64 (g : Int)] W fun e w' => ∃ k c, e = .returned (.pointer (some ⟨k, 0, none⟩)) ∧ WK w' k c ⟨#[]⟩ ∧ W.heap.size ≤ c ∧ c < k ∧ Cst w' c (some (grpL E ps g)) ∧ Below W.heap.size W w') := fun W hW =>
    walk_any q g E ps r _ W (hX.below hW) f1 (by omega) f5 (by omega)
  obtain ⟨s0, hs0⟩ : ∃ s0 : St, some (grpL E ps g) = s0 := ⟨_, rfl⟩
  rw [hs0] at HWL HAT
  have q1 : (i : Int).tdiv (r : Int) = (g : Int) := by rw [Int.tdiv_eq_ediv_of_nonneg (by omega), ← hgg]; rfl
  have q2 : IntKind.i64.wrap (g : Int) = (g : Int) := by rw [IntKind.wrap_i64]; omega
  have q3 : (i : Int).tmod (r : Int) = (j : Int) := by rw [Int.tmod_eq_emod_of_nonneg (by omega), ← hj]; rfl
  have q4 : IntKind.i64.wrap (j : Int) = (j : Int) := by rw [IntKind.wrap_i64]; omega
  have q5 : ¬ (r : Int) = 0 := by omega
  have q6 : ¬ (L.length : Int) ≤ (i : Int) := by omega
  have HCL : Hid (∀ W, Below w.heap.size w W → W.cell? ⟨q, 2, none⟩ = some (.int .i64 (r : Int))) := fun W hW => by
    obtain ⟨ea, ec, pa, pc, h1, _⟩ := hX.below hW
    exact h1.cells.2.2.1
  obtain ⟨ea, ec, pa, pc, h1, _⟩ := hX
  obtain ⟨c0, c1, c2, c3⟩ := h1.cells
  clear f1 f2 f3 f4 f5 f6 h1 hat hs0 hgg hj c0 c1
  go_enter Tryz.func20, Tryz.ntmps20
  go_wp2_with (go_at_call 57; refine (HWL.out _ (Below.refl _ _)).mono ?_; rintro e w1 ⟨k, c, rfl, hk, hc1, hc2, hc3, hb⟩; have HK := hide hk; have H1 := hide hc1; have H2 := hide hc2; have HC := hide hc3; have HB1 := hide hb; have c2b := HCL.out _ hb; clear hk hc1 hc2 hc3 hb)
  go_loopw [36] (fun s36 wr => ∃ (d : Nat) (key : ByteArray) (s : St), d ≤ j ∧ s36 = .int .i64 (d : Int) ∧ Hid (WK wr k c key) ∧ Hid (Cst wr c s) ∧ Hid (leftW d ⟨#[]⟩ s0 = (key, s)) ∧ Hid (key.size ≤ 1024) ∧ Hid (Below w.heap.size w wr)) (fun s36 _ => j - (intOf s36).toNat)
  case atStart => exact ⟨0, ⟨#[]⟩, s0, Nat.zero_le _, rfl, HK.out, HC.out, rfl, Nat.zero_le _, HB1.out⟩
  case round =>
    rename World => V0
    obtain ⟨d, key, s, hd, rfl, HKd, HCd, HLd, HKS, HBd⟩ := hrel
    have HNX := hide (next_any k c key s V0 HKd.out HCd.out (by have := H2.out; omega) HKS.out)
    obtain ⟨X, hX⟩ : ∃ X, (nextW key s).1.1 = X := ⟨_, rfl⟩
    obtain ⟨Y, hY⟩ : ∃ Y, (nextW key s).1.2 = Y := ⟨_, rfl⟩
    obtain ⟨s', hs'⟩ : ∃ Y, (nextW key s).2 = Y := ⟨_, rfl⟩
    by_cases hlt : d < j
    · have HXS : Hid (X.size ≤ 1024) := by rw [← hX]; exact (next_small key s HKS.out).1
      have HLn : Hid (leftW (d + 1) ⟨#[]⟩ s0 = (X, s')) := by show _ = _; rw [left_snoc, HLd.out]; simp only; rw [hX, hs']
      rw [hX, hY, hs'] at HNX
      clear hX hY hs'
      go_wp2_with (go_at_call 58; refine HNX.out.mono ?_; rintro e w2 ⟨rfl, hk2, hc2, hf2⟩; have HB2 : Hid (Below w.heap.size w w2) := hf2.toBelow HBd.out (fun i e => by have := H1.out; have := H2.out; omega); have HK2 := hide hk2; have HC2 := hide hc2; clear hk2 hc2 hf2)
      go_roundw
      case rel => exact ⟨d + 1, X, s', by omega, by go_num, HK2.out, HC2.out, HLn.out, HXS.out, HB2.out⟩
      case measure => (simp [intOf] <;> omega)
    · obtain rfl : d = j := by omega
      have HXY : Hid (X = AK ∧ Y = AV) := by
        have h := HAT.out
        rw [HLd.out] at h
        simp only at h
        rw [h] at hX hY
        exact ⟨hX.symm, hY.symm⟩
      rw [hX, hY, hs'] at HNX
      clear hX hY hs'
      go_wp2_with (go_at_call 58; refine HNX.out.mono ?_; rintro e w2 ⟨rfl, hk2, hc2, hf2⟩; have HB2 : Hid (Below w.heap.size w w2) := hf2.toBelow HBd.out (fun i e => by have := H1.out; have := H2.out; omega); clear hk2 hc2 hf2)
      go_ret3
      obtain ⟨rfl, rfl⟩ := HXY.out
      exact ⟨rfl, HB2.out⟩
end Go.Proofs.YthdblnfohbldcaaGreat.Bl
/-
  A reader of the entries L: below, Seek.
-/
namespace Go.Proofs.YthdblnfohbldcaaGreat.Bl
open Go.ChangeShapes Go.WideShapes Go.ChangeAt Go.RowKit
open Go.Proofs.YthdblnfohbldcaaGreat.Base Go.Proofs.YthdblnfohbldcaaGreat.Nums Go.Proofs.YthdblnfohbldcaaGreat.Curs Go.Proofs.YthdblnfohbldcaaGreat.Crc
open Go.Proofs.YthdblnfohbldcaaGreat.Fa (St Cst numS fixS)
set_option linter.unusedVariables false
/-- The entry j of the group g. -/
theorem ent_at2 {E : List (BitVec 8)} {ps : List Int} {r G : Nat} {L : List En} (h : RG E ps r G L) (g j : Nat) (hg : g < G) (hj : j < gszN r L.length g) :
    (nextW (leftW j ⟨#[]⟩ (some (grpL E ps g))).1 (leftW j ⟨#[]⟩ (some (grpL E ps g))).2).1 = L.getD (g * r + j) dE := by
  obtain ⟨h1, h2, h3, h4, h5, h6, h7, h8, h9, h10, h11, h12⟩ := h
  have e1 := ents_get (gszN r L.length g) j ⟨#[]⟩ (some (grpL E ps g)) hj
  rw [h10 _ hg] at e1
  simp only at e1
  rw [List.getElem?_take_of_lt hj, List.getElem?_drop] at e1
  rw [List.getD_eq_getElem?_getD, e1]
  rfl
theorem left_add : ∀ (a b : Nat) (k : ByteArray) (s : St), leftW (a + b) k s = leftW b (leftW a k s).1 (leftW a k s).2
  | 0, b, k, s => by rw [Nat.zero_add]; rfl
  | a + 1, b, k, s => by
    rw [show a + 1 + b = (a + b) + 1 by omega]
    exact left_add a b _ _
theorem left_none : ∀ (m : Nat) (k : ByteArray), (leftW m k none).2 = none
  | 0, _ => rfl
  | m + 1, k => by
    show (leftW m (nextW k none).1.1 (nextW k none).2).2 = none
    have h : (nextW k none).2 = none := by
      unfold nextW
      simp only [numS, takS]
      unfold okS
      split <;> rfl
    rw [h]
    exact left_none m _
theorem next_nil (k : ByteArray) : (nextW k (some [])).2 = none := by
  have h : ∀ x : Int, numS (some []) x = (0, none) := fun x => by
    unfold numS
    simp only
    have hg : (Nums.get ([] : List (BitVec 8))).2.2 = 20 := by rfl
    rw [if_neg]
    unfold atMost
    rw [if_pos (by rw [hg]; decide)]
    rw [hg]
    decide
  unfold nextW
  rw [h]
  simp only [numS, takS]
  unfold okS
  split <;> rfl
theorem left_rest (d : Nat) (k : ByteArray) (s : St) (h : (leftW (d + 1) k s).2 = some []) : 0 < restS s := by
  cases s with
  | none => rw [left_none] at h; cases h
  | some L =>
    cases L with
    | nil =>
      have h2 : (leftW d (nextW k (some [])).1.1 (nextW k (some [])).2).2 = some [] := h
      rw [next_nil, left_none] at h2
      cases h2
    | cons x xs => exact Nat.succ_pos _
theorem rises_ge : ∀ (L : List En) (k : ByteArray), rises k L = true → ∀ j, j < L.length → 0 ≤ order (txt (L.getD j dE).1) (txt k)
  | [], _, _, j, hj => by simp at hj
  | e :: l, k, h, j, hj => by
    unfold rises at h
    rw [Bool.and_eq_true] at h
    have h1 := of_decide_eq_true h.1
    cases j with
    | zero => exact h1
    | succ j =>
      have h2 := rises_ge l e.1 h.2 j (by simpa using hj)
      have h3 := (order_trans (txt k) (txt e.1) (txt (l.getD j dE).1)).1 (by rw [order_swap]; omega) (by rw [order_swap]; omega)
      rw [order_swap] at h3
      show 0 ≤ order (txt (l.getD j dE).1) (txt k)
      omega
theorem rises_mono : ∀ (L : List En) (k : ByteArray), rises k L = true → ∀ i j, i ≤ j → j < L.length → order (txt (L.getD i dE).1) (txt (L.getD j dE).1) ≤ 0
  | [], _, _, i, j, _, hj => by simp at hj
  | e :: l, k, h, i, j, hij, hj => by
    unfold rises at h
    rw [Bool.and_eq_true] at h
    cases i with
    | zero =>
      cases j with
      | zero => show order (txt e.1) (txt e.1) ≤ 0; rw [(order_zero _ _).2 rfl]; omega
      | succ j =>
        have h2 := rises_ge l e.1 h.2 j (by simpa using hj)
        rw [order_swap]
        show - order (txt (l.getD j dE).1) (txt e.1) ≤ 0
        omega
    | succ i =>
      cases j with
      | zero => omega
      | succ j => exact rises_mono l e.1 h.2 i j (by omega) (by simpa using hj)
set_option maxHeartbeats 4000000 in
set_option maxRecDepth 100000 in
theorem below_any (q r G : Nat) (E : List (BitVec 8)) (ps : List Int) (L : List En) (k : ByteArray) (w : World) (hX : RX w q E ps r L.length) (hG : RG E ps r G L) (hk : k.size ≤ 140737488355328) :
    Calls Tryz.prog 115 #[.pointer (some ⟨q, 0, none⟩), .string k] w fun e w' => ∃ l : Nat, e = .returned (.int .i64 (l : Int)) ∧ l ≤ G ∧ (∀ g, g < l → order (txt (L.getD (g * r) dE).1) (txt k) < 0) ∧ (∀ g, l ≤ g → g < G → 0 ≤ order (txt (L.getD (g * r) dE).1) (txt k)) ∧ Below w.heap.size w w' := by
  have HG := hide hG
  obtain ⟨f1, f2, f3, f4, f5, f6, f7, f8, f9, f10, f11, f12⟩ := hG
  have HWL : Hid (∀ g W, g < G → Below w.heap.size w W → Calls Tryz.prog 57 #[.pointer (some ⟨q, 0, none⟩), .int .i64 (g : Int)] W fun e w' => ∃ k c, e = .returned (.pointer (some ⟨k, 0, none⟩)) ∧ WK w' k c ⟨#[]⟩ ∧ W.heap.size ≤ c ∧ c < k ∧ Cst w' c (some (grpL E ps g)) ∧ Below W.heap.size W w') := fun g W hg hW =>
    walk_any q g E ps r _ W (hX.below hW) f1 (by omega) f5 (by omega)
  have HGR : Hid (∀ W, Below w.heap.size w W → Calls Tryz.prog 87 #[.pointer (some ⟨q, 0, none⟩)] W fun e w' => e = .returned (.int .i64 (G : Nat)) ∧ w' = W) := fun W hW => by
    obtain ⟨ea, ec, pa, pc, h1, _⟩ := hX.below hW
    rw [f2] at h1
    exact groups_any q _ pa G pc _ _ W h1 (by omega)
  have HMO : Hid (∀ i j, i ≤ j → j < L.length → order (txt (L.getD i dE).1) (txt (L.getD j dE).1) ≤ 0) := rises_mono L _ f11
  have HLT := hide f3
  have HSM := hide f12
  clear hX f1 f2 f3 f4 f5 f10 f11 f12 f9
  go_enter Tryz.func115, Tryz.ntmps115
  go_wp2_with (go_at_call 87; refine (HGR.out _ (Below.refl _ _)).mono ?_; rintro e w ⟨rfl, rfl⟩)
  go_loopw [5, 6] (fun s5 s6 wr => ∃ (lo hi : Nat), lo ≤ hi ∧ hi ≤ G ∧ s5 = .int .i64 (lo : Int) ∧ s6 = .int .i64 (hi : Int) ∧ Hid (∀ g, g < lo → order (txt (L.getD (g * r) dE).1) (txt k) < 0) ∧ Hid (∀ g, hi ≤ g → g < G → 0 ≤ order (txt (L.getD (g * r) dE).1) (txt k)) ∧ Hid (Below w.heap.size w wr)) (fun s5 s6 _ => (intOf s6).toNat - (intOf s5).toNat)
  case atStart => exact ⟨0, G, Nat.zero_le _, Nat.le_refl _, rfl, rfl, (fun g h => absurd h (by omega)), (fun g h1 h2 => absurd h1 (by omega)), Below.refl _ _⟩
  case round =>
    rename World => V0
    obtain ⟨lo, hi, hlh, hhG, rfl, rfl, HA, HBB, HB⟩ := hrel
    by_cases hlt : lo < hi
    · obtain ⟨mi, hmi⟩ : ∃ mi, (lo + hi) / 2 = mi := ⟨_, rfl⟩
      have hm1 : lo ≤ mi := by omega
      have hm2 : mi < hi := by omega
      have q1 : IntKind.i64.wrap ((lo : Int) + (hi : Int)) = ((lo + hi : Nat) : Int) := by rw [IntKind.wrap_i64]; omega
      have q2 : ((lo : Int) + (hi : Int)).tdiv 2 = (mi : Int) := by rw [Int.tdiv_eq_ediv_of_nonneg (by omega)]; omega
      have q2b : ((lo + hi : Nat) : Int).tdiv 2 = (mi : Int) := by rw [Int.tdiv_eq_ediv_of_nonneg (by omega)]; omega
      have q3 : IntKind.i64.wrap (mi : Int) = (mi : Int) := by rw [IntKind.wrap_i64]; omega
      obtain ⟨Y, hY⟩ : ∃ Y, L.getD (mi * r) dE = Y := ⟨_, rfl⟩
      have hYS : Y.1.size ≤ 1024 := by
        have hl := HLT.out mi (by omega)
        rw [← hY, List.getD_eq_getElem?_getD, List.getElem?_eq_getElem hl]
        exact (HSM.out _ (List.getElem_mem _)).1
      have HE0 : Hid ((nextW ⟨#[]⟩ (some (grpL E ps mi))).1 = Y) := by
        show _ = _
        have h := ent_at2 HG.out mi 0 (by omega) (by have := HLT.out mi (by omega); unfold gszN; omega)
        rw [Nat.add_zero, hY] at h
        exact h
      obtain ⟨s0, hs0⟩ : ∃ s0 : St, some (grpL E ps mi) = s0 := ⟨_, rfl⟩
      have HWM := hide (HWL.out mi V0 (by omega) HB.out)
      rw [hs0] at HWM HE0
      obtain ⟨s1, hs1⟩ : ∃ s1, (nextW ⟨#[]⟩ s0).2 = s1 := ⟨_, rfl⟩
      obtain ⟨YK, YV⟩ := Y
      have HNX : Hid (∀ k c W, WK W k c ⟨#[]⟩ → Cst W c s0 → k ≠ c → Calls Tryz.prog 58 #[.pointer (some ⟨k, 0, none⟩)] W fun e w' => e = .returned (.tuple #[.string YK, .string YV]) ∧ KeptF W w' (fun i => i = k ∨ i = c)) := fun k c W h1 h2 h3 => by
        refine (next_any k c ⟨#[]⟩ s0 W h1 h2 h3 (Nat.zero_le _)).mono ?_
        rintro e w' ⟨rfl, _, _, h4⟩
        rw [HE0.out]
        exact ⟨rfl, h4⟩
      have HCP := hide (fun W => compare_any YK k W (by simp only at hYS; omega) (by omega))
      obtain ⟨od, hod⟩ : ∃ od, order (txt YK) (txt k) = od := ⟨_, rfl⟩
      have HOD : Hid (order (txt (L.getD (mi * r) dE).1) (txt k) = od) := by show _ = _; rw [hY]; exact hod
      rw [hod] at HCP
      clear hY hYS hs0 hs1 hod hmi
      by_cases hc : od < 0
      · have HA2 : Hid (∀ g, g < mi + 1 → order (txt (L.getD (g * r) dE).1) (txt k) < 0) := fun g hg => by
          by_cases he : g = mi
          · rw [he, HOD.out]; exact hc
          · have h1 := HMO.out (g * r) (mi * r) (Nat.mul_le_mul_right r (by omega)) (HLT.out mi (by omega))
            exact (order_trans _ _ _).2.2 h1 (by rw [HOD.out]; exact hc)
        go_wp2_with (first
          | (go_at_call 57; refine HWM.out.mono ?_; rintro e w1 ⟨kk, c, rfl, hk1, hc1, hc2, hc3, hb⟩; have HK := hide hk1; have H1 := hide (Nat.le_trans HB.out.size hc1); have H2 := hide hc2; have HC := hide hc3; have HB1 := hide (below_trans HB.out hb); clear hk1 hc1 hc2 hc3 hb)
          | (go_at_call 58; refine (HNX.out kk c _ HK.out HC.out (by have := H2.out; omega)).mono ?_; rintro e w2 ⟨rfl, hf2⟩; have HB2 : Hid (Below w.heap.size w w2) := hf2.toBelow HB1.out (fun i e => by have := H1.out; have := H2.out; omega); clear hf2)
          | (go_at_call 59; refine (HCP.out _).mono ?_; rintro e w3 ⟨rfl, hb3⟩; have HB3 := hide (below_trans HB2.out hb3); clear hb3))
        go_roundw
        case rel => exact ⟨mi + 1, hi, by omega, hhG, by go_num, rfl, HA2.out, HBB.out, HB3.out⟩
        case measure => (simp [intOf] <;> omega)
      · have HA2 : Hid (∀ g, mi ≤ g → g < G → 0 ≤ order (txt (L.getD (g * r) dE).1) (txt k)) := fun g hg hgG => by
          have h1 := HMO.out (mi * r) (g * r) (Nat.mul_le_mul_right r (by omega)) (HLT.out g hgG)
          refine Int.not_lt.1 (fun h2 => hc ?_)
          rw [← HOD.out]
          exact (order_trans _ _ _).2.2 h1 h2
        go_wp2_with (first
          | (go_at_call 57; refine HWM.out.mono ?_; rintro e w1 ⟨kk, c, rfl, hk1, hc1, hc2, hc3, hb⟩; have HK := hide hk1; have H1 := hide (Nat.le_trans HB.out.size hc1); have H2 := hide hc2; have HC := hide hc3; have HB1 := hide (below_trans HB.out hb); clear hk1 hc1 hc2 hc3 hb)
          | (go_at_call 58; refine (HNX.out kk c _ HK.out HC.out (by have := H2.out; omega)).mono ?_; rintro e w2 ⟨rfl, hf2⟩; have HB2 : Hid (Below w.heap.size w w2) := hf2.toBelow HB1.out (fun i e => by have := H1.out; have := H2.out; omega); clear hf2)
          | (go_at_call 59; refine (HCP.out _).mono ?_; rintro e w3 ⟨rfl, hb3⟩; have HB3 := hide (below_trans HB2.out hb3); clear hb3))
        go_roundw
        case rel => exact ⟨lo, mi, hm1, by omega, rfl, rfl, HA.out, HA2.out, HB3.out⟩
        case measure => (simp [intOf] <;> omega)
    · obtain rfl : lo = hi := by omega
      go_wp2_with fail
      go_ret
      exact ⟨lo, rfl, hhG, HA.out, HBB.out, HB.out⟩
/-- Seek: so many entries have a key below k. -/
def SeekP (L : List En) (k : ByteArray) (s : Nat) : Prop := s ≤ L.length ∧ (∀ i, i < s → order (txt (L.getD i dE).1) (txt k) < 0) ∧ (s < L.length → 0 ≤ order (txt (L.getD s dE).1) (txt k))
set_option maxHeartbeats 4000000 in
set_option maxRecDepth 100000 in
theorem seek_rl (q : Nat) (L : List En) (k : ByteArray) (w : World) (h : RL w q L) (hk : k.size ≤ 140737488355328) :
    Calls Tryz.prog 70 #[.pointer (some ⟨q, 0, none⟩), .string k] w fun e w' => ∃ s : Nat, e = .returned (.int .i64 (s : Int)) ∧ SeekP L k s ∧ Below w.heap.size w w' := by
  obtain ⟨E, ps, r, G, hX, hG⟩ := h
  have HG := hide hG
  have HBL := hide (below_any q r G E ps L k w hX hG hk)
  obtain ⟨f1, f2, f3, f4, f5, f6, f7, f8, f9, f10, f11, f12⟩ := hG
  have HWL : Hid (∀ g W, g < G → Below w.heap.size w W → Calls Tryz.prog 57 #[.pointer (some ⟨q, 0, none⟩), .int .i64 (g : Int)] W fun e w' => ∃ k c, e = .returned (.pointer (some ⟨k, 0, none⟩)) ∧ WK w' k c ⟨#[]⟩ ∧ W.heap.size ≤ c ∧ c < k ∧ Cst w' c (some (grpL E ps g)) ∧ Below W.heap.size W w') := fun g W hg hW =>
    walk_any q g E ps r _ W (hX.below hW) f1 (by omega) f5 (by omega)
  have HRC : Hid (∀ W, Below w.heap.size w W → W.cell? ⟨q, 2, none⟩ = some (.int .i64 (r : Int))) := fun W hW => by
    obtain ⟨ea, ec, pa, pc, h1, _⟩ := hX.below hW
    exact h1.cells.2.2.1
  have HMO : Hid (∀ i j, i ≤ j → j < L.length → order (txt (L.getD i dE).1) (txt (L.getD j dE).1) ≤ 0) := rises_mono L _ f11
  have HLT := hide f3
  have HLG := hide f4
  have HSM := hide f12
  have HEN := hide f10
  clear hX f1 f2 f3 f4 f5 f10 f11 f12
  go_enter Tryz.func70, Tryz.ntmps70
  go_wp2_with fail
  go_step3
  go_upto_if 17 with (go_at_call 115; refine HBL.out.mono ?_; rintro e w1 ⟨l, rfl, hlG, ha, hbb, hb⟩; have HA := hide ha; have HBB := hide hbb; have HB1 := hide hb; have r1 := HRC.out _ hb; have hw0 : IntKind.i64.wrap ((l : Int) - 1) = (l : Int) - 1 := (by rw [IntKind.wrap_i64]; omega); clear ha hbb hb)
  by_cases hl0 : l = 0
  · subst hl0
    have HS : Hid (SeekP L k 0) := ⟨Nat.zero_le _, (fun i h => absurd h (by omega)), fun hn => by
      have := HBB.out 0 (Nat.le_refl _) (by have := HLG.out; refine Nat.pos_of_ne_zero (fun e => ?_); rw [e] at this; omega)
      rw [Nat.zero_mul] at this
      exact this⟩
    go_wp2_with fail
    (try rw [Exit.noGoto_ret])
    go_ret
    exact ⟨0, rfl, HS.out, HB1.out⟩
  · obtain ⟨g, rfl⟩ : ∃ g, l = g + 1 := ⟨l - 1, by omega⟩
    have hgi : ((g + 1 : Nat) : Int) - 1 = (g : Int) := by omega
    have hgG : g < G := by omega
    rw [hgi]
    rw [hgi] at hw0
    have hgl := HLT.out g hgG
    obtain ⟨gr, hgr⟩ : ∃ gr, g * r = gr := ⟨_, rfl⟩
    have hgri : (g : Int) * (r : Int) = (gr : Int) := by rw [← hgr]; push_cast; rfl
    rw [hgr] at hgl
    have q1 : IntKind.i64.wrap ((g : Int) * (r : Int)) = (gr : Int) := by rw [hgri, IntKind.wrap_i64]; omega
    have q2 : IntKind.i64.wrap (gr : Int) = (gr : Int) := by rw [IntKind.wrap_i64]; omega
    obtain ⟨m, hm⟩ : ∃ m, gszN r L.length g = m := ⟨_, rfl⟩
    have hmr : m = min r (L.length - gr) := by rw [← hm]; unfold gszN; rw [hgr]
    have HLE : Hid (∀ i, i < gr → order (txt (L.getD i dE).1) (txt k) < 0) := fun i hi => (order_trans _ _ _).2.2 (HMO.out i gr (by omega) hgl) (by have := HA.out g (by omega); rw [hgr] at this; exact this)
    have HEA : Hid (∀ j, j < m → (nextW (leftW j ⟨#[]⟩ (some (grpL E ps g))).1 (leftW j ⟨#[]⟩ (some (grpL E ps g))).2).1 = L.getD (gr + j) dE) := fun j hj => by
      have := ent_at2 HG.out g j hgG (by rw [hm]; exact hj)
      rw [hgr] at this; exact this
    have HEND : Hid ((leftW m ⟨#[]⟩ (some (grpL E ps g))).2 = some []) := by
      show _ = _
      rw [← hm, ← ents_left, HEN.out g hgG]
    have HWM := hide (HWL.out g w1 hgG HB1.out)
    have HNXT : Hid (gr + m < L.length → 0 ≤ order (txt (L.getD (gr + m) dE).1) (txt k)) := fun hlt => by
      have e1 : gr + m = (g + 1) * r := by rw [Nat.add_mul, hgr]; omega
      have e2 : g + 1 < G := by
        refine Nat.lt_of_not_le (fun hc => ?_)
        have h1 := HLG.out
        have h2 : G * r ≤ (g + 1) * r := Nat.mul_le_mul_right r hc
        omega
      rw [e1]
      exact HBB.out (g + 1) (Nat.le_refl _) e2
    obtain ⟨s0, hs0⟩ : ∃ s0 : St, some (grpL E ps g) = s0 := ⟨_, rfl⟩
    rw [hs0] at HWM HEA HEND
    have hgn : gr + m ≤ L.length := by omega
    clear hs0 hgri hgr hm hgi
    go_wp2_with (go_at_call 57; refine HWM.out.mono ?_; rintro e w2 ⟨kk, c, rfl, hk1, hc1, hc2, hc3, hb⟩; have HK := hide hk1; have H1 := hide (Nat.le_trans HB1.out.size hc1); have H2 := hide hc2; have HC := hide hc3; have HB2 := hide (below_trans HB1.out hb); clear hk1 hc1 hc2 hc3 hb)
    go_step3
    go_wp2_with fail
    go_loopw [6] (fun s6 wr => ∃ (j : Nat) (key : ByteArray) (s : St), j ≤ m ∧ s6 = .int .i64 ((gr + j : Nat) : Int) ∧ Hid (WK wr kk c key) ∧ Hid (Cst wr c s) ∧ Hid (leftW j ⟨#[]⟩ s0 = (key, s)) ∧ Hid (key.size ≤ 1024) ∧ Hid (∀ i, i < gr + j → order (txt (L.getD i dE).1) (txt k) < 0) ∧ Hid (Below w.heap.size w wr)) (fun s6 _ => gr + m - (intOf s6).toNat)
    case atStart => exact ⟨0, ⟨#[]⟩, s0, Nat.zero_le _, by first | rfl | go_num, HK.out, HC.out, rfl, Nat.zero_le _, HLE.out, HB2.out⟩
    case round =>
      rename World => V0
      obtain ⟨j, key, s, hj, rfl, HKd, HCd, HLd, HKS, HLT2, HBd⟩ := hrel
      obtain ⟨k0, k1⟩ := HKd.out.cells
      have HRS := hide (rest_st c s V0 HCd.out)
      obtain ⟨rs, hrs⟩ : ∃ rs, restS s = rs := ⟨_, rfl⟩
      rw [hrs] at HRS
      by_cases hlt : j < m
      · have hrp : 0 < rs := by
          rw [← hrs]
          have h := HEND.out
          rw [show m = j + ((m - j - 1) + 1) by omega, left_add, HLd.out] at h
          exact left_rest _ _ _ h
        have hrpi : (0 : Int) < (rs : Int) := by omega
        have HNX := hide (next_any kk c key s V0 HKd.out HCd.out (by have := H2.out; omega) HKS.out)
        obtain ⟨X, hX⟩ : ∃ X, (nextW key s).1.1 = X := ⟨_, rfl⟩
        obtain ⟨Y, hY⟩ : ∃ Y, (nextW key s).1.2 = Y := ⟨_, rfl⟩
        obtain ⟨s', hs'⟩ : ∃ Y, (nextW key s).2 = Y := ⟨_, rfl⟩
        have HXS : Hid (X.size ≤ 1024) := by rw [← hX]; exact (next_small key s HKS.out).1
        have HLn : Hid (leftW (j + 1) ⟨#[]⟩ s0 = (X, s')) := by show _ = _; rw [left_snoc, HLd.out]; simp only; rw [hX, hs']
        have HXE : Hid ((L.getD (gr + j) dE).1 = X) := by
          show _ = _
          have h := HEA.out j hlt
          rw [HLd.out] at h
          simp only at h
          rw [← h, hX]
        rw [hX, hY, hs'] at HNX
        have HCP := hide (fun W => compare_any X k W (by have := HXS.out; omega) (by omega))
        obtain ⟨od, hod⟩ : ∃ od, order (txt X) (txt k) = od := ⟨_, rfl⟩
        have HRNG : Hid (od = -1 ∨ od = 0 ∨ od = 1) := by rw [← hod]; exact order_range _ _
        rw [hod] at HCP
        have HOD := hide hod
        clear hX hY hs' hod hrs
        by_cases hc : od = -1
        · subst hc
          have HL2 : Hid (∀ i, i < gr + (j + 1) → order (txt (L.getD i dE).1) (txt k) < 0) := fun i hi => by
            by_cases he : i = gr + j
            · rw [he, HXE.out, HOD.out]; decide
            · exact HLT2.out i (by omega)
          have q3 : IntKind.i64.wrap ((gr : Int) + (j : Int) + 1) = (gr : Int) + (j : Int) + 1 := by rw [IntKind.wrap_i64]; omega
          go_wp2_with (first
            | (go_at_call 114; refine HRS.out.mono ?_; rintro e V0 ⟨rfl, rfl⟩)
            | (go_at_call 58; refine HNX.out.mono ?_; rintro e w3 ⟨rfl, hk2, hc2, hf2⟩; have HB3 : Hid (Below w.heap.size w w3) := hf2.toBelow HBd.out (fun i e => by have := H1.out; have := H2.out; omega); have HK3 := hide hk2; have HC3 := hide hc2; clear hk2 hc2 hf2)
            | (go_at_call 59; refine (HCP.out _).mono ?_; rintro e w4 ⟨rfl, hb4⟩; have HB4 := hide (below_trans HB3.out hb4); have HK4 := hide (HK3.out.below hb4); have HC4 := hide (HC3.out.below hb4); clear hb4))
          go_roundw
          case rel => exact ⟨j + 1, X, s', by omega, congrArg (Value.int .i64) (by omega), HK4.out, HC4.out, HLn.out, HXS.out, HL2.out, HB4.out⟩
          case measure => (simp [intOf] <;> omega)
        · have hcb : (od == -1) = false := by simpa using hc
          have HS : Hid (SeekP L k (gr + j)) := ⟨by omega, HLT2.out, fun _ => by rw [HXE.out, HOD.out]; have := HRNG.out; omega⟩
          go_wp2_with (first
            | (go_at_call 114; refine HRS.out.mono ?_; rintro e V0 ⟨rfl, rfl⟩)
            | (go_at_call 58; refine HNX.out.mono ?_; rintro e w3 ⟨rfl, hk2, hc2, hf2⟩; have HB3 : Hid (Below w.heap.size w w3) := hf2.toBelow HBd.out (fun i e => by have := H1.out; have := H2.out; omega); clear hk2 hc2 hf2)
            | (go_at_call 59; refine (HCP.out _).mono ?_; rintro e w4 ⟨rfl, hb4⟩; have HB4 := hide (below_trans HB3.out hb4); clear hb4))
          (try rw [Exit.noGoto_ret])
          go_ret
          exact ⟨gr + j, by first | rfl | (refine congrArg Ending.returned (congrArg (Value.int .i64) ?_); omega), HS.out, HB4.out⟩
      · obtain rfl : j = m := by omega
        have hrp : rs = 0 := by
          rw [← hrs]
          have h := HEND.out
          rw [HLd.out] at h
          simp only at h
          rw [h]
          rfl
        subst hrp
        have HS : Hid (SeekP L k (gr + j)) := ⟨by omega, HLT2.out, HNXT.out⟩
        clear hrs
        go_wp2_with (go_at_call 114; refine HRS.out.mono ?_; rintro e V0 ⟨rfl, rfl⟩)
        (try rw [Exit.noGoto_ret])
        go_ret
        exact ⟨gr + j, by first | rfl | (refine congrArg Ending.returned (congrArg (Value.int .i64) ?_); omega), HS.out, HBd.out⟩
end Go.Proofs.YthdblnfohbldcaaGreat.Bl
/-
  What is read is what would be written: entries read off bytes are those bytes; a reader that is right is one of entries.
-/
namespace Go.Proofs.YthdblnfohbldcaaGreat.Bl
open Go.Proofs.YthdblnfohbldcaaGreat.Base Go.Proofs.YthdblnfohbldcaaGreat.Nums Go.Proofs.YthdblnfohbldcaaGreat.Curs
open Go.Proofs.YthdblnfohbldcaaGreat.Fa (St numS fixS)
set_option linter.unusedVariables false
theorem numS_back {X : List (BitVec 8)} {k : Int} {a : Nat} {Y : List (BitVec 8)} (h : numS (some X) k = (a, some Y)) : X = put a ++ Y ∧ (a : Int) ≤ k := by
  unfold numS at h
  simp only at h
  by_cases h0 : (atMost X k).2.2 = 0
  · rw [if_pos h0] at h
    simp only [Prod.mk.injEq, Option.some.injEq] at h
    unfold atMost at h0 h
    by_cases h1 : (Nums.get X).2.2 ≠ 0
    · rw [if_pos h1] at h0; exact absurd h0 h1
    rw [if_neg h1] at h0 h
    by_cases h2 : k < ((Nums.get X).1 : Int)
    · rw [if_pos h2] at h0; exact absurd h0 (by decide)
    rw [if_neg h2] at h
    rcases get_cases X with ⟨u, m, g1, g2, g3, g4, g5, g6⟩ | ⟨g1, _⟩ | ⟨g1, _⟩
    · rw [g1] at h h2
      simp only at h h2
      obtain ⟨rfl, rfl⟩ := h
      exact ⟨by rw [g5, List.take_append_drop], by omega⟩
    · rw [g1] at h1; exact absurd (by decide) h1
    · rw [g1] at h1; exact absurd (by decide) h1
  · rw [if_neg h0] at h
    simp at h
theorem takS_back {s : St} {n : Nat} {d Y : List (BitVec 8)} (h : takS s n = (d, some Y)) : s = some (d ++ Y) ∧ d.length = n := by
  unfold takS at h
  cases s with
  | none => simp at h
  | some L =>
    simp only at h
    split at h
    · next hl =>
      simp only [Prod.mk.injEq, Option.some.injEq] at h
      obtain ⟨rfl, rfl⟩ := h
      exact ⟨by rw [List.take_append_drop], by rw [List.length_take]; omega⟩
    · simp at h
theorem btx_str (d : List (BitVec 8)) : btx (str d) = d := by
  unfold btx str
  simp only [List.map_map]
  conv => rhs; rw [← List.map_id d]
  apply List.map_congr_left
  intro x _
  rfl
theorem next_back (k0 : ByteArray) (X Y : List (BitVec 8)) (hk0 : k0.size ≤ 1024) (h : (nextW k0 (some X)).2 = some Y) :
    X = entL (common (txt k0) (txt (nextW k0 (some X)).1.1)) (nextW k0 (some X)).1.1 (nextW k0 (some X)).1.2 ++ Y := by
  obtain ⟨a, s1, ha⟩ : ∃ a s1, numS (some X) (k0.size : Int) = (a, s1) := ⟨_, _, rfl⟩
  obtain ⟨b, s2, hb⟩ : ∃ b s2, numS s1 ((1024 : Int) - (a : Int)) = (b, s2) := ⟨_, _, rfl⟩
  obtain ⟨c, s3, hc⟩ : ∃ c s3, numS s2 1024 = (c, s3) := ⟨_, _, rfl⟩
  obtain ⟨d, s4, hd⟩ : ∃ d s4, takS s3 b = (d, s4) := ⟨_, _, rfl⟩
  obtain ⟨v, s5, hv⟩ : ∃ v s5, takS s4 c = (v, s5) := ⟨_, _, rfl⟩
  have hn : nextW k0 (some X) = ((k0.extract 0 a ++ str d, str v), okS (common (txt k0) (txt (k0.extract 0 a ++ str d)) == a) s5) := by
    unfold nextW
    simp only [ha, hb, hc, hd, hv]
  rw [hn] at h ⊢
  simp only at h ⊢
  obtain ⟨K, hK⟩ : ∃ K, k0.extract 0 a ++ str d = K := ⟨_, rfl⟩
  rw [hK] at h ⊢
  have hok : common (txt k0) (txt K) = a ∧ s5 = some Y := by
    unfold okS at h
    split at h
    · next hc2 => exact ⟨by simpa using hc2, h⟩
    · cases h
  obtain ⟨hcm, rfl⟩ := hok
  obtain ⟨rfl, hvl⟩ := takS_back hv
  obtain ⟨rfl, hdl⟩ := takS_back hd
  cases s2 with
  | none => simp [numS] at hc
  | some X2 =>
    obtain ⟨rfl, hcl⟩ := numS_back hc
    cases s1 with
    | none => simp [numS] at hb
    | some X1 =>
      obtain ⟨rfl, hbl⟩ := numS_back hb
      obtain ⟨rfl, hal⟩ := numS_back ha
      have hex : (k0.extract 0 a).size = a := by rw [ByteArray.size_extract]; omega
      have hKs : K.size = a + b := by rw [← hK, ByteArray.size_append, hex, str_size, hdl]
      have hKx : K.extract a K.size = str d := by
        apply txt_inj
        rw [txt_extract, ← hK, txt_append]
        have h1 : (txt (k0.extract 0 a)).length = a := by rw [length_txt]; exact hex
        rw [List.drop_left' h1, List.take_of_length_le]
        rw [length_txt, ByteArray.size_append, hex]
        omega
      rw [hcm]
      unfold entL
      rw [hKx, btx_str, btx_str, hKs, Nat.add_sub_cancel_left, str_size, hvl]
      simp only [List.append_assoc]
theorem ents_none (m : Nat) (k : ByteArray) : (entsW m k none).2 = none := by rw [ents_left, left_none]
theorem ents_back : ∀ (m : Nat) (k : ByteArray) (X Y : List (BitVec 8)), k.size ≤ 1024 → (entsW m k (some X)).2 = some Y → X = encG k (entsW m k (some X)).1 ++ Y ∧ Small (entsW m k (some X)).1
  | 0, k, X, Y, _, h => by
    have h2 : some X = some Y := h
    cases h2
    exact ⟨rfl, fun e he => absurd he List.not_mem_nil⟩
  | m + 1, k, X, Y, hk, h => by
    have hs := next_small k (some X) hk
    have h2 : (entsW m (nextW k (some X)).1.1 (nextW k (some X)).2).2 = some Y := h
    have he : (entsW (m + 1) k (some X)).1 = (nextW k (some X)).1 :: (entsW m (nextW k (some X)).1.1 (nextW k (some X)).2).1 := rfl
    rw [he]
    cases hx : (nextW k (some X)).2 with
    | none => rw [hx, ents_none] at h2; cases h2
    | some X1 =>
      have hb := next_back k X X1 hk hx
      rw [hx] at h2
      obtain ⟨i1, i2⟩ := ents_back m _ X1 Y hs.1 h2
      refine ⟨?_, ?_⟩
      · unfold encG
        rw [List.append_assoc, ← i1]
        exact hb
      · intro e he
        rcases List.mem_cons.1 he with rfl | he
        · exact hs
        · exact i2 e he
/-- The entries of the group g; of so many groups from g on. -/
def lgE (E : List (BitVec 8)) (ps : List Int) (r n g : Nat) : List En := (entsW (gszN r n g) ⟨#[]⟩ (some (grpL E ps g))).1
def catG (E : List (BitVec 8)) (ps : List Int) (r n : Nat) : Nat → Nat → List En
  | 0, _ => []
  | f + 1, g => lgE E ps r n g ++ catG E ps r n f (g + 1)
theorem lgE_len (E : List (BitVec 8)) (ps : List Int) (r n g : Nat) : (lgE E ps r n g).length = gszN r n g := ents_len _ _ _
theorem catG_len (E : List (BitVec 8)) (ps : List Int) (r n G : Nat) (hn : n ≤ G * r) : ∀ f g, f + g = G → (catG E ps r n f g).length = n - g * r
  | 0, g, h => by
    obtain rfl : g = G := by omega
    show 0 = _
    omega
  | f + 1, g, h => by
    show (lgE E ps r n g ++ catG E ps r n f (g + 1)).length = _
    rw [List.length_append, lgE_len, catG_len E ps r n G hn f (g + 1) (by omega)]
    unfold gszN
    rw [Nat.add_mul]
    omega
theorem right_ends (E : List (BitVec 8)) (ps : List Int) (r n : Nat) : ∀ f g k, rightF E ps r n f g k = true → (∀ i, i < f → (entsW (gszN r n (g + i)) ⟨#[]⟩ (some (grpL E ps (g + i)))).2 = some []) ∧ rises k (catG E ps r n f g) = true
  | 0, g, k, _ => ⟨fun i h => absurd h (by omega), rfl⟩
  | f + 1, g, k, h => by
    unfold rightF at h
    rw [Bool.and_eq_true, Bool.and_eq_true] at h
    obtain ⟨⟨h1, h2⟩, h3⟩ := h
    obtain ⟨i1, i2⟩ := right_ends E ps r n f (g + 1) _ h3
    refine ⟨?_, ?_⟩
    · intro i hi
      cases i with
      | zero => exact of_decide_eq_true h2
      | succ i =>
        have := i1 i (by omega)
        rw [show g + (i + 1) = g + 1 + i by omega]
        exact this
    · show rises k (lgE E ps r n g ++ catG E ps r n f (g + 1)) = true
      rw [rises_app, Bool.and_eq_true]
      exact ⟨h1, i2⟩
theorem catG_drop (E : List (BitVec 8)) (ps : List Int) (r n G : Nat) (hg : ∀ g, g < G → g * r < n) : ∀ g, g < G → (catG E ps r n G 0).drop (g * r) = catG E ps r n (G - g) g
  | 0, _ => by rw [Nat.zero_mul]; rfl
  | g + 1, h => by
    have ih := catG_drop E ps r n G hg g (by omega)
    rw [Nat.add_mul, Nat.one_mul, ← List.drop_drop, ih, show G - g = (G - (g + 1)) + 1 by omega]
    show (lgE E ps r n g ++ catG E ps r n (G - (g + 1)) (g + 1)).drop r = _
    have h1 := hg (g + 1) h
    rw [Nat.add_mul, Nat.one_mul] at h1
    rw [List.drop_left']
    rw [lgE_len]
    unfold gszN
    omega
theorem catG_take (E : List (BitVec 8)) (ps : List Int) (r n G g : Nat) (hg : ∀ g, g < G → g * r < n) (h : g < G) : ((catG E ps r n G 0).drop (g * r)).take (gszN r n g) = lgE E ps r n g := by
  rw [catG_drop E ps r n G hg g h, show G - g = (G - (g + 1)) + 1 by omega]
  show (lgE E ps r n g ++ catG E ps r n (G - (g + 1)) (g + 1)).take _ = _
  rw [List.take_left' (lgE_len E ps r n g)]
theorem take_more {α : Type} (E : List α) (a b : Nat) (h : a ≤ b) : E.take b = E.take a ++ (E.drop a).take (b - a) := by
  obtain ⟨d, rfl⟩ : ∃ d, b = a + d := ⟨b - a, by omega⟩
  rw [Nat.add_sub_cancel_left, List.take_add]
theorem small_cat (E : List (BitVec 8)) (ps : List Int) (r n : Nat) : ∀ f g, (∀ i, i < f → (entsW (gszN r n (g + i)) ⟨#[]⟩ (some (grpL E ps (g + i)))).2 = some []) → Small (catG E ps r n f g)
  | 0, _, _ => fun e he => absurd he List.not_mem_nil
  | f + 1, g, h => by
    intro e he
    rcases List.mem_append.1 he with h1 | h1
    · exact (ents_back _ ⟨#[]⟩ _ [] (Nat.zero_le _) (h 0 (by omega))).2 e h1
    · exact small_cat E ps r n f (g + 1) (fun i hi => by rw [show g + 1 + i = g + (i + 1) by omega]; exact h (i + 1) (by omega)) e h1
/-- A reader that is right is one of entries, and their bytes are the ones that it holds. -/
theorem right_rg (E : List (BitVec 8)) (ps : List Int) (r n G : Nat) (hp : PsOk E ps) (hpl : ps.length = G + 1) (h0 : ps.getD 0 0 = 0) (hl : ps.getD G 0 = (E.length : Int)) (hg : ∀ g, g < G → g * r < n) (hn : n ≤ G * r) (hE : E.length ≤ 65536) (hG : G ≤ 65536) (hr1 : 1 ≤ r) (hr2 : r ≤ 64) (hn6 : n ≤ 65536) (h : rightF E ps r n G 0 ⟨#[]⟩ = true) :
    ∃ L, L.length = n ∧ RG E ps r G L ∧ esL r L = E := by
  obtain ⟨h1, h2⟩ := right_ends E ps r n G 0 ⟨#[]⟩ h
  have hlen : (catG E ps r n G 0).length = n := by rw [catG_len E ps r n G hn G 0 rfl]; omega
  have h1' : ∀ g, g < G → (entsW (gszN r n g) ⟨#[]⟩ (some (grpL E ps g))).2 = some [] := fun g hgG => by
    have := h1 g hgG
    rw [Nat.zero_add] at this
    exact this
  refine ⟨catG E ps r n G 0, hlen, ⟨hp, hpl, ?_, ?_, hE, hG, hr1, hr2, ?_, ?_, h2, small_cat E ps r n G 0 h1⟩, ?_⟩
  · rw [hlen]; exact hg
  · rw [hlen]; exact hn
  · rw [hlen]; exact hn6
  · intro g hgG
    rw [hlen, catG_take E ps r n G g hg hgG]
    exact Prod.ext rfl (h1' g hgG)
  · have hps : ∀ g, g ≤ G → 0 ≤ ps.getD g 0 := by
      intro g hgG
      cases g with
      | zero => rw [h0]; exact Int.le_refl _
      | succ g =>
        have := hp g (by omega)
        omega
    have key : ∀ g, g ≤ G → encA r (catG E ps r n G 0) (min (g * r) n) = E.take (ps.getD g 0).toNat := by
      intro g
      induction g with
      | zero => intro _; rw [Nat.zero_mul, Nat.zero_min, h0]; rfl
      | succ g ih =>
        intro hgG
        have ih := ih (by omega)
        have hgn := hg g (by omega)
        rw [Nat.min_eq_left (Nat.le_of_lt hgn)] at ih
        have hm : min ((g + 1) * r) n = g * r + gszN r n g := by unfold gszN; rw [Nat.add_mul]; omega
        have hk := encA_grp r (catG E ps r n G 0) g (gszN r n g) (by unfold gszN; omega) (by rw [hlen]; unfold gszN; omega)
        rw [hm, hk, ih, catG_take E ps r n G g hg (by omega)]
        have hb := (ents_back _ ⟨#[]⟩ _ [] (Nat.zero_le _) (h1' g (by omega))).1
        rw [List.append_nil] at hb
        have hp3 := hp g (by omega)
        rw [take_more E (ps.getD g 0).toNat (ps.getD (g + 1) 0).toNat (by omega)]
        congr 1
        exact hb.symm
    have hf := key G (Nat.le_refl _)
    rw [Nat.min_eq_right hn, hl, Int.toNat_natCast, List.take_length] at hf
    unfold esL
    rw [hlen]
    exact hf
end Go.Proofs.YthdblnfohbldcaaGreat.Bl
