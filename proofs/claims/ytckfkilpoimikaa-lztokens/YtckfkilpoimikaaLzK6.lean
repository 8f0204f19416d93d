/-
  The statements' helpers: tokens in memory of their own, with marks behind each Lit.
-/
import Derived.Test.YtckfkilpoimikaaLzK2
import Derived.Test.YtckfkilpoimikaaLzR7
import Derived.Deep.RegionHeldLaw
namespace Go.Proofs.Ytckfkilpoimikaa.Lz
open Go.ChangeShapes Go.WideShapes Go.ChangeAt Go.RowKit
open Go.Proofs.Ytckfkilpoimikaa.Base Go.Proofs.Ytckfkilpoimikaa.Nums
set_option linter.unusedVariables false
/-- A Lit of the call's own with marks behind it. -/
def Marked (w : World) (base : Nat) (p : Value × Tok) : Prop := ∃ g c, p.1 = .slice (some ⟨g, 0, none⟩) p.2.lit.length c ∧ Own w base (.slice (some ⟨g, 0, none⟩) (p.2.lit.length + 4) c) (p.2.lit ++ marks)
theorem marked_len (bs : List (BitVec 8)) : (bs ++ marks).length = bs.length + 4 := by rw [List.length_append]; rfl
theorem Marked.keep {w w' : World} {base : Nat} {p : Value × Tok} {r : Option Nat} (h : Marked w base p) (hg : w.grownBy w' r) (hne : ∀ i, p.1.ownBlock = some i → r ≠ some i) : Marked w' base p := by
  obtain ⟨g, c, h1, h2⟩ := h
  exact ⟨g, c, h1, Base.keep h2 hg (fun i j e1 e2 e => hne i (by rw [h1]; exact e1) (by rw [e2, e]))⟩
theorem Marked.own {w : World} {base : Nat} {p : Value × Tok} (h : Marked w base p) : Own w base p.1 p.2.lit := by
  obtain ⟨g, c, h1, h2⟩ := h
  have h3 := h2.cut p.2.lit.length (by omega)
  rw [List.take_append_of_le_length (Nat.le_refl _), List.take_of_length_le (Nat.le_refl _)] at h3
  rw [h1]
  exact h3
/-- Tokens of the call's own, a row and Lits with marks. -/
structure KToks (w : World) (base : Nat) (v : Value) (ps : List (Value × Tok)) : Prop where
  row : w.ownsRow base 32 3 v ps.length (cellsOf ps)
  lits : ∀ p, p ∈ ps → Marked w base p
theorem KToks.r {w : World} {base : Nat} {v : Value} {ps : List (Value × Tok)} (h : KToks w base v ps) : RToks w base v ps := ⟨h.row, fun p hp => (h.lits p hp).own⟩
theorem KToks.below {w w' : World} {base : Nat} {v : Value} {ps : List (Value × Tok)} (h : KToks w base v ps) (hb : Below w.heap.size w w') : KToks w' base v ps :=
  ⟨(h.r.below hb).row, fun p hp => (h.lits p hp).keep (below_grown hb) (fun i _ => by simp)⟩
theorem KToks.add {w w' : World} {base n' : Nat} {v v' u : Value} {ps : List (Value × Tok)} {t : Tok} (h : KToks w base v ps) (hrow : w'.ownsRow base 32 3 v' n' (cellsOf ps ++ [u, .int .i64 t.dist, .int .i64 t.len])) (hn : n' = ps.length + 1) (hg : w.grownBy w' v.ownBlock)
    (hl : Marked w base (u, t)) : KToks w' base v' (ps ++ [(u, t)]) := by
  have hr := h.r.add hrow hn hg hl.own
  refine ⟨hr.row, fun p hp => ?_⟩
  have keepL : ∀ {q : Value × Tok}, Marked w base q → Marked w' base q := fun {q} hq => hq.keep hg (fun i e1 e2 => row_lit h.row hq.own i e2 e1)
  rcases List.mem_append.1 hp with hp | hp
  · exact keepL (h.lits p hp)
  · simp only [List.mem_singleton] at hp; subst hp; exact keepL hl
theorem ktoks_none (w : World) (base : Nat) : KToks w base (.slice none 0 0) [] := ⟨World.ownsRow_nil _ _ _ _, fun p h => by simp at h⟩
theorem tnews (w : World) (v : Value) (d l : Int) : ∀ (j : Nat) (u : Value), [v, .int .i64 d, .int .i64 l][j]? = some u → (w.alloc (.cells #[v, .int .i64 d, .int .i64 l] 32)).cell? ((⟨w.heap.size, 0, none⟩ : Addr).add j) = some u := by
  have hT := TRow.new w v d l
  intro j u hu
  rcases j with _ | _ | _ | j
  · cases hu; exact hT.c0
  · cases hu; exact hT.c1
  · cases hu; exact hT.c2
  · simp at hu
theorem tok_one (a : Option Addr) (n c : Nat) (d l : Int) : ∀ u, u ∈ [Value.slice a n c, .int .i64 d, .int .i64 l] → u.oneCell' = true := by
  intro u hu
  simp only [List.mem_cons, List.not_mem_nil, or_false] at hu
  rcases hu with rfl | rfl | rfl <;> rfl
/-- What is held of a token that is built, ahead of its adding. -/
theorem built {w wr w6 : World} {g6 c6 ln : Nat} {v : Value} {ps : List (Value × Tok)} {lit : List (BitVec 8)} (D M : Int) (hk : KToks wr w.heap.size v ps) (hs0 : w.heap.size ≤ wr.heap.size) (hb6 : Below wr.heap.size wr w6) (hbw : Below w.heap.size w wr) (hln : lit.length = ln)
    (ho6 : Own w6 wr.heap.size (.slice (some ⟨g6, 0, none⟩) (ln + 4) c6) (lit ++ marks)) :
    KToks (w6.alloc (.cells #[.slice (some ⟨g6, 0, none⟩) ln c6, .int .i64 D, .int .i64 M] 32)) w.heap.size v ps ∧ Marked (w6.alloc (.cells #[.slice (some ⟨g6, 0, none⟩) ln c6, .int .i64 D, .int .i64 M] 32)) w.heap.size (.slice (some ⟨g6, 0, none⟩) ln c6, ⟨lit, D, M⟩) ∧
      Below w.heap.size w (w6.alloc (.cells #[.slice (some ⟨g6, 0, none⟩) ln c6, .int .i64 D, .int .i64 M] 32)) := by
  have hb7 := hb6.alloc hb6.size (.cells #[.slice (some ⟨g6, 0, none⟩) ln c6, .int .i64 D, .int .i64 M] 32)
  subst hln
  exact ⟨hk.below hb7, ⟨g6, c6, rfl, (ho6.mono hs0).below ((Below.refl _ _).alloc (Nat.le_refl _) _)⟩, below_trans hbw hb7⟩
set_option maxHeartbeats 1000000 in
set_option maxRecDepth 100000 in
theorem copied_any (a : Option Addr) (n c : Nat) (ts : List Tok) (w : World) (hr : TRd w a n ts) (hn : n ≤ 3518437208780) (hl : ∀ t, t ∈ ts → t.lit.length ≤ 140737488351232) :
    Calls Try.prog 16 #[.slice a n c] w fun e w' => ∃ v, e = .returned v ∧ ∃ ps, KToks w' w.heap.size v ps ∧ ps.map (·.2) = ts ∧ Below w.heap.size w w' := by
  have HR := hide hr
  have HL := hide hl
  have HLN := hide hr.1
  have hni : (n : Int) ≤ 3518437208780 := by omega
  clear hr hl
  go_enter Try.func16, Try.ntmps16
  go_wp2_with fail
  go_loopw [3, 4] (fun v i wr => ∃ (k : Nat) (ps : List (Value × Tok)), k ≤ n ∧ i = .int .i64 (k : Int) ∧ Hid (KToks wr w.heap.size v ps) ∧ Hid (ps.map (·.2) = ts.take k) ∧ Hid (Below w.heap.size w wr)) (fun _ i _ => n - (intOf i).toNat)
  case atStart => exact ⟨0, [], Nat.zero_le _, rfl, ktoks_none _ _, rfl, Below.refl _ _⟩
  case round =>
    obtain ⟨k, ps, hk, rfl, HK, HP, HB⟩ := hrel
    by_cases hlt : k < n
    · obtain ⟨b1, o1, rfl, hb1, hc1⟩ := HR.out.2.2 (by omega)
      obtain ⟨la, ln, lc, q0, q1, q2, p3, p4, p5, p6⟩ := hc1 k hlt
      have p0 := (HB.out.cell (p := ⟨b1, o1 + k * 3, none⟩) hb1).trans q0
      have p1 := (HB.out.cell (p := ⟨b1, o1 + k * 3 + 1, none⟩) hb1).trans q1
      have p2 := (HB.out.cell (p := ⟨b1, o1 + k * 3 + 2, none⟩) hb1).trans q2
      have hki : (k : Int) < (n : Int) := by omega
      obtain ⟨va, vn, vc, rfl, hvn⟩ := HK.out.r.named
      have HPL : Hid (ps.length = k) := by
        have h := congrArg List.length HP.out
        rw [List.length_map, List.length_take] at h
        have := HLN.out
        show _ = _
        omega
      have HLT : Hid ((tokAt ts k).lit.length ≤ 140737488351232) := HL.out _ (by
        unfold tokAt
        rw [List.getD_eq_getElem?_getD, List.getElem?_eq_getElem (by have := HLN.out; omega)]
        exact List.getElem_mem _)
      have HTK : Hid (ts.take (k + 1) = ts.take k ++ [tokAt ts k]) := take_tok ts k (by have := HLN.out; omega)
      have hln := p3.1
      have HRM := hide (fun wx (hx : Below w.heap.size w wx) => roomy_any la ln lc (tokAt ts k).lit wx (p3.below hx) p6 (by have := HLT.out; omega))
      generalize tokAt ts k = T at q1 q2 p1 p2 HLT HTK hln HRM
      obtain ⟨lit, D, M⟩ := T
      simp only at q1 q2 p1 p2 HLT hln HRM
      have HLE := hide hln
      have HQ : Hid (w.cell? ⟨b1, o1 + k * 3, none⟩ = some (.slice la ln lc) ∧ w.cell? ⟨b1, o1 + k * 3 + 1, none⟩ = some (.int .i64 D) ∧ w.cell? ⟨b1, o1 + k * 3 + 2, none⟩ = some (.int .i64 M)) := ⟨q0, q1, q2⟩
      have hs0 : w.heap.size ≤ wr.heap.size := HB.out.size
      have HDR : Hid (Below w.heap.size w wr.drew) := HB.out.drew
      obtain ⟨iT, hiT, hT0, hT1, hT2⟩ := info_parts infoT
      have HKD : Hid (KToks wr.drew w.heap.size (.slice va vn vc) ps) := HK.out.below (Below.refl _ _).drew
      clear hc1 p3 p4 p5 p6 hvn hln q0 q1 q2
      go_wp2_with fail
      go_region_held_law (fun V => V.cell? ⟨b1, o1 + k * 3, none⟩ = some (.slice la ln lc) ∧ V.cell? ⟨b1, o1 + k * 3 + 1, none⟩ = some (.int .i64 D) ∧ V.cell? ⟨b1, o1 + k * 3 + 2, none⟩ = some (.int .i64 M)) (first | go_keep | exact E8.out) (first
        | (go_at_call 22; refine (HRM.out _ HDR.out).mono ?_; rintro e w6 ⟨g6, c6, rfl, hg6, ho6, hb6⟩; obtain ⟨hk7, hm7, hb7⟩ := built D M HKD.out hs0 hb6 HDR.out HLE.out ho6; have HK7 := hide hk7; have HM7 := hide hm7; have HB7 := hide hb7; have hbw6 := below_trans HDR.out hb6; have hs7 : w.heap.size ≤ w6.heap.size := hbw6.size; have a0 := (hbw6.cell (p := ⟨b1, o1 + k * 3, none⟩) hb1).trans HQ.out.1; have a1 := (hbw6.cell (p := ⟨b1, o1 + k * 3 + 1, none⟩) hb1).trans HQ.out.2.1; have a2 := (hbw6.cell (p := ⟨b1, o1 + k * 3 + 2, none⟩) hb1).trans HQ.out.2.2; clear hbw6 hb6 ho6 hg6 hk7 hm7 hb7)
        | (refine step_append_own rfl (.tmp 11) (.tmp 29) 33 rfl w.heap.size 32 iT (.agg #[.slice none 0 0, .int .i64 0, .int .i64 0]) 3 40 Try.underlying33 hiT hT0 hT1 hT2 rfl (by omega) (.slice va vn vc) ps.length (cellsOf ps) (by simp [Act.eval]) HK7.out.row ⟨w6.heap.size, 0, none⟩ 1 1 [.slice (some ⟨g6, 0, none⟩) ln c6, .int .i64 D, .int .i64 M] (by simp [Act.eval]) rfl (tnews w6 _ D M) (tok_one _ _ _ _ _) (by have := HPL.out; unfold maxLen; omega) (by have := HPL.out; omega) (by simp; omega) ?_; intro v8 w8 hown8 hg8 _; have HK8 := hide (HK7.out.add hown8 rfl hg8 HM7.out); have HB8 := hide (HB7.out.grown hg8 HB7.out.size (fun i e => (World.ownsRow.lt HK7.out.row i e).1)); have E8 : Hid (w8.cell? ⟨b1, o1 + k * 3, none⟩ = some (.slice la ln lc) ∧ w8.cell? ⟨b1, o1 + k * 3 + 1, none⟩ = some (.int .i64 D) ∧ w8.cell? ⟨b1, o1 + k * 3 + 2, none⟩ = some (.int .i64 M)) := ⟨(HB8.out.cell (p := ⟨b1, o1 + k * 3, none⟩) hb1).trans HQ.out.1, (HB8.out.cell (p := ⟨b1, o1 + k * 3 + 1, none⟩) hb1).trans HQ.out.2.1, (HB8.out.cell (p := ⟨b1, o1 + k * 3 + 2, none⟩) hb1).trans HQ.out.2.2⟩; clear hown8 hg8))
      all_goals
        have HPN : Hid ((ps ++ [(Value.slice (some ⟨g6, 0, none⟩) ln c6, (⟨lit, D, M⟩ : Tok))]).map (·.2) = ts.take (k + 1)) := by
          show _ = _
          rw [List.map_append, HP.out, HTK.out]
          rfl
        go_wp2_with fail
        go_roundw
        case rel => exact ⟨k + 1, _, by omega, by go_num, HK8, HPN, HB8⟩
        case measure => simp [intOf]; omega
    · go_wp2_with fail
      go_ret
      exact ⟨_, rfl, ps, HK.out, by rw [HP.out, List.take_of_length_le (by have := HLN.out; omega)], HB.out⟩
end Go.Proofs.Ytckfkilpoimikaa.Lz
