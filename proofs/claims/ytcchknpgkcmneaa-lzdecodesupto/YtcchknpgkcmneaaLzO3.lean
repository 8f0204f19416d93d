/-
  Lists of tokens that are written over and added to; answers by name.
-/
import Derived.Test.YtcchknpgkcmneaaLzO2
import Derived.Test.YtcchknpgkcmneaaLzR14
import Derived.Test.YtcchknpgkcmneaaLzK2
import Derived.Test.YtcchknpgkcmneaaLzK3
import Derived.Test.YtcchknpgkcmneaaLzK5
namespace Go.Proofs.Ytcchknpgkcmneaa.Lz
open Go.ChangeShapes Go.WideShapes Go.ChangeAt Go.RowKit
open Go.Proofs.Ytcchknpgkcmneaa.Base Go.Proofs.Ytcchknpgkcmneaa.Nums
set_option linter.unusedVariables false
/-- Tokens whatever they are, of the call's own, born from lo on below hi, or new since w0; nothing else of w0 has turned. -/
structure TIn (w0 w : World) (lo hi : Nat) (v : Value) (n : Nat) : Prop where
  row : ∃ xs, w.ownsRow lo 61 3 v n xs
  loc : ∀ i, v.ownBlock = some i → i < hi ∨ w0.heap.size ≤ i
  out : Out lo hi w0 w
theorem TIn.some' {w0 w : World} {lo hi n c : Nat} {a : Option Addr} (h : TIn w0 w lo hi (.slice a n c) n) (hn : 0 < n) : ∃ g, a = some ⟨g, 0, none⟩ := by
  obtain ⟨xs, h⟩ := h.row
  rcases h.2 with ⟨e, _⟩ | ⟨g, c', cur, e, _⟩
  · simp only [Value.slice.injEq] at e; omega
  · simp only [Value.slice.injEq] at e; exact ⟨g, e.1⟩
theorem TIn.cell {w0 w : World} {lo hi n c g : Nat} (h : TIn w0 w lo hi (.slice (some ⟨g, 0, none⟩) n c) n) (k : Nat) (hk : k < n * 3) : (∃ u, w.cell? ⟨g, k, none⟩ = some u) ∧ w.frozen? ⟨g, k, none⟩ = false := by
  obtain ⟨xs, h⟩ := h.row
  refine ⟨⟨xs[k]'(by rw [h.1]; exact hk), ?_⟩, World.ownsRow.frozenAt h k⟩
  rw [World.ownsRow.cellAt h k hk, List.getElem?_eq_getElem]
theorem TIn.set {w0 w : World} {lo hi n c g : Nat} (h : TIn w0 w lo hi (.slice (some ⟨g, 0, none⟩) n c) n) (k : Nat) (u : Value) : TIn w0 (w.setCell ⟨g, k, none⟩ u) lo hi (.slice (some ⟨g, 0, none⟩) n c) n := by
  obtain ⟨⟨xs, hr⟩, h2, h3⟩ := h
  have hs := World.ownsRow.stored hr k u
  have hlt := World.ownsRow.lt hr g rfl
  exact ⟨⟨_, hs.1⟩, h2, h3.grow hs.2 (fun i e hi => by cases e; have := h2 g rfl; omega)⟩
theorem TIn.alloc {w0 w : World} {lo hi n : Nat} {v : Value} (h : TIn w0 w lo hi v n) (o : Obj) : TIn w0 (w.alloc o) lo hi v n := by
  obtain ⟨⟨xs, hr⟩, h2, h3⟩ := h
  have hb : Below w.heap.size w (w.alloc o) := (Below.refl _ _).alloc (Nat.le_refl _) _
  exact ⟨⟨xs, World.ownsRow.kept (row := none) hr (below_grown hb) (by cases v.ownBlock with | none => exact .inl rfl | some i => exact .inr (by simp))⟩, h2, h3.trans (Out.of_below hb)⟩
/-- append of one token. -/
theorem pushTok {ops : Array Oper} {rest : List Oper} {o : Oper} {a : Act} {Q : Exit → Act → World → Prop} (w0 w : World) (hgd : o.guard = none) (s x : Operand)
    (ho : o.op = .call { callee := .builtin .append, args := #[s, x], argTypes := #[51, 51] })
    (lo hi : Nat) (v : Value) (n : Nat) (hs : a.eval s = v) (H : TIn w0 w lo hi v n) (ad : Addr) (cap : Nat) (us : List Value) (hus : us.length = 3) (hx : a.eval x = .slice (some ad) 1 cap)
    (hc : ∀ (j : Nat) (u : Value), us[j]? = some u → w.cell? (ad.add j) = some u) (hone : ∀ u ∈ us, u.oneCell' = true) (hl : n + 1 ≤ 1099511627776) (hlo : lo ≤ w.heap.size)
    (h : ∀ g' c' w', TIn w0 w' lo hi (.slice (some ⟨g', 0, none⟩) (n + 1) c') (n + 1) → wpList Try.prog ops Q rest (a.put o.dst (.slice (some ⟨g', 0, none⟩) (n + 1) c')) w') : wpList Try.prog ops Q (o :: rest) a w := by
  obtain ⟨⟨xs, hown⟩, hloc, hout⟩ := H
  obtain ⟨i0, hi0, hz0, hz1, hz2⟩ := info_parts infoT
  have hbb : (n + 1) * 40 ≤ 140737488355328 := by omega
  have hxl : xs.length = n * 3 := hown.1
  have hgrow : ∀ (ao : Option Addr) (cp : Nat), v = .slice ao n cp → cp < n + 1 → wpList Try.prog ops Q (o :: rest) a w := by
    intro ao cp hv hcp
    subst hv
    have hnil : ao = none → n = 0 ∧ cp = 0 := by
      intro e
      rcases hown.2 with ⟨e1, e2⟩ | ⟨g, c', cur, e1, _⟩
      · simp only [Value.slice.injEq] at e1; omega
      · simp only [Value.slice.injEq] at e1; rw [e] at e1; simp at e1
    have hcells : ∀ b, ao = some b → ∀ (j : Nat) (u : Value), xs[j]? = some u → w.cell? (b.add j) = some u := by
      intro b e j u hu
      rcases hown.2 with ⟨e1, e2⟩ | ⟨g, c', cur, e1, e2, e3, e4⟩
      · simp only [Value.slice.injEq] at e1; rw [e1.1] at e; cases e
      · simp only [Value.slice.injEq] at e1
        obtain ⟨rfl, _, rfl⟩ := e1
        cases e
        have hj : j < n * 3 := by rw [← hxl]; exact (List.getElem?_eq_some_iff.1 hu).1
        rw [show (⟨g, 0, none⟩ : Addr).add j = ⟨g, j, none⟩ by cases j <;> simp [Addr.add], World.ownsRow.cellAt ⟨hxl, .inr ⟨g, _, cur, rfl, e2, e3, e4⟩⟩ j hj]
        exact hu
    refine wpList_append_grows w hgd s x 51 ho 61 i0 (.agg #[.slice none 0 0, .int .i64 0, .int .i64 0]) 3 40 Try.underlying51 hi0 hz0 hz1 hz2 rfl (by omega) ao n cp xs hs hnil hxl hcells ad 1 cap us hx hus hc hone (by omega) (by unfold maxLen; omega) hbb ?_
    intro v' w' h1 h2
    obtain ⟨g, c', rfl⟩ : ∃ g c, v' = .slice (some ⟨g, 0, none⟩) (n + 1) c := by
      rcases h1.2 with ⟨_, h2⟩ | ⟨g, c, cur, h1, _⟩
      · omega
      · exact ⟨g, c, h1⟩
    have hlt := (World.ownsRow.lt h1 g rfl).1
    have hsz := hout.size
    refine h g c' w' ⟨⟨_, h1.1, ?_⟩, fun i e => by cases e; right; show _ ≤ g; omega, hout.grow h2 (fun i e => by cases e)⟩
    rcases h1.2 with q2 | ⟨g2, cap2, cur, e1, e2, e3⟩
    · exact .inl q2
    · exact .inr ⟨g2, cap2, cur, e1, Nat.le_trans hlo e2, e3⟩
  rcases hown.2 with ⟨hv, hn⟩ | ⟨g, cp, cur, hv, _⟩
  · rw [← hn] at hv
    exact hgrow none n hv (by omega)
  · by_cases hcp : n + 1 ≤ cp
    · subst hv
      refine wpList_append_fits w hgd s x 51 ho lo 61 i0 3 Try.underlying51 hi0 hz1 g n cp xs hs hown ad 1 cap us hx hus hc hone hcp ?_
      intro w' h1 h2
      have hlt := World.ownsRow.lt hown g rfl
      exact h g cp w' ⟨⟨_, h1⟩, hloc, hout.grow h2 (fun i e hi => by cases e; have := hloc g rfl; omega)⟩
    · exact hgrow (some ⟨g, 0, none⟩) cp hv (by omega)
theorem news_tok (w : World) (v : Value) (d l : Int) : ∀ (j : Nat) (u : Value), [v, .int .i64 d, .int .i64 l][j]? = some u → (w.alloc (.cells #[v, .int .i64 d, .int .i64 l] 61)).cell? ((⟨w.heap.size, 0, none⟩ : Addr).add j) = some u := by
  have hT := TRow.new w v d l
  intro j u hu
  rcases j with _ | _ | _ | j
  · cases hu; exact hT.c0
  · cases hu; exact hT.c1
  · cases hu; exact hT.c2
  · simp at hu
theorem one_tok (a : Option Addr) (n c : Nat) (d l : Int) : ∀ u, u ∈ [Value.slice a n c, .int .i64 d, .int .i64 l] → u.oneCell' = true := by
  intro u hu
  simp only [List.mem_cons, List.not_mem_nil, or_false] at hu
  rcases hu with rfl | rfl | rfl <;> rfl
theorem rtoks_out {lo hi base top : Nat} {w w' : World} {v : Value} {ps : List (Value × Tok)} (ho : Out lo hi w w') (h : RToks w base v ps) (h1 : ∀ i, v.ownBlock = some i → i < top) (h2 : ∀ p, p ∈ ps → ∀ i, p.1.ownBlock = some i → i < top) (hd : top ≤ lo ∨ hi ≤ base) : RToks w' base v ps :=
  ⟨row_out ho h.row h1 hd, fun p hp => own_out ho (h.lits p hp) (h2 p hp) hd⟩
theorem otoks_out {lo hi base top : Nat} {w w' : World} {v : Value} {ps : List (Value × Tok)} (ho : Out lo hi w w') (h : OwnToks w base v ps) (h1 : ∀ i, v.ownBlock = some i → i < top) (h2 : ∀ p, p ∈ ps → ∀ i, p.1.ownBlock = some i → i < top) (hd : top ≤ lo ∨ hi ≤ base) : OwnToks w' base v ps :=
  ⟨row_out ho h.row h1 hd, fun p hp => own_out ho (h.lits p hp) (h2 p hp) hd, h.full, h.apart⟩
theorem RToks.top {w : World} {base : Nat} {v : Value} {ps : List (Value × Tok)} (h : RToks w base v ps) : (∀ i, v.ownBlock = some i → i < w.heap.size) ∧ ∀ p, p ∈ ps → ∀ i, p.1.ownBlock = some i → i < w.heap.size :=
  ⟨fun i e => (World.ownsRow.lt h.row i e).2, fun p hp i e => (blk (h.lits p hp) i e).2⟩
theorem OwnToks.top {w : World} {base : Nat} {v : Value} {ps : List (Value × Tok)} (h : OwnToks w base v ps) : (∀ i, v.ownBlock = some i → i < w.heap.size) ∧ ∀ p, p ∈ ps → ∀ i, p.1.ownBlock = some i → i < w.heap.size :=
  ⟨fun i e => (World.ownsRow.lt h.row i e).2, fun p hp i e => (blk (h.lits p hp) i e).2⟩
theorem toked_len (bs : List (BitVec 8)) (n : Int) : (toked bs n).1.length ≤ 65536 ∧ ∀ t, t ∈ (toked bs n).1 → t.lit.length ≤ 65536 := by
  by_cases h : (toked bs n).2 = 0
  · obtain ⟨g1, g2, _⟩ := toked_fine h
    have := good_len _ _ _ g1
    exact ⟨by omega, fun t ht => by have := this.2 t ht; omega⟩
  · have e : (toked bs n).1 = [] := by
      by_cases hn : n < 0 ∨ 65536 < n
      · rw [toked_out bs n hn]
      · unfold toked at h ⊢
        rw [if_neg hn] at h ⊢
        by_cases hr : (read bs 0 n.toNat).2 = 0
        · rw [if_pos hr] at h; exact absurd rfl h
        · rw [if_neg hr]
    rw [e]
    exact ⟨by simp, fun t ht => by cases ht⟩
theorem decoded_len (bs : List (BitVec 8)) (n : Int) : (decoded bs n).1.length ≤ 65536 := by
  by_cases h : (toked bs n).2 = 0
  · obtain ⟨g1, g2, g3⟩ := toked_fine h
    rw [g3, length_expand _ [] _ g1]; exact g2
  · rw [toked_faulty h]; simp
section
variable (a : Option Addr) (len cap : Nat) (bs : List (BitVec 8)) (n : Int) (D : List (BitVec 8)) (DE : Int) (T : List Tok) (TE : Int) (N : Nat) (w : World)
theorem dec_at (hN : D.length = N) (hD : decoded bs n = (D, DE.toNat)) (h0 : 0 ≤ DE) (hr : Rd w a len bs) (hcap : len ≤ cap) (hm : cap ≤ 9223372036854775807) :
    Calls Try.prog 20 #[.slice a len cap, .int .i64 n] w fun e w' => ∃ va vc, e = .returned (.tuple #[.slice va N vc, .int .i64 DE]) ∧ Own w' w.heap.size (.slice va N vc) D ∧ Below w.heap.size w w' :=
  (decode_any a len cap bs n w hr hcap hm).mono fun e w' ⟨v, h1, h2, h3⟩ => by
    rw [hD] at h1 h2
    obtain ⟨va, vn, vc, rfl, hv⟩ := own_named h2
    have hv' : vn = N := by rw [← hN]; exact hv
    subst hv'
    refine ⟨va, vc, ?_, h2, h3⟩
    rw [h1]; simp only; rw [Int.toNat_of_nonneg h0]
theorem rdec_at (hN : D.length = N) (hD : decoded bs n = (D, DE.toNat)) (h0 : 0 ≤ DE) (hr : Rd w a len bs) (hcap : len ≤ cap) (hm : cap ≤ 9223372036854775807) (hz : a = none → len = 0 ∧ cap = 0) :
    Calls Try.prog 26 #[.slice a len cap, .int .i64 n] w fun e w' => ∃ va vc, e = .returned (.tuple #[.slice va N vc, .int .i64 DE]) ∧ Own w' w.heap.size (.slice va N vc) D ∧ Below w.heap.size w w' :=
  (refDecode_any a len cap bs n w hr hcap hm hz).mono fun e w' ⟨v, h1, h2, h3⟩ => by
    rw [hD] at h1 h2
    obtain ⟨va, vn, vc, rfl, hv⟩ := own_named h2
    have hv' : vn = N := by rw [← hN]; exact hv
    subst hv'
    refine ⟨va, vc, ?_, h2, h3⟩
    rw [h1]; simp only; rw [Int.toNat_of_nonneg h0]
theorem tok_at (hN : T.length = N) (hT : toked bs n = (T, TE.toNat)) (h0 : 0 ≤ TE) (hr : Rd w a len bs) (hcap : len ≤ cap) (hm : cap ≤ 9223372036854775807) :
    Calls Try.prog 21 #[.slice a len cap, .int .i64 n] w fun e w' => ∃ va vc ps, e = .returned (.tuple #[.slice va N vc, .int .i64 TE]) ∧ OwnToks w' w.heap.size (.slice va N vc) ps ∧ ps.map (·.2) = T ∧ Below w.heap.size w w' :=
  (tokens_any a len cap bs n w hr hcap hm).mono fun e w' ⟨v, ps, h1, h2, h4, h3⟩ => by
    rw [hT] at h1 h4
    have h4 : ps.map (·.2) = T := h4
    obtain ⟨va, vn, vc, rfl, hv⟩ := toks_named h2
    have hv' : vn = N := by rw [← hN, ← h4, List.length_map]; exact hv
    subst hv'
    refine ⟨va, vc, ps, ?_, h2, h4, h3⟩
    rw [h1]; simp only; rw [Int.toNat_of_nonneg h0]
theorem rtok_at (hN : T.length = N) (hT : toked bs n = (T, TE.toNat)) (h0 : 0 ≤ TE) (hr : Rd w a len bs) (hcap : len ≤ cap) (hm : cap ≤ 9223372036854775807) (hz : a = none → len = 0 ∧ cap = 0) :
    Calls Try.prog 27 #[.slice a len cap, .int .i64 n] w fun e w' => ∃ va vc ps, e = .returned (.tuple #[.slice va N vc, .int .i64 TE]) ∧ RToks w' w.heap.size (.slice va N vc) ps ∧ ps.map (·.2) = T ∧ Below w.heap.size w w' :=
  (refTokens_any a len cap bs n w hr hcap hm hz).mono fun e w' ⟨v, ps, h1, h2, h4, h3⟩ => by
    rw [hT] at h1 h4
    have h4 : ps.map (·.2) = T := h4
    obtain ⟨va, vn, vc, rfl, hv⟩ := h2.named
    have hv' : vn = N := by rw [← hN, ← h4, List.length_map]; exact hv
    subst hv'
    refine ⟨va, vc, ps, ?_, h2, h4, h3⟩
    rw [h1]; simp only; rw [Int.toNat_of_nonneg h0]
end
theorem named_dec (bs : List (BitVec 8)) (n : Int) : ∃ D DE, decoded bs n = (D, DE.toNat) ∧ (0 : Int) ≤ DE ∧ D.length ≤ 65536 := ⟨_, ((decoded bs n).2 : Int), rfl, by omega, decoded_len bs n⟩
theorem named_tok (bs : List (BitVec 8)) (n : Int) : ∃ T TE, toked bs n = (T, TE.toNat) ∧ (0 : Int) ≤ TE ∧ T.length ≤ 65536 ∧ ∀ t, t ∈ T → t.lit.length ≤ 65536 := ⟨_, ((toked bs n).2 : Int), rfl, by omega, (toked_len bs n).1, (toked_len bs n).2⟩
theorem otoks_trd {w : World} {base n c : Nat} {a : Option Addr} {ps : List (Value × Tok)} {T : List Tok} (h : OwnToks w base (.slice a n c) ps) (hp : ps.map (·.2) = T) (h1 : T.length ≤ 65536) (h2 : ∀ t, t ∈ T → t.lit.length ≤ 65536) : TRd w a n T := by
  have := h.trd (fun p hm => h2 p.2 (by rw [← hp]; exact List.mem_map_of_mem hm)) (by rw [← hp, List.length_map] at h1; exact h1)
  rwa [hp] at this
theorem rtoks_trd {w : World} {base n c : Nat} {a : Option Addr} {ps : List (Value × Tok)} {T : List Tok} (h : RToks w base (.slice a n c) ps) (hp : ps.map (·.2) = T) (h1 : T.length ≤ 65536) (h2 : ∀ t, t ∈ T → t.lit.length ≤ 65536) : TRd w a n T := by
  have := h.trd (fun p hm => h2 p.2 (by rw [← hp]; exact List.mem_map_of_mem hm)) (by rw [← hp, List.length_map] at h1; exact h1)
  rwa [hp] at this
end Go.Proofs.Ytcchknpgkcmneaa.Lz
