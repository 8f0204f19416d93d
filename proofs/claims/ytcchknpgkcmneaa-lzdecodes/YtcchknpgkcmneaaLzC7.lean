/-
  What the program tells of Tokens: a list of tokens in memory of its own.
-/
import Derived.Test.YtcchknpgkcmneaaLzC5
import Derived.Test.YtcchknpgkcmneaaLzC6
import Derived.Laws.IdiomCopy
namespace Go.Proofs.Ytcchknpgkcmneaa.Lz
open Go.ChangeShapes Go.WideShapes Go.ChangeAt Go.RowKit
open Go.Proofs.Ytcchknpgkcmneaa.Base Go.Proofs.Ytcchknpgkcmneaa.Nums
set_option linter.unusedVariables false
/-- 'copy' into a row that the call itself made, from whatever slice. -/
theorem copy_from {w0 w1 : World} {base g n sLen cap : Nat} {a : Option Addr} {zs bs : List (BitVec 8)} (ho : Own w1 base (.slice (some ⟨g, 0, none⟩) n n) zs) (hr : Rd w1 a n bs) (hs : n ≤ sLen) (hb : Below base w0 w1) (hm : n ≤ maxLen) :
    ∃ w2, (∀ ty, (Builtin.copy_ #[22, 22] ty #[.slice (some ⟨g, 0, none⟩) n n, .slice a sLen cap]).run Try.prog w1 = .ok (.int .i64 n) w2) ∧ Hid (Own w2 base (.slice (some ⟨g, 0, none⟩) n n) bs) ∧ Hid (Below base w0 w2) ∧ Hid (w1.grownBy w2 (some g)) := by
  by_cases hn : n = 0
  · subst hn
    have hbs : bs = [] := List.length_eq_zero_iff.1 hr.1
    have hzs : zs = [] := List.length_eq_zero_iff.1 (ho.len).symm
    subst hbs hzs
    refine ⟨w1, fun ty => ?_, ho, hb, World.grownBy.refl _ _⟩
    exact run_copy_none w1 22 22 ty 5 _ a 0 0 sLen cap Try.underlying22 info1 (by simp)
  · obtain ⟨b, off, rfl, _, _⟩ := hr.2.2 (by omega)
    have hn' := ho.len
    have hl := hr.1
    have hg := ho.heap
    have hgb := ho.lt'
    refine ⟨w1.setRow g (vals bs).toArray, fun ty => ?_, ?_, below_setRow hb hgb.1 _, ?_⟩
    · have h := run_copy_row Try.prog w1 22 22 ty 5 g 0 n n ⟨b, off, none⟩ sLen cap (vals zs).toArray 5 (vals bs) Try.underlying22 info1 hg
        (by rw [length_vals, hl]; exact (Nat.min_eq_right hs).symm) (fun j v hv => hr.cells j v hv) (by simp [length_vals]; omega) (vals_one _)
      rw [h]
      have e1 : List.take 0 (vals zs).toArray.toList ++ vals bs ++ List.drop (0 + (vals bs).length) (vals zs).toArray.toList = vals bs := by
        have : List.drop (0 + (vals bs).length) (vals zs).toArray.toList = [] := List.drop_eq_nil_of_le (by simp [length_vals]; omega)
        rw [this]; simp
      rw [e1, length_vals, hl]
      rfl
    · have h := own_heap (base := base) (bs := bs) (setRow_heap w1 g _ (vals bs).toArray _ _ hg) hgb.1 (by omega)
      rw [hl] at h
      exact h
    · exact ⟨rfl, rfl, rfl, by simp [World.setRow], fun k hk hne => setRow_other w1 g k _ (fun e => hne (by rw [e]))⟩
/-- The cells of tokens, each with its Lit as a value. -/
def cellsOf (ps : List (Value × Tok)) : List Value := ps.flatMap fun p => [p.1, .int .i64 p.2.dist, .int .i64 p.2.len]
theorem cellsOf_append (ps qs : List (Value × Tok)) : cellsOf (ps ++ qs) = cellsOf ps ++ cellsOf qs := by simp [cellsOf]
theorem length_cellsOf (ps : List (Value × Tok)) : (cellsOf ps).length = ps.length * 3 := by
  induction ps with
  | nil => rfl
  | cons p r ih => show (([p.1, _, _] : List Value) ++ cellsOf r).length = _; rw [List.length_append, ih]; simp; omega
theorem cellsOf_get (ps : List (Value × Tok)) : ∀ i (h : i < ps.length), (cellsOf ps)[i * 3]? = some (ps[i]).1 ∧ (cellsOf ps)[i * 3 + 1]? = some (.int .i64 (ps[i]).2.dist) ∧ (cellsOf ps)[i * 3 + 2]? = some (.int .i64 (ps[i]).2.len) := by
  induction ps with
  | nil => intro i h; simp at h
  | cons p r ih =>
    intro i h
    have e : cellsOf (p :: r) = p.1 :: .int .i64 p.2.dist :: .int .i64 p.2.len :: cellsOf r := rfl
    cases i with
    | zero => rw [e]; exact ⟨rfl, rfl, rfl⟩
    | succ i =>
      obtain ⟨h1, h2, h3⟩ := ih i (by simpa using h)
      rw [e, show (i + 1) * 3 = i * 3 + 1 + 1 + 1 by omega, show i * 3 + 1 + 1 + 1 + 1 = (i * 3 + 1) + 1 + 1 + 1 by omega, show i * 3 + 1 + 1 + 1 + 2 = (i * 3 + 2) + 1 + 1 + 1 by omega]
      simp only [List.getElem?_cons_succ, List.getElem_cons_succ]
      exact ⟨h1, h2, h3⟩
/-- The slice v leads to tokens of the call's own, their Lits too, no two in one block. -/
structure OwnToks (w : World) (base : Nat) (v : Value) (ps : List (Value × Tok)) : Prop where
  row : w.ownsRow base 61 3 v ps.length (cellsOf ps)
  lits : ∀ p, p ∈ ps → Own w base p.1 p.2.lit
  full : ∀ p, p ∈ ps → ∃ g, p.1 = .slice (some ⟨g, 0, none⟩) p.2.lit.length p.2.lit.length
  apart : ps.Pairwise fun p q => ∀ i, p.1.ownBlock = some i → q.1.ownBlock ≠ some i
theorem toks_none (w : World) (base : Nat) : OwnToks w base (.slice none 0 0) [] := ⟨World.ownsRow_nil _ _ _ _, fun p h => by simp at h, fun p h => by simp at h, List.Pairwise.nil⟩
theorem row_lit {w : World} {base base' n : Nat} {v u : Value} {xs : List Value} {bs : List (BitVec 8)} (hr : w.ownsRow base 61 3 v n xs) (ho : Own w base' u bs) : ∀ i, v.ownBlock = some i → u.ownBlock ≠ some i := by
  intro i h1 h2
  rcases hr.2 with ⟨e1, _⟩ | ⟨g, cap, cur, e1, _, e2, _⟩
  · rw [e1] at h1; cases h1
  · rcases ho.2 with ⟨e3, _⟩ | ⟨g', cap', cur', e3, _, e4, _⟩
    · rw [e3] at h2; cases h2
    · rw [e1] at h1
      rw [e3] at h2
      have a1 : g = i := Option.some.inj h1
      have a2 : g' = i := Option.some.inj h2
      subst a1
      subst a2
      rw [e2] at e4
      have h4 := congrArg (fun o => match o with | some (Obj.cells _ t _) => t | _ => 0) e4
      revert h4
      simp
theorem OwnToks.below {w w' : World} {base : Nat} {v : Value} {ps : List (Value × Tok)} (h : OwnToks w base v ps) (hb : Below w.heap.size w w') : OwnToks w' base v ps := by
  refine ⟨World.ownsRow.kept (row := none) h.row (below_grown hb) ?_, fun p hp => (h.lits p hp).below hb, h.full, h.apart⟩
  cases v.ownBlock with
  | none => exact .inl rfl
  | some i => exact .inr (by simp)
theorem OwnToks.keep {w w' : World} {base : Nat} {v : Value} {ps : List (Value × Tok)} {r : Option Nat} (h : OwnToks w base v ps) (hg : w.grownBy w' r) (h1 : ∀ i, r = some i → i < base) : OwnToks w' base v ps := by
  refine ⟨World.ownsRow.kept (row := r) h.row hg ?_, fun p hp => Base.keep (h.lits p hp) hg (fun i j e1 e2 e => ?_), h.full, h.apart⟩
  · cases hv : v.ownBlock with
    | none => exact .inl rfl
    | some i => exact .inr (fun e => by have := (World.ownsRow.lt h.row i hv).1; have := h1 i e.symm; omega)
  · have := (blk (h.lits p hp) i e1).1
    have := h1 j e2
    omega
/-- Such a list reads as its tokens. -/
theorem OwnToks.trd {w : World} {base n c : Nat} {a : Option Addr} {ps : List (Value × Tok)} (h : OwnToks w base (.slice a n c) ps) (hl : ∀ p, p ∈ ps → p.2.lit.length ≤ 65536) (hn : ps.length ≤ 65536) : TRd w a n (ps.map (·.2)) := by
  have hlen : n = ps.length := by
    rcases h.row.2 with ⟨e1, e2⟩ | ⟨g, cap, cur, e1, _⟩
    · simp only [Value.slice.injEq] at e1; omega
    · simp only [Value.slice.injEq] at e1; exact e1.2.1
  refine ⟨by simp; omega, by omega, fun hp => ?_⟩
  rcases h.row.2 with ⟨e1, e2⟩ | ⟨g, cap, cur, e1, _⟩
  · omega
  · simp only [Value.slice.injEq] at e1
    obtain ⟨rfl, _, rfl⟩ := e1
    subst hlen
    refine ⟨g, 0, rfl, (World.ownsRow.lt h.row g rfl).2, fun i hi => ?_⟩
    obtain ⟨c0, c1, c2⟩ := cellsOf_get ps i hi
    have hm : ps[i] ∈ ps := List.getElem_mem hi
    have ho := h.lits _ hm
    obtain ⟨lg, hv⟩ := h.full _ hm
    have ht : tokAt (ps.map (·.2)) i = (ps[i]).2 := by
      unfold tokAt
      rw [List.getD_eq_getElem?_getD, List.getElem?_map, List.getElem?_eq_getElem hi]; rfl
    rw [ht]
    have ho' := ho
    rw [hv] at ho' c0
    refine ⟨_, _, _, ?_, ?_, ?_, Got.rd ho' (by have := hl _ hm; omega), Nat.le_refl _, by have := hl _ hm; omega, Got.nil ho'⟩
    · rw [Nat.zero_add, World.ownsRow.cellAt h.row (i * 3) (by omega)]; exact c0
    · rw [Nat.zero_add, World.ownsRow.cellAt h.row (i * 3 + 1) (by omega)]; exact c1
    · rw [Nat.zero_add, World.ownsRow.cellAt h.row (i * 3 + 2) (by omega)]; exact c2
theorem toks_named {w : World} {base : Nat} {v : Value} {ps : List (Value × Tok)} (h : OwnToks w base v ps) : ∃ a n c, v = .slice a n c ∧ Hid (n = ps.length) := by
  rcases h.row.2 with ⟨e1, e2⟩ | ⟨g, cap, cur, e1, _⟩
  · exact ⟨_, _, _, e1, e2.symm⟩
  · exact ⟨_, _, _, e1, rfl⟩
theorem infoT : (Try.prog.info? 61).map (fun i => (i.zero, i.size, i.bytes)) = some (some (.agg #[.slice none 0 0, .int .i64 0, .int .i64 0]), 3, 40) := by kernel_rfl
theorem OwnToks.add {w w' : World} {base m c n' : Nat} {v v' : Value} {ps : List (Value × Tok)} {g : Nat} {t : Tok} (h : OwnToks w base v ps) (hrow : w'.ownsRow base 61 3 v' n' (cellsOf ps ++ [.slice (some ⟨g, 0, none⟩) t.lit.length t.lit.length, .int .i64 t.dist, .int .i64 t.len])) (hn : n' = ps.length + 1) (hg : w.grownBy w' v.ownBlock)
    (hl : Own w base (.slice (some ⟨g, 0, none⟩) t.lit.length t.lit.length) t.lit) (hnew : ∀ p, p ∈ ps → p.1.ownBlock ≠ some g) : OwnToks w' base v' (ps ++ [(.slice (some ⟨g, 0, none⟩) t.lit.length t.lit.length, t)]) := by
  have keepL : ∀ {u : Value} {bs : List (BitVec 8)}, Own w base u bs → Own w' base u bs := fun {u bs} ho => Base.keep ho hg (fun i j e1 e2 e => by
    subst e; exact row_lit h.row ho i e2 e1)
  refine ⟨?_, fun p hp => ?_, fun p hp => ?_, ?_⟩
  · rw [List.length_append, cellsOf_append]
    have : ps.length + [((.slice (some ⟨g, 0, none⟩) t.lit.length t.lit.length, t) : Value × Tok)].length = n' := by rw [hn]; rfl
    rw [this]
    exact hrow
  · rcases List.mem_append.1 hp with hp | hp
    · exact keepL (h.lits p hp)
    · simp only [List.mem_singleton] at hp; subst hp; exact keepL hl
  · rcases List.mem_append.1 hp with hp | hp
    · exact h.full p hp
    · simp only [List.mem_singleton] at hp; subst hp; exact ⟨g, rfl⟩
  · rw [List.pairwise_append]
    refine ⟨h.apart, List.pairwise_singleton _ _, fun p hp q hq => ?_⟩
    simp only [List.mem_singleton] at hq
    subst hq
    intro i e1 e2
    have e3 : g = i := Option.some.inj e2
    subst e3
    exact hnew p hp e1
set_option maxHeartbeats 2000000 in
set_option maxRecDepth 100000 in
theorem tokens1_any (p base : Nat) (v : Value) (ps : List (Value × Tok)) (t : Tok) (la : Option Addr) (lc : Nat) (w : World) (hp : Box w p v 51) (ho : OwnToks w base v ps) (hpb : p < base) (hbase : base ≤ w.heap.size)
    (hr : Rd w la t.lit.length t.lit) (hz : la = none → t.lit.length = 0 ∧ lc = 0) (hlc : t.lit.length ≤ lc) (hll : t.lit.length ≤ 65536) (hps : ps.length ≤ 65536) :
    Calls Try.prog 65 #[.agg #[.slice la t.lit.length lc, .int .i64 t.dist, .int .i64 t.len], .pointer (some ⟨p, 0, none⟩)] w fun e w' => e = .returned (.tuple #[]) ∧ ∃ v' u, Box w' p v' 51 ∧ OwnToks w' base v' (ps ++ [(u, t)]) ∧ Kept2 w w' (some p) v.ownBlock := by
  obtain ⟨lit, d, l⟩ := t
  simp only at hr hz hlc hll ⊢
  obtain ⟨n, hn⟩ : ∃ n, lit.length = n := ⟨_, rfl⟩
  rw [hn] at hr hz hlc hll
  obtain ⟨i0, hi, hz0, hz1, hz2⟩ := info_parts info8
  obtain ⟨iT, hiT, hT0, hT1, hT2⟩ := info_parts infoT
  obtain ⟨va, vn, vc, rfl, HVN⟩ := toks_named ho
  have HN := hide hn
  have HR := hide hr
  have HO := hide ho
  have hpne : p ≠ w.heap.size := by have := hp.lt; omega
  have HP := hide hp
  have hplt := hp.lt
  have HBW : Hid (Below w.heap.size w (w.alloc (.cells #[.slice la n lc, .int .i64 d, .int .i64 l] 61))) := (Below.refl _ _).alloc (Nat.le_refl _) _
  have HT0 := hide (TRow.new w (.slice la n lc) d l)
  have HZ : Hid ((w.alloc (.cells #[.slice la n lc, .int .i64 d, .int .i64 l] 61)).heap.size = w.heap.size + 1) := by show _ = _; simp
  rw [hn]
  clear hp ho hr hn
  go_enter Try.func65, Try.ntmps65
  go_wp2_with (first
    | (at_make; refine wpList_make_full _ rfl _ _ 22 rfl (w.heap.size + 1) 5 i0 (.int .u8 0) 1 Try.underlying22 hi hz0 hz1 .i64 .i64 _ _ n rfl rfl (by omega) (by omega) (by rw [hz2]; omega) (by unfold maxLen; omega) (by simp) ?_
       intro w1 hown hgrow
       have HB1 : Hid (Below w.heap.size w w1) := HBW.out.grown hgrow HBW.out.size (by intro k h; cases h)
       have HT1 : Hid (TRow w1 w.heap.size (.slice la n lc) d l) := HT0.out.grown hgrow (by simp)
       have HO1 : Hid (Own w1 (w.heap.size + 1) (.slice (some ⟨w.heap.size + 1, 0, none⟩) n n) (List.replicate n (BitVec.ofNat 8 0))) := by
         show Own _ _ _ _
         unfold Own
         rw [List.length_replicate, ← vals_replicate]
         have h := hown
         rw [HZ.out] at h
         exact h
       have k0 := HT1.out.c0
       obtain ⟨w2, hcopy, HO2, HB2, HG2⟩ := copy_from (sLen := n) (cap := lc) (base := w.heap.size + 1) (w0 := w1) HO1.out (HR.out.below HB1.out) (Nat.le_refl _) (Below.refl _ _) (by unfold maxLen; omega)
       have HT2 : Hid (TRow w2 w.heap.size (.slice la n lc) d l) := HT1.out.grown HG2.out (fun e => by have e2 : w.heap.size + 1 = w.heap.size := Option.some.inj e; omega)
       have HBB2 : Hid (Below w.heap.size w w2) := HB1.out.grown HG2.out HB1.out.size (fun k e => by have e2 : w.heap.size + 1 = k := Option.some.inj e; omega)
       have j0 := HT2.out.c0
       have j1 := HT2.out.c1
       have j2 := HT2.out.c2
       have jf := HT2.out.fr 0
       have HP2 := hide (HP.out.below HBB2.out)
       have c1 := HP2.out.c0
       have HG3 : Hid (w2.grownBy (w2.setCell ⟨w.heap.size, 0, none⟩ (.slice (some ⟨w.heap.size + 1, 0, none⟩) n n)) (some w.heap.size)) := grown_cell (World.grownBy.refl _ _) 0 _
       have HO3 : Hid (Own (w2.setCell ⟨w.heap.size, 0, none⟩ (.slice (some ⟨w.heap.size + 1, 0, none⟩) n n)) base (.slice (some ⟨w.heap.size + 1, 0, none⟩) n n) lit) := (HO2.out.other HG3.out (by omega)).mono (by omega)
       have HOT3 : Hid (OwnToks (w2.setCell ⟨w.heap.size, 0, none⟩ (.slice (some ⟨w.heap.size + 1, 0, none⟩) n n)) base (.slice va vn vc) ps) := by
         have h1 := HO.out.below HBB2.out
         refine ⟨World.ownsRow.kept (row := some w.heap.size) h1.row HG3.out ?_, fun q hq => Base.keep (h1.lits q hq) HG3.out (fun i j e1 e2 e => ?_), h1.full, h1.apart⟩
         · cases hv : (Value.slice va vn vc).ownBlock with
           | none => exact .inl rfl
           | some i => exact .inr (fun e => by have h2 := (World.ownsRow.lt HO.out.row i hv).2; have := Option.some.inj e; omega)
         · have h2 := (blk (HO.out.lits q hq) i e1).2
           have := Option.some.inj e2
           omega
       have HBB3 : Hid (Below w.heap.size w (w2.setCell ⟨w.heap.size, 0, none⟩ (.slice (some ⟨w.heap.size + 1, 0, none⟩) n n))) := grown_below HBB2.out HG3.out (Nat.le_refl _)
       have hsz : w.heap.size + 1 < w2.heap.size := HO2.out.lt'.2
       have HNEWS : Hid (∀ (j : Nat) (u : Value), [Value.slice (some ⟨w.heap.size + 1, 0, none⟩) n n, .int .i64 d, .int .i64 l][j]? = some u → ((w2.setCell ⟨w.heap.size, 0, none⟩ (.slice (some ⟨w.heap.size + 1, 0, none⟩) n n)).alloc (.cells #[.slice (some ⟨w.heap.size + 1, 0, none⟩) n n, .int .i64 d, .int .i64 l] 61)).cell? ((⟨w2.heap.size, 0, none⟩ : Addr).add j) = some u) := by
         have hT := TRow.new (w2.setCell ⟨w.heap.size, 0, none⟩ (.slice (some ⟨w.heap.size + 1, 0, none⟩) n n)) (.slice (some ⟨w.heap.size + 1, 0, none⟩) n n) d l
         rw [show (w2.setCell ⟨w.heap.size, 0, none⟩ (.slice (some ⟨w.heap.size + 1, 0, none⟩) n n)).heap.size = w2.heap.size by simp [World.setCell]] at hT
         intro j u hu
         rcases j with _ | _ | _ | j
         · cases hu; exact hT.c0
         · cases hu; exact hT.c1
         · cases hu; exact hT.c2
         · simp at hu
       clear hown hgrow)
    | (at_builtin; refine wpList_append_own _ rfl _ _ 51 rfl base 61 iT (.agg #[.slice none 0 0, .int .i64 0, .int .i64 0]) 3 40 Try.underlying51 hiT hT0 hT1 hT2 rfl (by omega) (.slice va vn vc) ps.length (cellsOf ps) rfl (HOT3.out.below ((Below.refl _ _).alloc (Nat.le_refl _) _)).row ⟨w2.heap.size, 0, none⟩ 1 1 [.slice (some ⟨w.heap.size + 1, 0, none⟩) n n, .int .i64 d, .int .i64 l] rfl rfl ?_ ?_ (by unfold maxLen; omega) (by omega) (by simp; omega) ?_
       · exact HNEWS.out
       · intro u hu
         simp only [List.mem_cons, List.not_mem_nil, or_false] at hu
         rcases hu with rfl | rfl | rfl <;> rfl
       intro v4 w4 hrow4 hgrow4 _
       obtain ⟨g4, c4, rfl⟩ : ∃ g c, v4 = .slice (some ⟨g, 0, none⟩) (ps.length + 1) c := by
         rcases hrow4.2 with ⟨_, h2⟩ | ⟨g, c, cur, h1, _⟩
         · omega
         · exact ⟨g, c, h1⟩
       have HR4 := hide hrow4
       have HG4 := hide hgrow4
       have HP4 : Hid (Box w4 p (.slice va vn vc) 51) := ((HP.out.below HBB3.out).below ((Below.refl _ _).alloc (Nat.le_refl _) _)).grown hgrow4 (fun e => by have := (World.ownsRow.lt HO.out.row p e).1; omega)
       have q0 := HP4.out.c0
       have qf := HP4.out.fr
       clear hrow4 hgrow4))
  go_end0
  have hw3 := HBB3.out.size
  have hblk : ∀ i, (Value.slice va vn vc).ownBlock = some i → base ≤ i ∧ i < w.heap.size := fun i e => World.ownsRow.lt HO.out.row i e
  have hrow5 : (w4.setCell ⟨p, 0, none⟩ (.slice (some ⟨g4, 0, none⟩) (ps.length + 1) c4)).ownsRow base 61 3 (.slice (some ⟨g4, 0, none⟩) (ps.length + 1) c4) (ps.length + 1) (cellsOf ps ++ [.slice (some ⟨w.heap.size + 1, 0, none⟩) n n, .int .i64 d, .int .i64 l]) :=
    World.ownsRow.kept (row := some p) HR4.out (grown_cell (World.grownBy.refl _ _) 0 _) (.inr (fun e => by have h1 := (World.ownsRow.lt HR4.out g4 rfl).1; have : g4 = p := Option.some.inj e; omega))
  have hadd : OwnToks w4 base (.slice (some ⟨g4, 0, none⟩) (ps.length + 1) c4) (ps ++ [(.slice (some ⟨w.heap.size + 1, 0, none⟩) n n, ⟨lit, d, l⟩)]) := by
    have h3 := HOT3.out.below (w' := (w2.setCell ⟨w.heap.size, 0, none⟩ (.slice (some ⟨w.heap.size + 1, 0, none⟩) n n)).alloc (.cells #[.slice (some ⟨w.heap.size + 1, 0, none⟩) n n, .int .i64 d, .int .i64 l] 61)) ((Below.refl _ _).alloc (Nat.le_refl _) _)
    have h4 := HO3.out.below (w' := (w2.setCell ⟨w.heap.size, 0, none⟩ (.slice (some ⟨w.heap.size + 1, 0, none⟩) n n)).alloc (.cells #[.slice (some ⟨w.heap.size + 1, 0, none⟩) n n, .int .i64 d, .int .i64 l] 61)) ((Below.refl _ _).alloc (Nat.le_refl _) _)
    have hr4 := HR4.out
    have hn := HN.out
    have := OwnToks.add (t := ⟨lit, d, l⟩) (g := w.heap.size + 1) (m := 0) (c := 0) h3 (by simp only [hn]; exact hr4) rfl HG4.out (by simp only [hn]; exact h4) (fun q hq e => by have h5 := (blk (HO.out.lits q hq) _ e).2; omega)
    simp only [hn] at this
    exact this
  refine ⟨rfl, _, _, HP4.out.put, hadd.keep (grown_cell (World.grownBy.refl _ _) 0 _) (fun i e => by cases e; exact hpb), ?_⟩
  have hk : Kept2 w w4 (some p) (Value.slice va vn vc).ownBlock := by
    have h1 : Kept2 w ((w2.setCell ⟨w.heap.size, 0, none⟩ (.slice (some ⟨w.heap.size + 1, 0, none⟩) n n)).alloc (.cells #[.slice (some ⟨w.heap.size + 1, 0, none⟩) n n, .int .i64 d, .int .i64 l] 61)) (some p) (Value.slice va vn vc).ownBlock := by
      have hb := below_trans HBB3.out ((Below.refl _ _).alloc (Nat.le_refl _) (.cells #[.slice (some ⟨w.heap.size + 1, 0, none⟩) n n, .int .i64 d, .int .i64 l] 61))
      exact ⟨hb.os, hb.tape, hb.output, hb.size, fun i hi _ _ => hb.block i hi⟩
    exact h1.grown HG4.out (fun i e => .inr (.inl rfl))
  exact hk.grown (grown_cell (World.grownBy.refl _ _) 0 _) (fun i e => .inl rfl)
end Go.Proofs.Ytcchknpgkcmneaa.Lz
