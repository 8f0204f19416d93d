/-
  A list of tokens in memory; what the program tells of it: how long its text is, its text, its bytes.
-/
import Derived.Test.YtcchknpgkcmneaaLzC2
namespace Go.Proofs.Ytcchknpgkcmneaa.Lz
open Go.ChangeShapes Go.WideShapes Go.ChangeAt Go.RowKit
open Go.Proofs.Ytcchknpgkcmneaa.Base Go.Proofs.Ytcchknpgkcmneaa.Nums
set_option linter.unusedVariables false
def tokAt (ts : List Tok) (i : Nat) : Tok := ts.getD i ⟨[], 0, 0⟩
theorem drop_tok (ts : List Tok) (k : Nat) (h : k < ts.length) : ts.drop k = tokAt ts k :: ts.drop (k + 1) := by
  unfold tokAt
  rw [List.drop_eq_getElem_cons h, List.getD_eq_getElem?_getD, List.getElem?_eq_getElem h]; rfl
theorem take_tok (ts : List Tok) (k : Nat) (h : k < ts.length) : ts.take (k + 1) = ts.take k ++ [tokAt ts k] := by
  unfold tokAt
  rw [List.take_succ_eq_append_getElem h, List.getD_eq_getElem?_getD, List.getElem?_eq_getElem h]; rfl
/-- The token i of a list that lies in block b from off on. -/
def TokIn (w : World) (b off i : Nat) (t : Tok) : Prop := ∃ la ln lc, w.cell? ⟨b, off + i * 3, none⟩ = some (.slice la ln lc) ∧ w.cell? ⟨b, off + i * 3 + 1, none⟩ = some (.int .i64 t.dist) ∧ w.cell? ⟨b, off + i * 3 + 2, none⟩ = some (.int .i64 t.len) ∧
  Rd w la ln t.lit ∧ ln ≤ lc ∧ lc ≤ 9223372036854775807 ∧ (la = none → ln = 0 ∧ lc = 0)
/-- The slice 'a, n' reads as the tokens ts. -/
def TRd (w : World) (a : Option Addr) (n : Nat) (ts : List Tok) : Prop :=
  ts.length = n ∧ n ≤ 140737488355328 ∧ (0 < n → ∃ b off, a = some ⟨b, off, none⟩ ∧ b < w.heap.size ∧ ∀ i, i < n → TokIn w b off i (tokAt ts i))
theorem TokIn.below {w w' : World} {b off i : Nat} {t : Tok} (h : TokIn w b off i t) (hb : Below w.heap.size w w') (hlt : b < w.heap.size) : TokIn w' b off i t := by
  obtain ⟨la, ln, lc, h0, h1, h2, h3, h4⟩ := h
  exact ⟨la, ln, lc, by rw [hb.cell (p := ⟨b, off + i * 3, none⟩) hlt]; exact h0, by rw [hb.cell (p := ⟨b, off + i * 3 + 1, none⟩) hlt]; exact h1, by rw [hb.cell (p := ⟨b, off + i * 3 + 2, none⟩) hlt]; exact h2, h3.below hb, h4⟩
theorem TRd.below {w w' : World} {a : Option Addr} {n : Nat} {ts : List Tok} (h : TRd w a n ts) (hb : Below w.heap.size w w') : TRd w' a n ts := by
  obtain ⟨h1, h2, h3⟩ := h
  refine ⟨h1, h2, fun hp => ?_⟩
  obtain ⟨b, off, rfl, hlt, hc⟩ := h3 hp
  exact ⟨b, off, rfl, Nat.lt_of_lt_of_le hlt hb.size, fun i hi => (hc i hi).below hb hlt⟩
theorem measure_step (h : Nat) (ts : List Tok) (k : Nat) (hk : k < ts.length) : measure h (ts.drop k) = if right (tokAt ts k) (h + (tokAt ts k).lit.length) (decide (k + 1 = ts.length)) = true then (if 65536 < h + (tokAt ts k).lit.length + (tokAt ts k).len.toNat then (0, 2) else measure (h + (tokAt ts k).lit.length + (tokAt ts k).len.toNat) (ts.drop (k + 1))) else (0, 31) := by
  rw [drop_tok ts k hk]
  have e : (ts.drop (k + 1)).isEmpty = decide (k + 1 = ts.length) := by
    rw [Bool.eq_iff_iff]; simp [List.isEmpty_iff]; omega
  simp only [measure, e]
theorem ret2' {t : Nat × Nat} {x y : Nat} {a b : Int} (h : t = (x, y)) (ha : a = (x : Int)) (hb : b = (y : Int)) :
    Ending.returned (.tuple #[.int .i64 a, .int .i64 b]) = .returned (.tuple #[.int .i64 (t.1 : Nat), .int .i64 (t.2 : Nat)]) := by
  subst h ha hb; rfl
set_option maxHeartbeats 2000000 in
set_option maxRecDepth 100000 in
theorem measure_any (a : Option Addr) (n c : Nat) (ts : List Tok) (w : World) (hr : TRd w a n ts) :
    Calls Try.prog 66 #[.slice a n c] w fun e w' => e = .returned (.tuple #[.int .i64 ((measure 0 ts).1 : Nat), .int .i64 ((measure 0 ts).2 : Nat)]) ∧ Below w.heap.size w w' := by
  obtain ⟨hl, hn, hc⟩ := hr
  have HL := hide hl
  have HC := hide hc
  clear hl hc
  go_enter Try.func66, Try.ntmps66
  go_wp2_with fail
  go_loopw [4, 9] (fun x y wr => ∃ h k : Nat, h ≤ 65536 ∧ k ≤ n ∧ x = .int .i64 (h : Int) ∧ y = .int .i64 (k : Int) ∧ Hid (measure 0 ts = measure h (ts.drop k)) ∧ Hid (Below w.heap.size w wr)) (fun _ y _ => n - (intOf y).toNat)
  case atStart => exact ⟨0, 0, Nat.zero_le _, Nat.zero_le _, rfl, rfl, rfl, Below.refl _ _⟩
  case round =>
    obtain ⟨h, k, hh, hk, rfl, rfl, HM, HB⟩ := hrel
    by_cases hlt : k < n
    · have hki : (k : Int) < (n : Int) := by omega
      obtain ⟨b, off, rfl, hb1, hcs⟩ := unhide HC (by omega)
      obtain ⟨la, ln, lc, c0, c1, c2, hrd, hlc, hlm, hlz⟩ := (hcs k hlt).below HB.out hb1
      have HMS := hide (measure_step h ts k (by have := HL.out; omega))
      generalize tokAt ts k = t at c1 c2 hrd HMS
      obtain ⟨lit, d, l⟩ := t
      simp only at c1 c2 hrd HMS
      have hln : lit.length = ln := hrd.1
      rw [hln] at HMS
      have hh3 : (h : Int) ≤ 65536 := by omega
      have hlnm : (ln : Int) ≤ 140737488355328 := by have := hrd.2.1; omega
      obtain ⟨m, hm⟩ : ∃ m, h + ln = m := ⟨_, rfl⟩
      have hsum : (h : Int) + (ln : Int) = (m : Int) := by omega
      rw [hm] at HMS
      have HMM := hide hm
      have hmle : (m : Int) ≤ 140737488420864 := by omega
      clear hm
      have hs := HB.out.size
      have HBW : Hid (Below w.heap.size w (wr.alloc (.cells #[.slice la ln lc, .int .i64 d, .int .i64 l] 61))) := HB.out.alloc hs _
      have HT := hide (TRow.new wr (.slice la ln lc) d l)
      have hne : b ≠ wr.heap.size := by omega
      have hlast : ((k : Int) == (n : Int) - 1) = decide (k + 1 = ts.length) := by
        rw [HL.out, Bool.eq_iff_iff]; simp; omega
      have HIR := hide (fun w0 => isRight_any la lc ⟨lit, d, l⟩ m ((k : Int) == (n : Int) - 1) w0)
      simp only [hln] at HIR
      rw [← hlast] at HMS
      obtain ⟨lastB, hlb⟩ : ∃ q, ((k : Int) == (n : Int) - 1) = q := ⟨_, rfl⟩
      rw [hlb] at HMS HIR
      clear hlast hrd hcs hln
      go_wp2_with fail
      refine (HIR.out _).mono ?_
      rintro e w1 ⟨rfl, hb2⟩
      have HB2 := hide (below_trans HBW.out hb2)
      have HT2 := hide (HT.out.below hb2)
      have k2 := HT2.out.c2
      clear hb2 HBW HT HB HIR
      by_cases hrt : right ⟨lit, d, l⟩ m lastB = true
      · rw [if_pos hrt] at HMS
        rw [hrt]
        have hl0 : 0 ≤ l ∧ l ≤ 259 := by
          unfold right at hrt
          split at hrt
          · rename_i hb; have := hb.2; simp only at this; omega
          · simp at hrt; omega
        obtain ⟨hl1, hl2⟩ := hl0
        obtain ⟨l', rfl⟩ := Int.eq_ofNat_of_zero_le hl1
        rw [Int.toNat_natCast] at HMS
        obtain ⟨h', hh'⟩ : ∃ h', m + l' = h' := ⟨_, rfl⟩
        have hsum2 : (m : Int) + (l' : Int) = (h' : Int) := by omega
        rw [hh'] at HMS
        clear hh' hl1 hrt
        by_cases hbig : (65536 : Int) < (h' : Int)
        · have HE : Hid (measure 0 ts = (0, 2)) := by
            have := HM.out
            rw [HMS.out, if_pos (by omega)] at this; exact this
          clear HM HMS
          go_wp2_with fail
          go_ret2
          exact ⟨ret2' HE.out rfl rfl, HB2.out⟩
        · have HE : Hid (measure 0 ts = measure h' (ts.drop (k + 1))) := by
            have := HM.out
            rw [HMS.out, if_neg (by omega)] at this; exact this
          clear HM HMS
          go_wp2_with fail
          go_roundw
          case rel => exact ⟨h', k + 1, by omega, by omega, rfl, by go_num, HE, HB2⟩
          case measure => simp [intOf]; omega
      · rw [if_neg hrt] at HMS
        have hrf : right ⟨lit, d, l⟩ m lastB = false := by simpa using hrt
        rw [hrf]
        have HE : Hid (measure 0 ts = (0, 31)) := by
          have := HM.out
          rw [HMS.out] at this; exact this
        clear HM HMS hrt
        go_wp2_with fail
        go_ret2
        exact ⟨ret2' HE.out rfl rfl, HB2.out⟩
    · have HE : Hid (measure 0 ts = (h, 0)) := by
        have := HM.out
        rw [List.drop_eq_nil_of_le (by have := HL.out; omega)] at this; exact this
      clear HM
      go_wp2_with fail
      go_ret2
      exact ⟨ret2' HE.out rfl rfl, HB.out⟩
/-- Of a list that is measured well each token is right in its place, and all fits. -/
theorem measure_ok (ts : List Tok) : ∀ (h N : Nat) (x : List (BitVec 8)), x.length = h → h ≤ 65536 → measure h ts = (N, 0) → N = (expand x ts).length ∧ N ≤ 65536 ∧ ∀ k, k < ts.length →
    (0 ≤ (tokAt ts k).len ∧ ((tokAt ts k).bare ∨ 4 ≤ (tokAt ts k).len ∧ 0 ≤ (tokAt ts k).dist) ∧ (tokAt ts k).len ≤ 259 ∧ (tokAt ts k).dist ≤ 32768 ∧ (0 < (tokAt ts k).len → 1 ≤ (tokAt ts k).dist ∧ (tokAt ts k).dist ≤ ((expand x (ts.take k)).length : Int) + ((tokAt ts k).lit.length : Int))) ∧
    (expand x (ts.take k)).length + (tokAt ts k).lit.length + (tokAt ts k).len.toNat ≤ N ∧ (bytesOf (ts.take k)).length + 28 * h ≤ 28 * (expand x (ts.take k)).length := by
  induction ts with
  | nil => intro h N x hx hh e; simp only [measure, Prod.mk.injEq, and_true] at e; subst e; exact ⟨hx.symm, hh, fun k hk => by simp at hk⟩
  | cons t r ih =>
    intro h N x hx hh e
    simp only [measure] at e
    split at e
    · rename_i hr
      split at e
      · simp at e
      · rename_i hlt
        obtain ⟨g1, g2, g3⟩ := ih (h + t.lit.length + t.len.toNat) N (grow x t) (by rw [length_grow, hx]) (by omega) e
        have hNle : h + t.lit.length + t.len.toNat ≤ N := by
          rw [g1]
          have : ∀ (r : List Tok) (y : List (BitVec 8)), y.length ≤ (expand y r).length := by
            intro r
            induction r with
            | nil => intro y; exact Nat.le_refl _
            | cons a b ih2 => intro y; rw [expand_cons]; have := ih2 (grow y a); rw [length_grow] at this; omega
          have h1 := this r (grow x t)
          rw [length_grow, hx] at h1; exact h1
        have hfacts : 0 ≤ t.len ∧ (t.bare ∨ 4 ≤ t.len ∧ 0 ≤ t.dist) ∧ t.len ≤ 259 ∧ t.dist ≤ 32768 ∧ (0 < t.len → 1 ≤ t.dist ∧ t.dist ≤ (h : Int) + (t.lit.length : Int)) ∧ 1 ≤ t.lit.length + t.len.toNat := by
          unfold right at hr
          split at hr
          · rename_i hb
            have h1 := hb.1
            have h2 := hb.2
            simp at hr
            exact ⟨by omega, .inl hb, by omega, by omega, by omega, by omega⟩
          · simp at hr
            exact ⟨by omega, .inr (by omega), by omega, by omega, by omega, by omega⟩
        refine ⟨by rw [expand_cons]; exact g1, g2, fun k hk => ?_⟩
        cases k with
        | zero =>
          refine ⟨⟨hfacts.1, hfacts.2.1, hfacts.2.2.1, hfacts.2.2.2.1, ?_⟩, ?_, ?_⟩
          · show _ → 1 ≤ t.dist ∧ t.dist ≤ ((expand x []).length : Int) + _
            rw [show expand x [] = x from rfl, hx]; exact hfacts.2.2.2.2.1
          · show (expand x []).length + t.lit.length + t.len.toNat ≤ N
            rw [show expand x [] = x from rfl, hx]; exact hNle
          · show (bytesOf []).length + 28 * h ≤ 28 * (expand x []).length
            rw [show expand x [] = x from rfl, hx]; simp [bytesOf]
        | succ k =>
          obtain ⟨q1, q2, q3⟩ := g3 k (by simpa using hk)
          refine ⟨q1, q2, ?_⟩
          rw [List.take_succ_cons, bytesOf_cons, List.length_append, expand_cons]
          have hp : (putTok t).length ≤ t.lit.length + 27 := by
            unfold putTok
            have h1 := (put_nine t.lit.length (by omega)).2
            rw [List.length_append, List.length_append]
            split
            · simp; omega
            · have h2 := (put_nine (t.len - 4).toNat (by omega)).2
              have h3 := (put_nine t.dist.toNat (by omega)).2
              rw [List.length_append]; omega
          have := hfacts.2.2.2.2.2
          omega
    · simp at e
def expanded (ts : List Tok) : List (BitVec 8) × Nat := if (measure 0 ts).2 = 0 then (expand [] ts, 0) else ([], (measure 0 ts).2)
def written (ts : List Tok) : List (BitVec 8) × Nat := if (measure 0 ts).2 = 0 then (bytesOf ts, 0) else ([], (measure 0 ts).2)
set_option maxHeartbeats 2000000 in
set_option maxRecDepth 100000 in
theorem expand_any (a : Option Addr) (n c : Nat) (ts : List Tok) (w : World) (hr : TRd w a n ts) :
    Calls Try.prog 22 #[.slice a n c] w fun e w' => ∃ v, e = .returned (.tuple #[v, .int .i64 ((expanded ts).2 : Nat)]) ∧ Own w' w.heap.size v (expanded ts).1 ∧ Below w.heap.size w w' := by
  have HR := hide hr
  have hn := hr.2.1
  have HL := hide hr.1
  clear hr
  obtain ⟨i0, hi, hz0, hz1, hz2⟩ := info_parts info8
  have HD : Hid (expanded ts = if (measure 0 ts).2 = 0 then (expand [] ts, 0) else ([], (measure 0 ts).2)) := rfl
  have HOK : Hid (∀ N, measure 0 ts = (N, 0) → _) := fun N e => measure_ok ts 0 N [] rfl (by omega) e
  go_enter Try.func22, Try.ntmps22
  go_wp2_with fail
  refine (measure_any a n c ts w HR.out).mono ?_
  rintro e w1 ⟨rfl, hb1⟩
  have HB1 := hide hb1
  have HR1 := hide (HR.out.below hb1)
  clear hb1
  generalize measure 0 ts = G at HD HOK
  obtain ⟨N, er⟩ := G
  simp only at HD ⊢
  by_cases he : er = 0
  · subst he
    rw [if_pos rfl] at HD
    obtain ⟨hN1, hN2, hN3⟩ := HOK.out N rfl
    have HN3 := hide hN3
    have hNi : (N : Int) ≤ 65536 := by omega
    have hs1 := HB1.out.size
    clear hN3 HOK hN1
    go_wp2_with (at_make; refine wpList_make_own _ rfl _ _ 22 rfl w1.heap.size 5 i0 (.int .u8 0) 1 Try.underlying22 hi hz0 hz1 .i64 .i64 _ N rfl rfl rfl (by rw [hz2]; omega) (by unfold maxLen; omega) (Nat.le_refl _) ?_
                 intro w2 hown hgrow
                 have HO2 : Hid (Own w2 w1.heap.size (.slice (some ⟨w1.heap.size, 0, none⟩) 0 N) []) := hown
                 have HB2 : Hid (Below w1.heap.size w1 w2) := (Below.refl _ _).grown hgrow (Nat.le_refl _) (by intro k h; cases h)
                 clear hown hgrow)
    go_loopw [6, 21] (fun o y wr => ∃ (k : Nat) (va : Option Addr) (vn vc : Nat), k ≤ n ∧ y = .int .i64 (k : Int) ∧ o = .slice va vn vc ∧ Hid (Own wr w1.heap.size (.slice va vn vc) (expand [] (ts.take k))) ∧ Hid (Below w1.heap.size w1 wr)) (fun _ y _ => n - (intOf y).toNat)
    case atStart => exact ⟨0, _, _, _, Nat.zero_le _, rfl, rfl, HO2, HB2⟩
    case round =>
      obtain ⟨k, va, vn, vc, hk, rfl, rfl, HO, HB⟩ := hrel
      clear HO2 HB2
      by_cases hlt : k < n
      · have hki : (k : Int) < (n : Int) := by omega
        obtain ⟨b, off, rfl, hb1, hcs⟩ := HR1.out.2.2 (by omega)
        obtain ⟨la, ln, lc, c0, c1, c2, hrd, hlc, hlm, hlz⟩ := (hcs k hlt).below HB.out hb1
        obtain ⟨⟨q1, q2, q3, q4, q5⟩, q6, q7⟩ := HN3.out k (by have := HL.out; omega)
        have HTK := hide (take_tok ts k (by have := HL.out; omega))
        generalize tokAt ts k = t at c1 c2 hrd q1 q2 q3 q4 q5 q6 HTK
        have HRD := hide hrd
        have hs := HB.out.size
        have HBW : Hid (Below wr.heap.size wr (wr.alloc (.cells #[.slice la ln lc, .int .i64 t.dist, .int .i64 t.len] 61))) := (Below.refl _ _).alloc (Nat.le_refl _) _
        have hne : b ≠ wr.heap.size := by omega
        clear hrd hcs q2 q3 q4 q7
        have Q1 := hide q1
        have Q5 := hide q5
        have Q6 := hide q6
        clear q1 q5 q6
        go_wp2_with fail
        refine (grow_any w1.heap.size _ (expand [] (ts.take k)) la ln lc t _ (HO.out.below HBW.out) (HRD.out.below HBW.out) hlz Q1.out Q5.out (by have := Q6.out; omega) (by have := HBW.out.size; omega)).mono ?_
        rintro e w3 ⟨v3, rfl, hext⟩
        have HE := hide (Ext.start HBW.out hext)
        obtain ⟨v3a, v3n, v3c, rfl, _⟩ := own_named hext.1
        have hvb : ∀ i, (Value.slice va vn vc).ownBlock = some i → w1.heap.size ≤ i := own_blk HO.out
        have HB3 : Hid (Below w1.heap.size w1 w3) := HB.out.grown HE.out.2.1 HB.out.size hvb
        clear hext hvb
        go_wp2_with fail
        go_roundw
        case rel => exact ⟨k + 1, v3a, v3n, v3c, by omega, by go_num, rfl, by rw [HTK.out, expand_snoc]; exact HE.out.1, HB3⟩
        case measure => simp [intOf]; omega
      · have hkn : k = ts.length := by have := HL.out; omega
        have HE : Hid (Own wr w1.heap.size (.slice va vn vc) (expand [] ts)) := by
          have := HO.out
          rw [hkn, List.take_length] at this; exact this
        clear hkn
        go_wp2_with fail
        go_ret2
        rw [HD.out]
        exact ⟨_, rfl, HE.out.mono hs1, below_trans HB1.out HB.out⟩
  · have hb : ((er : Int) != 0) = true := by rw [bne_iff_ne]; omega
    rw [if_neg he] at HD
    go_wp2_with fail
    go_ret2
    rw [HD.out]
    exact ⟨_, rfl, own_none _ _, HB1.out⟩
set_option maxHeartbeats 2000000 in
set_option maxRecDepth 100000 in
theorem write_any (a : Option Addr) (n c : Nat) (ts : List Tok) (w : World) (hr : TRd w a n ts) :
    Calls Try.prog 23 #[.slice a n c] w fun e w' => ∃ v, e = .returned (.tuple #[v, .int .i64 ((written ts).2 : Nat)]) ∧ Own w' w.heap.size v (written ts).1 ∧ Below w.heap.size w w' := by
  have HR := hide hr
  have hn := hr.2.1
  have HL := hide hr.1
  clear hr
  have HD : Hid (written ts = if (measure 0 ts).2 = 0 then (bytesOf ts, 0) else ([], (measure 0 ts).2)) := rfl
  have HOK : Hid (∀ N, measure 0 ts = (N, 0) → _) := fun N e => measure_ok ts 0 N [] rfl (by omega) e
  go_enter Try.func23, Try.ntmps23
  go_wp2_with fail
  refine (measure_any a n c ts w HR.out).mono ?_
  rintro e w1 ⟨rfl, hb1⟩
  have HB1 := hide hb1
  have HR1 := hide (HR.out.below hb1)
  clear hb1
  generalize measure 0 ts = G at HD HOK
  obtain ⟨N, er⟩ := G
  simp only at HD ⊢
  by_cases he : er = 0
  · subst he
    rw [if_pos rfl] at HD
    obtain ⟨hN1, hN2, hN3⟩ := HOK.out N rfl
    have HN3 := hide hN3
    have hs1 := HB1.out.size
    clear hN3 HOK hN1
    have e0 : ((0 : Nat) : Int) = 0 := rfl
    simp only [e0]
    clear e0
    go_wp2_with fail
    go_loopw [6, 19] (fun o y wr => ∃ (k : Nat) (va : Option Addr) (vn vc : Nat), k ≤ n ∧ y = .int .i64 (k : Int) ∧ o = .slice va vn vc ∧ Hid (Own wr w1.heap.size (.slice va vn vc) (bytesOf (ts.take k))) ∧ Hid (Below w1.heap.size w1 wr)) (fun _ y _ => n - (intOf y).toNat)
    case atStart => exact ⟨0, _, _, _, Nat.zero_le _, rfl, rfl, own_none _ _, Below.refl _ _⟩
    case round =>
      obtain ⟨k, va, vn, vc, hk, rfl, rfl, HO, HB⟩ := hrel
      by_cases hlt : k < n
      · have hki : (k : Int) < (n : Int) := by omega
        obtain ⟨b, off, rfl, hb1, hcs⟩ := HR1.out.2.2 (by omega)
        obtain ⟨la0, ln0, lc0, _, _, _, hrd0, _⟩ := hcs k hlt
        obtain ⟨la, ln, lc, c0, c1, c2, hrd, hlc, hlm, hlz⟩ := (hcs k hlt).below HB.out hb1
        obtain ⟨⟨q1, q2, q3, q4, q5⟩, q6, q7⟩ := HN3.out k (by have := HL.out; omega)
        have HTK := hide (take_tok ts k (by have := HL.out; omega))
        have HAD : Hid (0 < ln → ∀ ad, la = some ad → (Value.slice va vn vc).ownBlock ≠ some ad.block) := by
          intro hpos ad e e2
          obtain ⟨la1, ln1, lc1, d0, d1, d2, hrd1, _⟩ := hcs k hlt
          have e3 : w1.cell? ⟨b, off + k * 3, none⟩ = some (.slice la ln lc) := by rw [← HB.out.cell (p := ⟨b, off + k * 3, none⟩) hb1]; exact c0
          rw [d0] at e3
          cases e3
          obtain ⟨bb, oo, e4, hlt2, _⟩ := hrd1.2.2 hpos
          rw [e] at e4
          cases e4
          have := (blk HO.out _ e2).1
          simp only at this
          omega
        generalize tokAt ts k = t at c1 c2 hrd q1 q2 q3 q4 q5 q6 HTK
        have HRD := hide hrd
        have hs := HB.out.size
        have HBW : Hid (Below wr.heap.size wr (wr.alloc (.cells #[.slice la ln lc, .int .i64 t.dist, .int .i64 t.len] 61))) := (Below.refl _ _).alloc (Nat.le_refl _) _
        have hne : b ≠ wr.heap.size := by omega
        clear hrd hcs q5 hrd0
        have Q2 := hide q2
        have Q3 := hide q3
        have Q4 := hide q4
        have Q6 : Hid ((bytesOf (ts.take k)).length + t.lit.length ≤ 70368744177664) := by show _ ≤ _; omega
        clear q1 q2 q3 q4 q6 q7
        go_wp2_with fail
        refine (put_tok w1.heap.size _ (bytesOf (ts.take k)) la ln lc t _ (HO.out.below HBW.out) (HRD.out.below HBW.out) hlz HAD.out Q2.out (by have := Q3.out; omega) (by have := Q4.out; omega) Q6.out (by have := HBW.out.size; omega)).mono ?_
        rintro e w3 ⟨v3, rfl, hext⟩
        have HE := hide (Ext.start HBW.out hext)
        obtain ⟨v3a, v3n, v3c, rfl, _⟩ := own_named hext.1
        have hvb : ∀ i, (Value.slice va vn vc).ownBlock = some i → w1.heap.size ≤ i := own_blk HO.out
        have HB3 : Hid (Below w1.heap.size w1 w3) := HB.out.grown HE.out.2.1 HB.out.size hvb
        clear hext hvb
        go_wp2_with fail
        go_roundw
        case rel => exact ⟨k + 1, v3a, v3n, v3c, by omega, by go_num, rfl, by
          show Own _ _ _ _
          rw [HTK.out, bytesOf_append, show bytesOf [t] = putTok t by simp [bytesOf]]; exact HE.out.1, HB3⟩
        case measure => simp [intOf]; omega
      · have hkn : k = ts.length := by have := HL.out; omega
        have HE : Hid (Own wr w1.heap.size (.slice va vn vc) (bytesOf ts)) := by
          have := HO.out
          rw [hkn, List.take_length] at this; exact this
        clear hkn
        go_wp2_with fail
        go_ret2
        rw [HD.out]
        exact ⟨_, rfl, HE.out.mono hs1, below_trans HB1.out HB.out⟩
  · have hb : ((er : Int) != 0) = true := by rw [bne_iff_ne]; omega
    rw [if_neg he] at HD
    go_wp2_with fail
    go_ret2
    rw [HD.out]
    exact ⟨_, rfl, own_none _ _, HB1.out⟩
end Go.Proofs.Ytcchknpgkcmneaa.Lz
