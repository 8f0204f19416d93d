/-
  The document's words: bits, one behind the other, as bytes.
-/
import Derived.Test.YtalnhhpcncjflaaHuffT8
import Derived.Test.YtalnhhpcncjflaaHuffC7
import Derived.Laws.Rows
namespace Go.Proofs.Ytalnhhpcncjflaa.Huff
open Go.ChangeShapes Go.WideShapes Go.ChangeAt Go.RowKit
open Go.Proofs.Ytalnhhpcncjflaa.Base
set_option linter.unusedVariables false
/-- What the document does with one more bit. -/
def wordB (B : List (BitVec 8)) (n d : Nat) : List (BitVec 8) :=
  if d = 1 then (if n % 8 = 0 then B ++ [0] else B).set (n / 8) (BitVec.ofNat 8 (((if n % 8 = 0 then B ++ [0] else B).getD (n / 8) 0).toNat + 2 ^ (n % 8))) else if n % 8 = 0 then B ++ [0] else B
theorem getD_last (B : List (BitVec 8)) (c : BitVec 8) : (B ++ [c]).getD B.length 0 = c := by
  rw [List.getD_eq_getElem?_getD, List.getElem?_append_right (Nat.le_refl _), Nat.sub_self]; rfl
theorem set_last (B : List (BitVec 8)) (c d : BitVec 8) : (B ++ [c]).set B.length d = B ++ [d] := by
  rw [List.set_append_right _ _ (Nat.le_refl _), Nat.sub_self]; rfl
theorem wordB_step (S : List Nat) (h : ∀ b ∈ S, b ≤ 1) (d : Nat) (hd : d ≤ 1) : wordB (flush (packed [] S)) S.length d = flush (packed [] (S ++ [d])) := by
  obtain ⟨h1, h2, h3, h4, h5⟩ := pk_packed S h
  have hp : packed [] (S ++ [d]) = bstep (packed [] S) d := by unfold packed; rw [List.foldl_append]; rfl
  rw [hp]
  generalize packed [] S = s at h1 h2 h3 h4 h5
  obtain ⟨B, g, f⟩ := s
  simp only [] at h1 h2 h5
  unfold wordB
  rw [← h1, ← h2]
  have hf8 : f < 8 := by omega
  have hd2 : d = 0 ∨ d = 1 := by omega
  by_cases hf : f = 0
  · subst hf
    have hg : g = 0 := by have : (2 : Nat) ^ 0 = 1 := rfl; omega
    subst hg
    have e1 : flush (B, 0, 0) = B := rfl
    rw [e1]
    rcases hd2 with rfl | rfl
    · rw [if_neg (by omega), if_pos rfl]; rfl
    · rw [if_pos rfl, if_pos rfl, getD_last, set_last]; rfl
  · have e1 : flush (B, g, f) = B ++ [BitVec.ofNat 8 g] := if_neg hf
    have hg2 : g < 128 := Nat.lt_of_lt_of_le h5 (Nat.pow_le_pow_right (by decide) (by omega) : 2 ^ f ≤ 2 ^ 7)
    have hg3 : (BitVec.ofNat 8 g).toNat = g := by rw [BitVec.toNat_ofNat]; omega
    have e2 : flush (bstep (B, g, f) d) = B ++ [BitVec.ofNat 8 (g + d * 2 ^ f)] := by
      unfold bstep
      by_cases h7 : f = 7
      · subst h7
        rw [if_pos rfl]; rfl
      · rw [if_neg h7]
        show (if f + 1 = 0 then _ else _) = _
        rw [if_neg (by omega)]
    rw [e1, e2]
    rcases hd2 with rfl | rfl
    · rw [if_neg (by omega), if_neg hf, Nat.zero_mul, Nat.add_zero]
    · rw [if_pos rfl, if_neg hf, getD_last, set_last, hg3, Nat.one_mul]
/-- The block of a word's length and bits. -/
def QB (w : World) (q l v : Nat) : Prop := w.heap[q]? = some (.cells #[.int .i64 (l : Int), .int .u32 (v : Int)] 49)
theorem qb_ne {w : World} {base i n c q l v : Nat} {xs : List (BitVec 8)} (h : Own w base (.slice (some ⟨i, 0, none⟩) n c) xs) (hq : QB w q l v) : i ≠ q := by
  rintro rfl
  rcases h.2 with ⟨h1, _⟩ | ⟨g', c', cur, h1, _, h3, _⟩
  · cases h1
  · simp only [Value.slice.injEq, Option.some.injEq, Addr.mk.injEq] at h1
    obtain ⟨⟨rfl, _⟩, _⟩ := h1
    rw [hq] at h3
    simp only [Option.some.injEq, Obj.cells.injEq] at h3
    exact absurd h3.2.1 (by decide)
theorem pushed9 {w wr w9 : World} {q l v g' n vc : Nat} {va : Option Addr} {B : List (BitVec 8)} (o : Obj) (hO : Own wr w.heap.size (.slice va n vc) B) (hB : Below w.heap.size w wr) (hQ : QB wr q l v)
    (hg : (Value.slice va n vc).ownBlock = some g' ∧ (wr.alloc o).grownBy w9 (some g') ∨ (wr.alloc o).heap.size ≤ g' ∧ (wr.alloc o).grownBy w9 none) : Hid (Below w.heap.size w w9) ∧ Hid (QB w9 q l v) := by
  have hs := hB.size
  have b1 := hB.alloc hs o
  have hql : q < wr.heap.size := (Array.getElem?_eq_some_iff.1 hQ).1
  have q1 : QB (wr.alloc o) q l v := (heap_alloc_old wr o hql).trans hQ
  have hql2 : q < (wr.alloc o).heap.size := by simp; omega
  rcases hg with ⟨h1, h2⟩ | ⟨_, h2⟩
  · have hne : g' ≠ q := by
      cases va with
      | none => cases h1
      | some ad =>
        obtain ⟨i, rfl⟩ : ∃ i, ad = ⟨i, 0, none⟩ := by
          rcases hO.2 with ⟨e, _⟩ | ⟨g, c', cur, e, _⟩
          · cases e
          · simp only [Value.slice.injEq, Option.some.injEq] at e; exact ⟨g, e.1⟩
        have := blk_eq h1
        subst this
        exact qb_ne hO hQ
    refine ⟨b1.grown h2 (by simp; omega) (fun i e => by have := Option.some.inj e; have := (World.ownsRow.lt hO g' h1).1; omega), ?_⟩
    exact (h2.block q hql2 (fun e => hne (Option.some.inj e).symm)).trans q1
  · refine ⟨b1.grown h2 (by simp; omega) (fun i e => by cases e), ?_⟩
    exact (h2.block q hql2 (fun e => by cases e)).trans q1
theorem u8_plus (x : BitVec 8) (f : Nat) : ((x.toNat : Int) + 2 ^ f) % 256 = ((BitVec.ofNat 8 (x.toNat + 2 ^ f)).toNat : Int) := by
  rw [BitVec.toNat_ofNat]
  simp
theorem flushed_len (S : List Nat) (h : ∀ b ∈ S, b ≤ 1) : (flush (packed [] S)).length = (S.length + 7) / 8 := (flushed S h).1
set_option maxHeartbeats 2000000 in
set_option maxRecDepth 100000 in
theorem refWords_any (text : List (BitVec 8)) (a : Option Addr) (tl tc : Nat) (bC gc cc : Nat) (cs : List (Int × Nat)) (w : World)
    (hr : Rd w a tl text) (ht : tl ≤ 65536) (hc : OwnC w bC (.slice (some ⟨gc, 0, none⟩) 256 cc) cs) (hcs : LenOk cs) :
    Calls Try.prog 46 #[.slice a tl tc, .slice (some ⟨gc, 0, none⟩) 256 cc] w fun e w' => ∃ v, e = .returned v ∧ Own w' w.heap.size v (flush (packed [] (bitsOf cs text))) ∧ Below w.heap.size w w' := by
  have HR := hide hr
  have HC := hide hc
  have HCS := hide hcs
  clear hr hc hcs
  go_enter Try.func46, Try.ntmps46
  go_wp2_with fail
  go_loopw [5, 6, 7] (fun o nb i wr => ∃ (k nn : Nat) (B : List (BitVec 8)), k ≤ tl ∧ i = .int .i64 (k : Int) ∧ nb = .int .i64 (nn : Int) ∧ Hid (Own wr w.heap.size o B) ∧ Hid (B = flush (packed [] (bitsOf cs (text.take k)))) ∧ Hid (nn = (bitsOf cs (text.take k)).length) ∧ Hid (Below w.heap.size w wr)) (fun _ _ i _ => tl - (intOf i).toNat)
  case atStart => exact ⟨0, 0, [], Nat.zero_le _, rfl, rfl, World.ownsRow_nil _ _ _ _, rfl, rfl, Below.refl _ _⟩
  case round =>
    obtain ⟨k, nn, B, hk, rfl, rfl, HO, HBB, HNN, HB⟩ := hrel
    by_cases hlt : k < tl
    · have hki : (k : Int) < (tl : Int) := by omega
      obtain ⟨b1, o1, rfl, hb1, hc1⟩ := HR.out.2.2 (by omega)
      have g1 := hc1 k hlt
      rw [← HB.out.cell (p := ⟨b1, o1 + k, none⟩) hb1] at g1
      have HNX := hide (bitsOf_next cs text k (by rw [HR.out.1]; exact hlt))
      have HSUB := hide (bitsOf_sub cs HCS.out text k (by rw [HR.out.1]; exact ht))
      have HC8 := hide (HCS.out.2 (text.getD k 0).toNat (lt8 _))
      have HCC := hide (HC.out.cells HCS.out.1 (text.getD k 0).toNat (lt8 _))
      have HGC := hide (World.ownsRow.lt HC.out gc rfl).2
      generalize text.getD k 0 = c at g1 HNX HC8 HCC
      have hc8 := lt8 c
      generalize c.toNat = C at g1 HNX HC8 HCC hc8
      obtain ⟨⟨L, v⟩, hLv⟩ : ∃ Lv, cs.getD C (0, 0) = Lv := ⟨_, rfl⟩
      rw [hLv] at HNX HC8 HCC
      clear hLv c
      obtain ⟨l, rfl⟩ : ∃ l : Nat, L = (l : Int) := ⟨L.toNat, by have := HC8.out.1; simp only [] at this; omega⟩
      simp only [Int.toNat_natCast] at HNX HC8 HCC
      have g2 := HCC.out.1
      rw [← HB.out.cell (p := ⟨gc, C * 2, none⟩) HGC.out] at g2
      have g3 := HCC.out.2
      rw [← HB.out.cell (p := ⟨gc, C * 2 + 1, none⟩) HGC.out] at g3
      have hl15 : l ≤ 15 := by have := HC8.out.2.1; omega
      have hv : v < 4294967296 := HC8.out.2.2
      obtain ⟨S0, hS0⟩ : ∃ S0, bitsOf cs (text.take k) = S0 := ⟨_, rfl⟩
      have HS1 : Hid (∀ x ∈ S0, x ≤ 1) := by rw [← hS0]; exact bitsOf_le _ _
      rw [hS0] at HBB HNN HSUB HNX
      clear hS0
      obtain ⟨w5, hw5⟩ : ∃ w5, wr.alloc (.cells #[.int .i64 (l : Int), .int .u32 (v : Int)] 49) = w5 := ⟨_, rfl⟩
      obtain ⟨q, hq⟩ : ∃ q, wr.heap.size = q := ⟨_, rfl⟩
      have hb5 : Below wr.heap.size wr w5 := by rw [← hw5]; exact (Below.refl _ _).alloc (Nat.le_refl _) _
      have HQ : Hid (QB w5 q l v) := by rw [← hw5, ← hq]; exact heap_alloc_new _ _
      have HO5 := hide (HO.out.below hb5)
      have HB5 := hide (HB.out.trans (hb5.mono HB.out.size))
      have HQW : Hid (w.heap.size ≤ q) := by rw [← hq]; exact HB.out.size
      have q0 : w5.cell? ⟨q, 0, none⟩ = some (.int .i64 (l : Int)) := by rw [cell_of_row _ _ _ _ _ _ HQ.out]; rfl
      clear hb5 hc1 HO HB
      go_wp2_with fail
      clear q0 g1 g2 g3
      go_loopw [5, 6, 9] (fun o nb kk wy => ∃ (m n2 : Nat) (B2 : List (BitVec 8)) (S : List Nat), m ≤ l ∧ kk = .int .i64 ((m : Int) - 1) ∧ nb = .int .i64 (n2 : Int) ∧ n2 ≤ 983100 ∧ Hid (Own wy w.heap.size o B2) ∧ Hid (B2 = flush (packed [] S)) ∧ Hid (n2 = S.length) ∧ Hid (S = S0 ++ (wbits l v).take (l - m)) ∧ Hid (Below w.heap.size w wy) ∧ Hid (QB wy q l v)) (fun _ _ kk _ => (intOf kk + 1).toNat)
      case atStart => exact ⟨l, nn, B, S0, Nat.le_refl _, by go_num, rfl, by have := HSUB.out; have := HNN.out; omega, HO5, HBB, HNN, by rw [Nat.sub_self, List.take_zero, List.append_nil]; rfl, HB5, HQ⟩
      case round =>
        clear HO5 HB5 HQ
        obtain ⟨m, n2, B2, S, hm, rfl, rfl, hn2, HO, HB2, HN2, HS, HB, HQ⟩ := hrel
        by_cases hm0 : 0 < m
        · obtain ⟨j, rfl⟩ : ∃ j, m = j + 1 := ⟨m - 1, by omega⟩
          have e0 : ((j + 1 : Nat) : Int) - 1 = (j : Int) := by omega
          rw [e0]
          have q1 : wr.cell? ⟨q, 1, none⟩ = some (.int .u32 (v : Int)) := by rw [cell_of_row _ _ _ _ _ _ HQ.out]; rfl
          have HT : Hid ((wbits l v).take (l - j) = (wbits l v).take (l - (j + 1)) ++ [v / 2 ^ j % 2]) := by
            show _ = _
            have := wbits_take l v j (by omega)
            rw [show l - (j + 1) + 1 = l - j by omega] at this
            exact this
          obtain ⟨d, hd⟩ : ∃ d, v / 2 ^ j % 2 = d := ⟨_, rfl⟩
          have hd1 : d ≤ 1 := by omega
          have hdt : ((v : Int) / 2 ^ j).tmod 2 = (d : Int) := by
            have e1 : ((v : Int) / 2 ^ j) = ((v / 2 ^ j : Nat) : Int) := by simp
            rw [e1]
            generalize v / 2 ^ j = X at hd
            rw [Int.tmod_eq_emod_of_nonneg (Int.natCast_nonneg _)]
            omega
          have HS2 : Hid (∀ x ∈ S, x ≤ 1) := by
            rw [HS.out]
            intro x hx
            rcases List.mem_append.1 hx with h | h
            · exact HS1.out x h
            · exact wbits_le l v x (List.mem_of_mem_take h)
          have HSTEP : Hid (wordB B2 n2 d = flush (packed [] (S ++ [d]))) := by
            show _ = _
            rw [HB2.out, HN2.out]
            exact wordB_step S HS2.out d hd1
          have HSN : Hid (S ++ [d] = S0 ++ (wbits l v).take (l - j)) := by
            show _ = _
            rw [HT.out, HS.out, hd, List.append_assoc]
          have HLEN : Hid (B2.length = (n2 + 7) / 8) := by
            show _ = _
            rw [HB2.out, flushed_len S HS2.out, ← HN2.out]
          have HN3 : Hid (n2 + 1 = (S ++ [d]).length) := by show _ = _; rw [List.length_append, ← HN2.out]; rfl
          have HNB : Hid (n2 + 1 ≤ 983100) := by
            show _ ≤ _
            have h1 := HN3.out
            rw [HSN.out, List.length_append, List.length_take, wbits_len] at h1
            have h2 := HSUB.out
            omega
          clear hd HT
          obtain ⟨f, hf⟩ : ∃ f, n2 % 8 = f := ⟨_, rfl⟩
          obtain ⟨t, ht8⟩ : ∃ t, n2 / 8 = t := ⟨_, rfl⟩
          have hfi : (n2 : Int) % 8 = (f : Int) := by omega
          have hti : (n2 : Int) / 8 = (t : Int) := by omega
          have HFT : Hid (n2 % 8 = f ∧ n2 / 8 = t ∧ f < 8) := ⟨hf, ht8, by omega⟩
          unfold wordB at HSTEP
          rw [hf, ht8] at HSTEP
          obtain ⟨va, vc, hva⟩ := HO.out.shape
          subst hva
          have hsr := HB.out.size
          have HQL : Hid (q < wr.heap.size) := (Array.getElem?_eq_some_iff.1 HQ.out).1
          clear hf ht8
          by_cases hf0 : f = 0
          · have z1 : ((f : Int) == 0) = true := by rw [beq_iff_eq]; omega
            rw [if_pos hf0] at HSTEP
            rcases (show d = 0 ∨ d = 1 by omega) with rfl | rfl
            · have z2 : (((0 : Nat) : Int) == 1) = false := rfl
              rw [if_neg (by omega)] at HSTEP
              go_wp2_with (at_builtin; refine push2 _ rfl _ _ rfl w.heap.size (.slice va B2.length vc) B2 rfl (HO.out.below ((Below.refl wr.heap.size wr).alloc (Nat.le_refl _) _)) ⟨wr.heap.size, 0, none⟩ 1 0 rfl (cell_one_new _ _ _ 0 _ rfl) (by have := HLEN.out; omega) (by simp; omega) ?_
                           intro g' c' w9 ho9 hg9
                           obtain ⟨HB9, HQ9⟩ := pushed9 _ HO.out HB.out HQ.out hg9
                           have HO9 := hide ho9
                           have q9 : w9.cell? ⟨q, 1, none⟩ = some (.int .u32 (v : Int)) := (by rw [cell_of_row _ _ _ _ _ _ HQ9.out]; rfl)
                           clear ho9 hg9)
              go_roundw
              case rel => exact ⟨j, n2 + 1, B2 ++ [0], S ++ [0], by omega, by go_num, by go_num, HNB.out, HO9, HSTEP, HN3, HSN, HB9, HQ9⟩
              case measure => simp [intOf]
            · have z2 : (((1 : Nat) : Int) == 1) = true := rfl
              rw [if_pos rfl] at HSTEP
              go_wp2_with (at_builtin; refine push2 _ rfl _ _ rfl w.heap.size (.slice va B2.length vc) B2 rfl (HO.out.below ((Below.refl wr.heap.size wr).alloc (Nat.le_refl _) _)) ⟨wr.heap.size, 0, none⟩ 1 0 rfl (cell_one_new _ _ _ 0 _ rfl) (by have := HLEN.out; omega) (by simp; omega) ?_
                           intro g' c' w9 ho9 hg9
                           obtain ⟨HB9, HQ9⟩ := pushed9 _ HO.out HB.out HQ.out hg9
                           have HO9 := hide ho9
                           have q9 : w9.cell? ⟨q, 1, none⟩ = some (.int .u32 (v : Int)) := (by rw [cell_of_row _ _ _ _ _ _ HQ9.out]; rfl)
                           clear ho9 hg9)
              have ht9 : t < B2.length + 1 := by have := HLEN.out; have := HFT.out; omega
              have htl : (t : Int) < ((B2.length + 1 : Nat) : Int) := by omega
              have htl2 : (t : Int) < (B2.length : Int) + 1 := by omega
              have c9 := HO9.out.cell t ht9
              have f9 := HO9.out.frozen t
              subst hf0
              generalize (B2 ++ [0]).getD t 0 = x at c9 HSTEP
              have hval := u8_plus x 0
              rw [Nat.pow_zero] at hval HSTEP
              have HST := hide (HO9.out.store t (BitVec.ofNat 8 (x.toNat + 1)))
              rw [HSTEP.out] at HST
              have HQ8 : Hid (QB (w9.setCell ⟨g', t, none⟩ (.int .u8 ((BitVec.ofNat 8 (x.toNat + 1)).toNat : Int))) q l v) := (heap_setCell_other _ _ _ _ (fun e => qb_ne HO9.out HQ9.out e.symm)).trans HQ9.out
              have HB8 : Hid (Below w.heap.size w (w9.setCell ⟨g', t, none⟩ (.int .u8 ((BitVec.ofNat 8 (x.toNat + 1)).toNat : Int)))) := HB9.out.setCell HO9.out.lt'.1 _
              have HLL : Hid ((flush (packed [] (S ++ [1]))).length = B2.length + 1) := by
                show _ = _
                rw [← HSTEP.out, List.length_set, List.length_append]; rfl
              generalize (BitVec.ofNat 8 (x.toNat + 1)).toNat = y at hval HST HQ8 HB8
              have hval2 : ((x.toNat : Int) + 1) % 256 = (y : Int) := by simpa using hval
              go_region
              all_goals
                try rw [hval2]
                go_wp2_with fail
                go_roundw
                case rel => exact ⟨j, n2 + 1, _, S ++ [1], by omega, by go_num, by go_num, HNB.out, HST.out.1, rfl, HN3, HSN, HB8.out.drew, HQ8⟩
                case measure => simp [intOf]
          · rw [if_neg hf0] at HSTEP
            have z1 : ((f : Int) == 0) = false := by rw [beq_eq_false_iff_ne]; omega
            have hp : 0 < B2.length := by have := HLEN.out; have := HFT.out; omega
            obtain ⟨g', hg'⟩ : ∃ g', va = some ⟨g', 0, none⟩ := by
              rcases HO.out.2 with ⟨h1, h2⟩ | ⟨g, c', cur, h1, _⟩
              · simp only [Value.slice.injEq] at h1; omega
              · simp only [Value.slice.injEq] at h1; exact ⟨g, h1.1⟩
            subst hg'
            rcases (show d = 0 ∨ d = 1 by omega) with rfl | rfl
            · have z2 : (((0 : Nat) : Int) == 1) = false := rfl
              rw [if_neg (by omega)] at HSTEP
              go_wp2_with fail
              go_roundw
              case rel => exact ⟨j, n2 + 1, B2, S ++ [0], by omega, by go_num, by go_num, HNB.out, HO, HSTEP, HN3, HSN, HB, HQ⟩
              case measure => simp [intOf]
            · have z2 : (((1 : Nat) : Int) == 1) = true := rfl
              rw [if_pos rfl] at HSTEP
              have ht9 : t < B2.length := by have := HLEN.out; have := HFT.out; omega
              have htl : (t : Int) < (B2.length : Int) := by omega
              have c9 := HO.out.cell t ht9
              have f9 := HO.out.frozen t
              generalize B2.getD t 0 = x at c9 HSTEP
              have hval := u8_plus x f
              have HST := hide (HO.out.store t (BitVec.ofNat 8 (x.toNat + 2 ^ f)))
              rw [HSTEP.out] at HST
              have HQ8 : Hid (QB (wr.setCell ⟨g', t, none⟩ (.int .u8 ((BitVec.ofNat 8 (x.toNat + 2 ^ f)).toNat : Int))) q l v) := (heap_setCell_other _ _ _ _ (fun e => qb_ne HO.out HQ.out e.symm)).trans HQ.out
              have HB8 : Hid (Below w.heap.size w (wr.setCell ⟨g', t, none⟩ (.int .u8 ((BitVec.ofNat 8 (x.toNat + 2 ^ f)).toNat : Int)))) := HB.out.setCell HO.out.lt'.1 _
              generalize (BitVec.ofNat 8 (x.toNat + 2 ^ f)).toNat = y at hval HST HQ8 HB8
              go_wp2_with fail
              go_region
              all_goals
                try rw [hval]
                go_wp2_with fail
                go_roundw
                case rel => exact ⟨j, n2 + 1, _, S ++ [1], by omega, by go_num, by go_num, HNB.out, HST.out.1, rfl, HN3, HSN, HB8.out.drew, HQ8⟩
                case measure => simp [intOf]
        · have hm00 : m = 0 := by omega
          subst hm00
          have e0 : ((0 : Nat) : Int) - 1 = -1 := rfl
          rw [e0]
          have HFIN : Hid (S = bitsOf cs (text.take (k + 1))) := by
            show _ = _
            rw [HNX.out, HS.out, Nat.sub_zero, List.take_of_length_le (by rw [wbits_len]; exact Nat.le_refl _)]
          go_wp2_with fail
          go_roundw
          case rel => exact ⟨k + 1, n2, B2, by omega, by go_num, rfl, HO, by rw [← HFIN.out]; exact HB2, by rw [← HFIN.out]; exact HN2, HB⟩
          case measure => simp [intOf]; omega
    · have h0 : k = tl := by omega
      subst h0
      rw [List.take_of_length_le (by rw [HR.out.1]; exact Nat.le_refl _)] at HBB
      have hki : ¬ (k : Int) < (k : Int) := by omega
      obtain ⟨a9, c9, hv9⟩ := HO.out.shape
      subst hv9
      go_wp2_with fail
      go_ret
      exact ⟨_, rfl, by rw [← HBB.out]; exact HO.out, HB.out⟩
end Go.Proofs.Ytalnhhpcncjflaa.Huff
