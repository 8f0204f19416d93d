/-
  putWords: all words.
-/
import Derived.Test.YthdblnfohbldcaaGreatHuffE3
import Derived.Test.YthdblnfohbldcaaGreatHuffM2
namespace Go.Proofs.YthdblnfohbldcaaGreat.Huff
open Go.ChangeShapes Go.WideShapes Go.ChangeAt Go.RowKit
open Go.Proofs.YthdblnfohbldcaaGreat.Base
set_option linter.unusedVariables false
/-- The bits of a word, the highest first. -/
def wbits (l v : Nat) : List Nat := (List.range l).map fun i => v / 2 ^ (l - 1 - i) % 2
def bitsOf (cs : List (Int × Nat)) (text : List (BitVec 8)) : List Nat := (text.map fun c => wbits (cs.getD c.toNat (0, 0)).1.toNat (cs.getD c.toNat (0, 0)).2).flatten
/-- What is left is filled up with zeros. -/
def flush (s : List (BitVec 8) × Nat × Nat) : List (BitVec 8) := if s.2.2 = 0 then s.1 else s.1 ++ [BitVec.ofNat 8 s.2.1]
def packed (B : List (BitVec 8)) (S : List Nat) : List (BitVec 8) × Nat × Nat := S.foldl bstep (B, 0, 0)
def SOk (s : List (BitVec 8) × Nat × Nat) : Prop := s.2.2 < 8 ∧ s.2.1 < 2 ^ s.2.2
theorem sok_step {s : List (BitVec 8) × Nat × Nat} (h : SOk s) (bit : Nat) (hb : bit ≤ 1) : SOk (bstep s bit) := by
  obtain ⟨h1, h2⟩ := h
  unfold bstep
  split
  · exact ⟨Nat.zero_lt_succ 7, Nat.zero_lt_one⟩
  · refine ⟨by simp only []; omega, ?_⟩
    simp only []
    rw [Nat.pow_succ]
    have : bit * 2 ^ s.2.2 ≤ 2 ^ s.2.2 := by
      have := Nat.mul_le_mul_right (2 ^ s.2.2) hb
      omega
    omega
theorem len_step (s : List (BitVec 8) × Nat × Nat) (bit : Nat) : (bstep s bit).1.length ≤ s.1.length + 1 := by
  unfold bstep
  split <;> simp
theorem sok_all : ∀ (S : List Nat) (s : List (BitVec 8) × Nat × Nat), SOk s → (∀ b ∈ S, b ≤ 1) → SOk (S.foldl bstep s)
  | [], s, h, _ => h
  | b :: S, s, h, hb => sok_all S _ (sok_step h b (hb b (List.mem_cons_self ..))) fun c hc => hb c (List.mem_cons_of_mem _ hc)
theorem len_all : ∀ (S : List Nat) (s : List (BitVec 8) × Nat × Nat), (S.foldl bstep s).1.length ≤ s.1.length + S.length
  | [], s => by simp
  | b :: S, s => by
    have h1 := len_all S (bstep s b)
    have h2 := len_step s b
    simp only [List.foldl_cons, List.length_cons]
    omega
theorem wbits_le (l v : Nat) : ∀ b ∈ wbits l v, b ≤ 1 := by
  intro b hb
  obtain ⟨i, _, rfl⟩ := List.mem_map.1 hb
  omega
theorem wbits_len (l v : Nat) : (wbits l v).length = l := by simp [wbits]
theorem wbits_take (l v m : Nat) (h : m < l) : (wbits l v).take (l - (m + 1) + 1) = (wbits l v).take (l - (m + 1)) ++ [v / 2 ^ m % 2] := by
  have hk : l - (m + 1) < (wbits l v).length := by rw [wbits_len]; omega
  rw [List.take_succ_eq_append_getElem hk]
  congr 2
  simp only [wbits, List.getElem_map, List.getElem_range]
  rw [show l - 1 - (l - (m + 1)) = m by omega]
theorem bitsOf_le (cs : List (Int × Nat)) (text : List (BitVec 8)) : ∀ b ∈ bitsOf cs text, b ≤ 1 := by
  intro b hb
  obtain ⟨l, hl, hb⟩ := List.mem_flatten.1 hb
  obtain ⟨c, _, rfl⟩ := List.mem_map.1 hl
  exact wbits_le _ _ b hb
theorem bitsOf_next (cs : List (Int × Nat)) (text : List (BitVec 8)) (k : Nat) (h : k < text.length) : bitsOf cs (text.take (k + 1)) = bitsOf cs (text.take k) ++ wbits (cs.getD (text.getD k 0).toNat (0, 0)).1.toNat (cs.getD (text.getD k 0).toNat (0, 0)).2 := by
  unfold bitsOf
  rw [getD_take text k h]
  simp
def LenOk (cs : List (Int × Nat)) : Prop := cs.length = 256 ∧ ∀ k, k < 256 → 0 ≤ (cs.getD k (0, 0)).1 ∧ (cs.getD k (0, 0)).1 ≤ 15 ∧ (cs.getD k (0, 0)).2 < 4294967296
theorem bitsOf_len (cs : List (Int × Nat)) (h : LenOk cs) : ∀ text : List (BitVec 8), (bitsOf cs text).length ≤ 15 * text.length
  | [] => by simp [bitsOf]
  | c :: text => by
    have h1 := bitsOf_len cs h text
    have h2 := (h.2 c.toNat (lt8 c)).2.1
    unfold bitsOf at h1 ⊢
    simp only [List.map_cons, List.flatten_cons, List.length_append, wbits_len, List.length_cons]
    omega
theorem bitsOf_sub (cs : List (Int × Nat)) (h : LenOk cs) (text : List (BitVec 8)) (k : Nat) (ht : text.length ≤ 65536) : (bitsOf cs (text.take k)).length ≤ 983040 := by
  have := bitsOf_len cs h (text.take k)
  rw [List.length_take] at this
  omega
/-- The closure's variables hold the state s, and what lay below is as it was. -/
def StAt (W : World) (bg bf bo : Nat) (w : World) (s : List (BitVec 8) × Nat × Nat) : Prop := Bx w W.heap.size bg bf bo s.1 s.2.1 s.2.2 ∧ Below W.heap.size W w ∧ SOk s
theorem putBit_st (bit : Nat) (bg bf bo : Nat) (s : List (BitVec 8) × Nat × Nat) (W w : World) (hbit : bit ≤ 1) (hB : s.1.length + 1 ≤ 140737488355328) (h : StAt W bg bf bo w s) :
    Calls Tryz.prog 100 #[.int .u32 (bit : Int), .pointer (some ⟨bg, 0, none⟩), .pointer (some ⟨bf, 0, none⟩), .pointer (some ⟨bo, 0, none⟩)] w fun e w' => e = .returned (.tuple #[]) ∧ StAt W bg bf bo w' (bstep s bit) := by
  refine (putBit_any bit s.2.1 s.2.2 W.heap.size bg bf bo s.1 w hbit h.2.2.1 h.2.2.2 hB h.1).mono ?_
  rintro e w' ⟨rfl, h1, h2⟩
  exact ⟨rfl, h1, h.2.1.trans h2, sok_step h.2.2 bit hbit⟩
theorem st_start {W w : World} {gg c0 : Nat} {PB : List (BitVec 8)} (ho : Own w W.heap.size (.slice (some ⟨gg, 0, none⟩) PB.length c0) PB) (hbw : Below W.heap.size W w) :
    StAt W (w.heap.size + 1) (w.heap.size + 1 + 1) w.heap.size (((w.alloc (.cells #[.slice (some ⟨gg, 0, none⟩) PB.length c0] 24)).alloc (.cells #[.int .u8 0] 5)).alloc (.cells #[.int .i64 0] 3)) (PB, 0, 0) := by
  have hs := hbw.size
  have hg := World.ownsRow.lt ho gg rfl
  have hB : Below w.heap.size w (((w.alloc (.cells #[.slice (some ⟨gg, 0, none⟩) PB.length c0] 24)).alloc (.cells #[.int .u8 0] 5)).alloc (.cells #[.int .i64 0] 3)) :=
    (((Below.refl _ _).alloc (by simp) _).alloc (by simp) _).alloc (by simp; omega) _
  refine ⟨⟨?_, ?_, ⟨gg, c0, ?_, ho.below hB, by omega, by omega, by omega⟩, ?_, ?_, ?_, ?_, ?_, ?_, by omega, by omega, by omega⟩, hbw.trans (hB.mono hs), ⟨Nat.zero_lt_succ 7, Nat.zero_lt_one⟩⟩
  all_goals first | (simp [go_sem]; done) | (simp [go_sem]; omega)
theorem and1_u32 (v j : Nat) (hv : v < 4294967296) : bits .and .u32 ((v : Int) / 2 ^ j) 1 = ((v / 2 ^ j % 2 : Nat) : Int) := by
  have e : ((v : Int) / 2 ^ j) = ((v / 2 ^ j : Nat) : Int) := by simp
  have h : v / 2 ^ j < 4294967296 := Nat.lt_of_le_of_lt (Nat.div_le_self _ _) hv
  rw [e]
  generalize v / 2 ^ j = s at h
  have e1 : (1 : Int) = ((1 : Nat) : Int) := rfl
  rw [e1, u32_and_nat s 1 h (by omega)]
  congr 1
  exact Nat.and_one_is_mod s
def fLeft (w : World) (bf : Nat) : Nat := match w.cell? ⟨bf, 0, none⟩ with
  | some (.int _ x) => if x.toNat = 0 then 0 else 8 - x.toNat
  | _ => 0
theorem fleft_less {w w5 : World} {bf : Nat} {s : List (BitVec 8) × Nat × Nat} (h0 : 0 < s.2.2) (h8 : s.2.2 < 8) (h1 : w.cell? ⟨bf, 0, none⟩ = some (.int .i64 (s.2.2 : Int))) (h2 : w5.cell? ⟨bf, 0, none⟩ = some (.int .i64 ((bstep s 0).2.2 : Int))) : fLeft w5 bf < fLeft w bf := by
  unfold fLeft
  rw [h1, h2]
  simp only [Int.toNat_natCast]
  unfold bstep
  by_cases h : s.2.2 = 7
  · rw [if_pos h, h]; simp
  · rw [if_neg h]
    simp only []
    rw [if_neg (by omega), if_neg (by omega)]
    omega
theorem flush_zero {s : List (BitVec 8) × Nat × Nat} (h0 : 0 < s.2.2) : flush (bstep s 0) = flush s := by
  unfold flush bstep
  rw [if_neg (c := s.2.2 = 0) (by omega)]
  by_cases h : s.2.2 = 7
  · rw [if_pos h]; simp
  · rw [if_neg h]; simp
theorem len_zero {S : List (BitVec 8) × Nat × Nat} (s : List (BitVec 8) × Nat × Nat) (h0 : 0 < s.2.2) (h : s.1.length ≤ S.1.length ∨ s.2.2 = 0) : (bstep s 0).1.length ≤ S.1.length ∨ (bstep s 0).2.2 = 0 := by
  unfold bstep
  by_cases e : s.2.2 = 7
  · rw [if_pos e]; exact .inr rfl
  · rw [if_neg e]
    rcases h with h | h
    · exact .inl h
    · omega
set_option maxHeartbeats 2000000 in
set_option maxRecDepth 100000 in
theorem putWords_any (gg c0 : Nat) (PB text : List (BitVec 8)) (a : Option Addr) (tl tc : Nat) (bC gc cc : Nat) (cs : List (Int × Nat)) (W w : World)
    (ho : Own w W.heap.size (.slice (some ⟨gg, 0, none⟩) PB.length c0) PB) (hbw : Below W.heap.size W w) (hr : Rd W a tl text) (ht : tl ≤ 65536) (hc : OwnC W bC (.slice (some ⟨gc, 0, none⟩) 256 cc) cs) (hcs : LenOk cs) (hPB : PB.length ≤ 65536) :
    Calls Tryz.prog 55 #[.slice (some ⟨gg, 0, none⟩) PB.length c0, .slice a tl tc, .slice (some ⟨gc, 0, none⟩) 256 cc] w fun e w' => ∃ v, e = .returned v ∧ Own w' W.heap.size v (flush (packed PB (bitsOf cs text))) ∧ Below W.heap.size W w' := by
  have HO := hide ho
  have HBW := hide hbw
  have HR := hide hr
  have HC := hide hc
  have HCS := hide hcs
  clear ho hbw hr hc hcs
  have hmf : ∀ (fn : Fn) (first cap : Array Value) (w : World), (Instr.makeFunc fn first cap).run Tryz.prog w = .ok (.func fn first cap) w := fun _ _ _ _ => rfl
  go_enter Tryz.func55, Tryz.ntmps55
  go_wp2_with fail
  have HX := hide (st_start HO.out HBW.out)
  clear HO HBW hmf
  generalize (((w.alloc _).alloc _).alloc _) = W1 at HX ⊢
  generalize w.heap.size + 1 + 1 = bf at HX ⊢
  generalize w.heap.size + 1 = bg at HX ⊢
  generalize w.heap.size = bo at HX ⊢
  clear w
  go_loopw [16] (fun i wr => ∃ k : Nat, k ≤ tl ∧ i = .int .i64 (k : Int) ∧ Hid (StAt W bg bf bo wr (packed PB (bitsOf cs (text.take k))))) (fun i _ => tl - (intOf i).toNat)
  case atStart => exact ⟨0, by omega, rfl, HX⟩
  case round =>
    clear HX
    obtain ⟨k, hk, rfl, HX⟩ := hrel
    by_cases hlt : k < tl
    · have hki : (k : Int) < (tl : Int) := by omega
      obtain ⟨b1, o1, rfl, hb1, hc1⟩ := HR.out.2.2 (by omega)
      have g1 := hc1 k hlt
      rw [← HX.out.2.1.cell (p := ⟨b1, o1 + k, none⟩) hb1] at g1
      have HNX := hide (bitsOf_next cs text k (by rw [HR.out.1]; exact hlt))
      have HSUB := hide (bitsOf_sub cs HCS.out text k (by rw [HR.out.1]; exact ht))
      have HC8 := hide (HCS.out.2 (text.getD k 0).toNat (lt8 _))
      have HCC := hide (HC.out.cells HCS.out.1 (text.getD k 0).toNat (lt8 _))
      have HGC := hide (World.ownsRow.lt HC.out gc rfl).2
      generalize text.getD k 0 = c at g1 HNX HC8 HCC
      have hc8 := lt8 c
      generalize c.toNat = C at g1 HNX HC8 HCC hc8
      obtain ⟨⟨L, v⟩, hLv⟩ : ∃ Lv, cs.getD C (0, 0) = Lv := ⟨_, rfl⟩
      rw [hLv] at HNX HC8 HCC
      clear hLv c
      obtain ⟨l, rfl⟩ : ∃ l : Nat, L = (l : Int) := ⟨L.toNat, by have := HC8.out.1; simp only [] at this; omega⟩
      simp only [Int.toNat_natCast] at HNX HC8 HCC
      obtain ⟨s0, hs0⟩ : ∃ s0, packed PB (bitsOf cs (text.take k)) = s0 := ⟨_, rfl⟩
      have HLS : Hid (s0.1.length ≤ 1048576) := by
        show _ ≤ _
        have h1 := len_all (bitsOf cs (text.take k)) (PB, 0, 0)
        have h2 := HSUB.out
        rw [← hs0]; unfold packed; simp only [] at h1; omega
      have HNX2 : Hid (packed PB (bitsOf cs (text.take (k + 1))) = (wbits l v).foldl bstep s0) := by
        show _ = _
        rw [HNX.out]; unfold packed; rw [List.foldl_append]; unfold packed at hs0; rw [hs0]
      rw [hs0] at HX
      clear hs0 HNX HSUB hc1
      have g2 := HCC.out.1
      rw [← HX.out.2.1.cell (p := ⟨gc, C * 2, none⟩) HGC.out] at g2
      have hl15 : l ≤ 15 := by have := HC8.out.2.1; omega
      have hv : v < 4294967296 := HC8.out.2.2
      go_wp2_with fail
      have g3 := HCC.out.2
      have HG3 := hide g3
      clear g1 g2 g3
      go_loopw [12] (fun lf wy => ∃ m : Nat, m ≤ l ∧ lf = .int .i64 (m : Int) ∧ Hid (StAt W bg bf bo wy (((wbits l v).take (l - m)).foldl bstep s0))) (fun lf _ => (intOf lf).toNat)
      case atStart => exact ⟨l, Nat.le_refl _, rfl, by rw [Nat.sub_self, List.take_zero]; exact HX⟩
      case round =>
        clear HX
        obtain ⟨m, hm, rfl, HX⟩ := hrel
        by_cases hm0 : 0 < m
        · obtain ⟨j, rfl⟩ : ∃ j, m = j + 1 := ⟨m - 1, by omega⟩
          have d0 : (0 : Int) < ((j + 1 : Nat) : Int) := by omega
          have e1 : ((j + 1 : Nat) : Int) - 1 = (j : Int) := by omega
          have g3 := HG3.out
          rw [← HX.out.2.1.cell (p := ⟨gc, C * 2 + 1, none⟩) HGC.out] at g3
          have HT : Hid (((wbits l v).take (l - j)).foldl bstep s0 = bstep (((wbits l v).take (l - (j + 1))).foldl bstep s0) (v / 2 ^ j % 2)) := by
            show _ = _
            have := wbits_take l v j (by omega)
            rw [show l - (j + 1) + 1 = l - j by omega] at this
            rw [this, List.foldl_append]; rfl
          have HLT : Hid ((((wbits l v).take (l - (j + 1))).foldl bstep s0).1.length + 1 ≤ 140737488355328) := by
            show _ ≤ _
            have h1 := len_all ((wbits l v).take (l - (j + 1))) s0
            have h2 := HLS.out
            rw [List.length_take, wbits_len] at h1
            omega
          generalize ((wbits l v).take (l - (j + 1))).foldl bstep s0 = s1 at HX HT HLT
          have HPB := hide (fun bit hb W1 h => putBit_st bit bg bf bo s1 W W1 hb HLT.out h)
          go_wp2_with fail
          rw [and1_u32 v j hv]
          refine (HPB.out _ (by omega) _ HX.out).mono ?_
          rintro e w5 ⟨rfl, hx5⟩
          have HX5 := hide hx5
          clear hx5 HX
          go_wp2_with fail
          go_roundw
          case rel => exact ⟨j, by omega, rfl, by rw [HT.out]; exact HX5⟩
          case measure => simp [intOf]
        · have h0 : m = 0 := by omega
          subst h0
          rw [Nat.sub_zero, List.take_of_length_le (by rw [wbits_len]; exact Nat.le_refl _)] at HX
          go_wp2_with fail
          go_roundw
          case rel => exact ⟨k + 1, by omega, by go_num, by rw [HNX2.out]; exact HX⟩
          case measure => simp [intOf]; omega
    · have h0 : k = tl := by omega
      subst h0
      rw [List.take_of_length_le (by rw [HR.out.1]; exact Nat.le_refl _)] at HX
      go_wp2_with fail
      have HLS : Hid ((packed PB (bitsOf cs text)).1.length ≤ 1048576) := by
        show _ ≤ _
        have h1 := len_all (bitsOf cs text) (PB, 0, 0)
        have h2 := bitsOf_len cs HCS.out text
        have h3 := HR.out.1
        unfold packed; simp only [] at h1; omega
      obtain ⟨S, hS⟩ : ∃ S, packed PB (bitsOf cs text) = S := ⟨_, rfl⟩
      rw [hS] at HX HLS
      have HSE := hide hS
      clear hS
      go_loopw [41] (fun _ wy => ∃ s, Hid (StAt W bg bf bo wy s) ∧ Hid (flush s = flush S) ∧ Hid (s.1.length ≤ S.1.length ∨ s.2.2 = 0)) (fun _ wy => fLeft wy bf)
      case atStart => exact ⟨S, HX, rfl, .inl (Nat.le_refl _)⟩
      case round =>
        clear HX
        obtain ⟨s, HX, HFS, HLE⟩ := hrel
        have g1 := HX.out.1.f
        by_cases hf0 : 0 < s.2.2
        · have d0 : (0 : Int) < (s.2.2 : Int) := by omega
          have HLN : Hid (s.1.length + 1 ≤ 140737488355328) := by
            show _ ≤ _
            have h1 := HLS.out
            rcases HLE.out with h | h <;> omega
          have HPB := hide (fun bit hb W1 h => putBit_st bit bg bf bo s W W1 hb HLN.out h)
          go_wp2_with fail
          refine (HPB.out 0 (by omega) _ HX.out).mono ?_
          rintro e w5 ⟨rfl, hx5⟩
          have HX5 := hide hx5
          have HM : Hid (fLeft w5 bf < fLeft wr bf) := fleft_less hf0 HX.out.2.2.1 g1 hx5.1.f
          clear hx5
          go_wp2_with fail
          go_roundw
          case rel => exact ⟨_, HX5, (flush_zero hf0).trans HFS.out, len_zero s hf0 HLE.out⟩
          case measure => exact HM.out
        · have h0 : s.2.2 = 0 := by omega
          rw [h0] at g1
          obtain ⟨g2, c2, h1, h2, _⟩ := HX.out.1.o
          have HO2 := hide h2
          clear h2
          go_wp2_with fail
          go_ret
          refine ⟨_, rfl, ?_, HX.out.2.1⟩
          rw [HSE.out, ← HFS.out, flush, if_pos h0]
          exact HO2.out
end Go.Proofs.YthdblnfohbldcaaGreat.Huff
