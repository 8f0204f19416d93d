/-
  The statements' helpers over counts: bent, used, limited, kraft.
-/
import Derived.Test.YtalnhhpcncjflaaHuffS6
namespace Go.Proofs.Ytalnhhpcncjflaa.Pm
open Go.ChangeShapes Go.WideShapes Go.ChangeAt Go.RowKit
open Go.Proofs.Ytalnhhpcncjflaa.Base
set_option linter.unusedVariables false
/-- A count that may be. -/
def bend (c : Int) : Int := if c.tmod 1073741824 < 0 then -(c.tmod 1073741824) else c.tmod 1073741824
theorem tmod_in (c : Int) : -1073741824 < c.tmod 1073741824 ∧ c.tmod 1073741824 < 1073741824 := by
  have h1 := Int.tmod_lt_of_pos c (b := 1073741824) (by decide)
  have h2 := Int.tmod_lt_of_pos (-c) (b := 1073741824) (by decide)
  rw [Int.neg_tmod] at h2
  exact ⟨by omega, h1⟩
theorem bend_in (c : Int) : 0 ≤ bend c ∧ bend c ≤ 1073741823 := by
  have := tmod_in c
  unfold bend
  split <;> omega
def bentOf (xs : List Int) : List Int := (xs.take 256).map bend
theorem bentOf_len (xs : List Int) : (bentOf xs).length = min 256 xs.length := by simp [bentOf]
theorem bentOf_in (xs : List Int) : Huff.allIn 1099511627776 (bentOf xs) = true := by
  unfold Huff.allIn bentOf
  rw [List.all_eq_true]
  intro x hx
  obtain ⟨c, _, rfl⟩ := List.mem_map.1 hx
  have := bend_in c
  rw [decide_eq_true_iff]; omega
def bentTo (xs : List Int) (k : Nat) : List Int := (xs.take k).map bend
theorem bentTo_add (xs : List Int) (k : Nat) (h : k < xs.length) : bentTo xs (k + 1) = bentTo xs k ++ [bend (xs.getD k 0)] := by
  unfold bentTo
  have e : xs.getD k 0 = xs[k] := by rw [List.getD_eq_getElem?_getD, List.getElem?_eq_getElem h]; rfl
  rw [List.take_succ_eq_append_getElem h, List.map_append, e]; rfl
theorem infoL : (Try.prog.info? 2).map (fun i => (i.zero, i.size, i.bytes)) = some (some (.int .i64 0), 1, 8) := by kernel_rfl
/-- An own row of counts. -/
def OwnJ (w : World) (base : Nat) (v : Value) (xs : List Int) : Prop := w.ownsRow base 2 1 v xs.length (ivals xs)
theorem OwnJ.rd {w : World} {base : Nat} {a : Option Addr} {n c : Nat} {xs : List Int} (h : OwnJ w base (.slice a n c) xs) (hl : xs.length ≤ 17592186044416) : RdI w a n xs ∧ (a = none → n = 0) := by
  rcases h.2 with ⟨h1, h2⟩ | ⟨g, cap, cur, h1, h2, h3, h4, h5, h6, h7⟩
  · simp only [Value.slice.injEq] at h1
    obtain ⟨rfl, rfl, rfl⟩ := h1
    exact ⟨⟨h2, by omega, fun h => absurd h (by omega)⟩, fun _ => rfl⟩
  · have hc := World.ownsRow.cells h (g := g) (by rw [h1]; rfl)
    have hlt := (World.ownsRow.lt h g (by rw [h1]; rfl)).2
    simp only [Value.slice.injEq] at h1
    obtain ⟨rfl, rfl, rfl⟩ := h1
    refine ⟨⟨rfl, hl, fun hp => ⟨g, 0, rfl, hlt, fun i hi => ?_⟩⟩, fun h => by cases h⟩
    have := hc i _ (getD_ivals xs i hi)
    rwa [Addr.add_mid] at this
theorem own_addJ {w : World} {base : Nat} {v : Value} {xs : List Int} {x : Int} (h : w.ownsRow base 2 1 v (xs.length + 1) (ivals xs ++ [.int .i64 x])) : OwnJ w base v (xs ++ [x]) := by
  unfold OwnJ
  rw [List.length_append]
  have e : ivals (xs ++ [x]) = ivals xs ++ [.int .i64 x] := by simp [ivals, VI]
  rw [e]
  exact h
theorem ownJ_shape {w : World} {base : Nat} {v : Value} {xs : List Int} (h : OwnJ w base v xs) : ∃ a c, v = .slice a xs.length c := by
  rcases h.2 with ⟨h1, h2⟩ | ⟨g, c, cur, h1, _⟩
  · exact ⟨none, 0, by rw [h1, h2]⟩
  · exact ⟨_, c, h1⟩
set_option maxHeartbeats 2000000 in
set_option maxRecDepth 100000 in
theorem bent_any (a : Option Addr) (len cap : Nat) (xs : List Int) (w : World) (hr : RdI w a len xs) :
    Calls Try.prog 9 #[.slice a len cap] w fun e w' => ∃ v, e = .returned v ∧ OwnJ w' w.heap.size v (bentOf xs) ∧ Below w.heap.size w w' := by
  obtain ⟨i0, hi, hz0, hz1, hz2⟩ := info_of infoL
  have HL := hide hr.1
  have HC := hide hr.2.2
  have hm := hr.2.1
  clear hr
  have hzc : (Value.int .i64 0).cells.size = 1 := rfl
  go_enter Try.func9, Try.ntmps9
  go_wp2_with fail
  go_loopw [3, 4] (fun r i wr => ∃ k : Nat, k ≤ len ∧ k ≤ 256 ∧ i = .int .i64 (k : Int) ∧ Hid (OwnJ wr w.heap.size r (bentTo xs k)) ∧ Hid (Below w.heap.size w wr)) (fun _ i _ => 256 - (intOf i).toNat)
  case atStart => exact ⟨0, Nat.zero_le _, Nat.zero_le _, rfl, World.ownsRow_nil _ _ _ _, Below.refl _ _⟩
  case round =>
    obtain ⟨k, hk, hk2, rfl, HO, HB⟩ := hrel
    by_cases hlt : k < len ∧ k < 256
    · obtain ⟨hl1, hl2⟩ := hlt
      obtain ⟨b1, o1, rfl, hb1, hc1⟩ := HC.out (by omega)
      have g1 := hc1 k hl1
      rw [← HB.out.cell (p := ⟨b1, o1 + k, none⟩) hb1] at g1
      have HAD := hide (bentTo_add xs k (by rw [HL.out]; exact hl1))
      have hki : (k : Int) < (len : Int) := by omega
      have hki2 : (k : Int) < 256 := by omega
      generalize xs.getD k 0 = x at g1 HAD
      have hti := tmod_in x
      have HBE : Hid (bend x = if x.tmod 1073741824 < 0 then -(x.tmod 1073741824) else x.tmod 1073741824) := rfl
      obtain ⟨t, ht⟩ : ∃ t, x.tmod 1073741824 = t := ⟨_, rfl⟩
      rw [ht] at hti HBE
      obtain ⟨t1, t2⟩ := hti
      have HBL : Hid ((bentTo xs k).length = k) := by show _ = _; unfold bentTo; rw [List.length_map, List.length_take, HL.out]; omega
      have HOR : Hid (wr.ownsRow w.heap.size 2 1 u3 (bentTo xs k).length (ivals (bentTo xs k))) := HO.out
      have hs : w.heap.size ≤ wr.heap.size := HB.out.size
      generalize bentTo xs k = ys at HOR HAD HBL
      clear hc1
      by_cases h0 : t < 0
      · have HBX : Hid (bend x = -t) := by show _ = _; rw [HBE.out, if_pos h0]
        obtain ⟨y, hy⟩ : ∃ y, -t = y := ⟨_, rfl⟩
        have hy2 : IntKind.i64.wrap (-t) = y := by rw [IntKind.wrap_i64]; omega
        rw [hy] at HBX
        go_wp2_with (first
          | (refine wpList_append_own _ rfl (.tmp 25) (.tmp 27) 22 rfl w.heap.size 2 i0 (.int .i64 0) 1 8 Try.underlying22 hi hz0 hz1 hz2 hzc (by omega) u3 ys.length (ivals ys) rfl (HOR.out.alloc _) ⟨wr.heap.size, 0, none⟩ 1 1 [.int .i64 y] rfl rfl (fun j u h => new_one wr _ _ j u h) (by intro u hu; simp at hu; subst hu; rfl) (by have := HBL.out; unfold maxLen; omega) (by have := HBL.out; omega) (by simp; omega) ?_
             intro v9 w9 hown9 hg9 _))
        have HO9 : Hid (OwnJ w9 w.heap.size v9 (bentTo xs (k + 1))) := by rw [HAD.out, HBX.out]; exact own_addJ hown9
        have HB9 : Hid (Below w.heap.size w w9) := (HB.out.alloc hs _).grown hg9 (by simp; omega) (fun i e => (World.ownsRow.lt HOR.out i e).1)
        go_roundw
        case rel => exact ⟨k + 1, by omega, by omega, by go_num, HO9, HB9⟩
        case measure => simp [intOf]; omega
      · have HBX : Hid (bend x = t) := by show _ = _; rw [HBE.out, if_neg h0]
        go_wp2_with (first
          | (refine wpList_append_own _ rfl (.tmp 25) (.tmp 27) 22 rfl w.heap.size 2 i0 (.int .i64 0) 1 8 Try.underlying22 hi hz0 hz1 hz2 hzc (by omega) u3 ys.length (ivals ys) rfl (HOR.out.alloc _) ⟨wr.heap.size, 0, none⟩ 1 1 [.int .i64 t] rfl rfl (fun j u h => new_one wr _ _ j u h) (by intro u hu; simp at hu; subst hu; rfl) (by have := HBL.out; unfold maxLen; omega) (by have := HBL.out; omega) (by simp; omega) ?_
             intro v9 w9 hown9 hg9 _))
        have HO9 : Hid (OwnJ w9 w.heap.size v9 (bentTo xs (k + 1))) := by rw [HAD.out, HBX.out]; exact own_addJ hown9
        have HB9 : Hid (Below w.heap.size w w9) := (HB.out.alloc hs _).grown hg9 (by simp; omega) (fun i e => (World.ownsRow.lt HOR.out i e).1)
        go_roundw
        case rel => exact ⟨k + 1, by omega, by omega, by go_num, HO9, HB9⟩
        case measure => simp [intOf]; omega
    · have HE : Hid (bentOf xs = bentTo xs k) := by
        show _ = _
        unfold bentOf bentTo
        rcases Nat.lt_or_ge k 256 with h | h
        · rw [List.take_of_length_le (by rw [HL.out]; omega), List.take_of_length_le (by rw [HL.out]; omega)]
        · rw [show k = 256 by omega]
      rcases Nat.lt_or_ge k len with h | h
      · have g1 : decide ((k : Int) < (len : Int)) = true := by rw [decide_eq_true_iff]; omega
        have g2 : decide ((k : Int) < 256) = false := by rw [decide_eq_false_iff_not]; omega
        have hki : (k : Int) < (len : Int) := by omega
        have hki2 : ¬ (k : Int) < 256 := by omega
        go_wp2_with fail
        go_ret
        exact ⟨_, rfl, by rw [HE.out]; exact HO.out, HB.out⟩
      · have g1 : decide ((k : Int) < (len : Int)) = false := by rw [decide_eq_false_iff_not]; omega
        have hki : ¬ (k : Int) < (len : Int) := by omega
        go_wp2_with fail
        go_ret
        exact ⟨_, rfl, by rw [HE.out]; exact HO.out, HB.out⟩
set_option maxHeartbeats 1000000 in
theorem used_any (a : Option Addr) (len cap : Nat) (cs : List Int) (w : World) (hr : RdI w a len cs) :
    Calls Try.prog 10 #[.slice a len cap] w fun e w' => e = .returned (.int .i64 ((symsTo cs len).length : Nat)) ∧ w' = w := by
  obtain ⟨h1, hm, h3⟩ := hr
  have HC := hide h3
  clear h3 h1
  go_enter Try.func10, Try.ntmps10
  go_wp2_with fail
  go_loopw [3, 4] (fun r i wr => ∃ k q : Nat, k ≤ len ∧ q ≤ k ∧ i = .int .i64 (k : Int) ∧ r = .int .i64 (q : Int) ∧ Hid ((symsTo cs k).length = q) ∧ wr = w) (fun _ i _ => len - (intOf i).toNat)
  case atStart => exact ⟨0, 0, Nat.zero_le _, Nat.zero_le _, rfl, rfl, rfl, rfl⟩
  case round =>
    obtain ⟨k, q, hk, hqk, rfl, rfl, HQ, rfl⟩ := hrel
    by_cases hlt : k < len
    · obtain ⟨b1, o1, rfl, hb1, hc1⟩ := HC.out (by omega)
      have g1 := hc1 k hlt
      have HAD := hide (fun h => symsTo_add cs k h)
      have HSK := hide (fun h => symsTo_skip cs k h)
      have hki : (k : Int) < (len : Int) := by omega
      generalize cs.getD k 0 = x at g1 HAD HSK
      clear hc1
      by_cases hx : 0 < x
      · have HN : Hid ((symsTo cs (k + 1)).length = q + 1) := by show _ = _; rw [HAD.out hx, List.length_append, HQ.out]; rfl
        go_wp2_with fail
        go_roundw
        case rel => exact ⟨k + 1, q + 1, by omega, by omega, by go_num, by go_num, HN, by first | rfl | trivial⟩
        case measure => simp [intOf]; omega
      · have HN : Hid ((symsTo cs (k + 1)).length = q) := by show _ = _; rw [HSK.out hx, HQ.out]
        go_wp2_with fail
        go_roundw
        case rel => exact ⟨k + 1, q, by omega, by omega, by go_num, rfl, HN, by first | rfl | trivial⟩
        case measure => simp [intOf]; omega
    · obtain rfl : k = len := by omega
      have hki : ¬ (k : Int) < (k : Int) := by omega
      go_wp2_with fail
      go_ret
      exact ⟨ret_int (by rw [HQ.out]), rfl⟩
theorem pow_i (l P : Nat) (h : 2 ^ l = P) (hb : P ≤ 4294967296) : wrap64 ((2 : Int) ^ l) = (P : Int) := by
  have : (2 : Int) ^ l = (P : Int) := by rw [← h]; simp
  rw [this]; unfold wrap64; omega
set_option maxHeartbeats 1000000 in
theorem limited_any (x : Int) (n : Nat) (w : World) (hn : n ≤ 256) :
    Calls Try.prog 11 #[.int .i64 x, .int .i64 (n : Int)] w fun e w' => ∃ l : Nat, e = .returned (.int .i64 (l : Int)) ∧ 1 ≤ l ∧ l ≤ 15 ∧ n ≤ 2 ^ l ∧ w' = w := by
  have h1 := Int.tmod_lt_of_pos x (b := 15) (by decide)
  have h2 := Int.tmod_lt_of_pos (-x) (b := 15) (by decide)
  rw [Int.neg_tmod] at h2
  obtain ⟨t, ht⟩ : ∃ t, x.tmod 15 = t := ⟨_, rfl⟩
  rw [ht] at h1 h2
  have h3 : -15 < t := by omega
  clear h2
  by_cases h0 : t < 0
  · obtain ⟨l0, hl0⟩ : ∃ l0 : Nat, t + 15 + 1 = (l0 : Int) := ⟨(t + 15 + 1).toNat, by omega⟩
    have HL0 : Hid (1 ≤ l0 ∧ l0 ≤ 15) := by show _ ∧ _; omega
    go_enter Try.func11, Try.ntmps11
    go_wp2_with fail
    clear hl0 h1 h3 h0 ht
    go_loop [5] (fun r => ∃ l : Nat, 1 ≤ l ∧ l ≤ 15 ∧ r = .int .i64 (l : Int)) (fun r => 15 - (intOf r).toNat)
    case atStart => exact ⟨l0, HL0.out.1, HL0.out.2, by first | rfl | (congr 1; omega)⟩
    case round =>
      obtain ⟨l, hl1, hl2, rfl⟩ := hrel
      obtain ⟨P, hP⟩ : ∃ P, 2 ^ l = P := ⟨_, rfl⟩
      have hPb : 2 ^ l ≤ 2 ^ 15 := Nat.pow_le_pow_right (by decide) hl2
      rw [hP] at hPb
      have hw := pow_i l P hP (by omega)
      by_cases hlt : P < n
      · have hlti : (P : Int) < (n : Int) := by omega
        have hl8 : l < 8 := Nat.lt_of_not_le fun h => by
          have : 2 ^ 8 ≤ 2 ^ l := Nat.pow_le_pow_right (by decide) h
          omega
        have HLL : Hid (l + 1 ≤ 15) := by show _ ≤ _; omega
        clear hP
        go_wp2_with fail
        go_round
        case rel => exact ⟨l + 1, by omega, HLL.out, by go_num⟩
        case measure => simp [intOf]; omega
      · have hlti : ¬ (P : Int) < (n : Int) := by omega
        have HP := hide hP
        clear hP
        go_wp2_with fail
        go_ret
        exact ⟨l, rfl, hl1, hl2, by rw [HP.out]; omega, rfl⟩
  · obtain ⟨l0, hl0⟩ : ∃ l0 : Nat, t + 1 = (l0 : Int) := ⟨(t + 1).toNat, by omega⟩
    have HL0 : Hid (1 ≤ l0 ∧ l0 ≤ 15) := by show _ ∧ _; omega
    go_enter Try.func11, Try.ntmps11
    go_wp2_with fail
    clear hl0 h1 h3 h0 ht
    go_loop [5] (fun r => ∃ l : Nat, 1 ≤ l ∧ l ≤ 15 ∧ r = .int .i64 (l : Int)) (fun r => 15 - (intOf r).toNat)
    case atStart => exact ⟨l0, HL0.out.1, HL0.out.2, by first | rfl | (congr 1; omega)⟩
    case round =>
      obtain ⟨l, hl1, hl2, rfl⟩ := hrel
      obtain ⟨P, hP⟩ : ∃ P, 2 ^ l = P := ⟨_, rfl⟩
      have hPb : 2 ^ l ≤ 2 ^ 15 := Nat.pow_le_pow_right (by decide) hl2
      rw [hP] at hPb
      have hw := pow_i l P hP (by omega)
      by_cases hlt : P < n
      · have hlti : (P : Int) < (n : Int) := by omega
        have hl8 : l < 8 := Nat.lt_of_not_le fun h => by
          have : 2 ^ 8 ≤ 2 ^ l := Nat.pow_le_pow_right (by decide) h
          omega
        have HLL : Hid (l + 1 ≤ 15) := by show _ ≤ _; omega
        clear hP
        go_wp2_with fail
        go_round
        case rel => exact ⟨l + 1, by omega, HLL.out, by go_num⟩
        case measure => simp [intOf]; omega
      · have hlti : ¬ (P : Int) < (n : Int) := by omega
        have HP := hide hP
        clear hP
        go_wp2_with fail
        go_ret
        exact ⟨l, rfl, hl1, hl2, by rw [HP.out]; omega, rfl⟩
/-- The share of a length, in parts of 1 / 2^15. -/
def share (x : Int) : Nat := if 0 < x ∧ x ≤ 15 then 2 ^ (15 - x.toNat) else 0
def kraftTo (xs : List Int) (k : Nat) : Nat := ((xs.take k).map share).sum
theorem kraftTo_add (xs : List Int) (k : Nat) (h : k < xs.length) : kraftTo xs (k + 1) = kraftTo xs k + share (xs.getD k 0) := by
  unfold kraftTo
  have e : xs.getD k 0 = xs[k] := by rw [List.getD_eq_getElem?_getD, List.getElem?_eq_getElem h]; rfl
  rw [List.take_succ_eq_append_getElem h, List.map_append, List.sum_append, e]; simp
theorem share_le (x : Int) : share x ≤ 16384 := by
  unfold share
  split
  · have : 2 ^ (15 - x.toNat) ≤ 2 ^ 14 := Nat.pow_le_pow_right (by decide) (by omega)
    omega
  · omega
theorem kraftTo_le (xs : List Int) : ∀ k, k ≤ xs.length → kraftTo xs k ≤ k * 16384
  | 0, _ => by simp [kraftTo]
  | k + 1, h => by
    rw [kraftTo_add xs k (by omega)]
    have := kraftTo_le xs k (by omega)
    have := share_le (xs.getD k 0)
    omega
set_option maxHeartbeats 1000000 in
theorem kraft_any (a : Option Addr) (len cap : Nat) (xs : List Int) (w : World) (hr : RdI w a len xs) (hn : len ≤ 256) :
    Calls Try.prog 14 #[.slice a len cap] w fun e w' => e = .returned (.int .i64 ((kraftTo xs len : Nat) : Int)) ∧ w' = w := by
  obtain ⟨h1, hm, h3⟩ := hr
  have HL := hide h1
  have HC := hide h3
  clear h3 h1
  go_enter Try.func14, Try.ntmps14
  go_wp2_with fail
  go_loopw [3, 4] (fun r i wr => ∃ k q : Nat, k ≤ len ∧ q ≤ 5000000 ∧ i = .int .i64 (k : Int) ∧ r = .int .i64 (q : Int) ∧ Hid (kraftTo xs k = q) ∧ wr = w) (fun _ i _ => len - (intOf i).toNat)
  case atStart => exact ⟨0, 0, Nat.zero_le _, Nat.zero_le _, rfl, rfl, rfl, rfl⟩
  case round =>
    obtain ⟨k, q, hk, hqk, rfl, rfl, HQ, rfl⟩ := hrel
    by_cases hlt : k < len
    · obtain ⟨b1, o1, rfl, hb1, hc1⟩ := HC.out (by omega)
      have g1 := hc1 k hlt
      have HAD := hide (kraftTo_add xs k (by rw [HL.out]; exact hlt))
      have HLE := hide (kraftTo_le xs (k + 1) (by rw [HL.out]; omega))
      have hki : (k : Int) < (len : Int) := by omega
      generalize xs.getD k 0 = x at g1 HAD
      rw [HQ.out] at HAD
      clear hc1
      by_cases hx : 0 < x ∧ x ≤ 15
      · obtain ⟨x0, x1⟩ := hx
        obtain ⟨l, hl⟩ : ∃ l : Nat, 15 - x = (l : Int) := ⟨(15 - x).toNat, by omega⟩
        obtain ⟨P, hP⟩ : ∃ P, 2 ^ l = P := ⟨_, rfl⟩
        have hPb : 2 ^ l ≤ 2 ^ 14 := Nat.pow_le_pow_right (by decide) (by omega)
        rw [hP] at hPb
        have hw := pow_i l P hP (by omega)
        have HN : Hid (kraftTo xs (k + 1) = q + P) := by
          show _ = _
          rw [HAD.out]
          unfold share
          rw [if_pos ⟨x0, x1⟩, show 15 - x.toNat = l by omega, hP]
        have HLE2 : Hid (q + P ≤ 5000000) := by
          have := HLE.out
          rw [HN.out] at this
          show _ ≤ _
          omega
        clear hP
        go_wp2_with fail
        go_roundw
        case rel => exact ⟨k + 1, q + P, by omega, HLE2.out, by go_num, by go_num, HN, by first | rfl | trivial⟩
        case measure => simp [intOf]; omega
      · have HN : Hid (kraftTo xs (k + 1) = q) := by
          show _ = _
          rw [HAD.out]
          unfold share
          rw [if_neg hx]; omega
        rcases Int.lt_or_le 0 x with h0 | h0
        · have h1 : ¬ x ≤ 15 := by omega
          have g2 : decide (x ≤ 15) = false := by rw [decide_eq_false_iff_not]; exact h1
          clear hx
          go_wp2_with fail
          go_roundw
          case rel => exact ⟨k + 1, q, by omega, hqk, by go_num, rfl, HN, by first | rfl | trivial⟩
          case measure => simp [intOf]; omega
        · have h1 : ¬ 0 < x := by omega
          have g2 : decide (0 < x) = false := by rw [decide_eq_false_iff_not]; exact h1
          clear hx
          go_wp2_with fail
          go_roundw
          case rel => exact ⟨k + 1, q, by omega, hqk, by go_num, rfl, HN, by first | rfl | trivial⟩
          case measure => simp [intOf]; omega
    · obtain rfl : k = len := by omega
      have hki : ¬ (k : Int) < (k : Int) := by omega
      go_wp2_with fail
      go_ret
      exact ⟨ret_int (by rw [HQ.out]), rfl⟩
end Go.Proofs.Ytalnhhpcncjflaa.Pm
