/-
  The statements' helpers over counts: bent, used, limited, kraft.
-/
import Derived.Test.YtalnhhpcncjflaaHuffSZ
namespace Go.Proofs.Ytalnhhpcncjflaa.Pm
open Go.ChangeShapes Go.WideShapes Go.ChangeAt Go.RowKit
open Go.Proofs.Ytalnhhpcncjflaa.Base
set_option linter.unusedVariables false
/-- A count that may be. -/
def bend (c : Int) : Int := if c.tmod 1073741824 < 0 then -(c.tmod 1073741824) else c.tmod 1073741824
theorem tmod_in (c : Int) : -1073741824 < c.tmod 1073741824 ∧ c.tmod 1073741824 < 1073741824 := by
  have h1 := Int.tmod_lt_of_pos c (b := 1073741824) (by decide)
  have h2 := Int.tmod_lt_of_pos (-c) (b := 1073741824) (by decide)
  rw [Int.neg_tmod] at h2
  exact ⟨by omega, h1⟩
theorem bend_in (c : Int) : 0 ≤ bend c ∧ bend c ≤ 1073741823 := by
  have := tmod_in c
  unfold bend
  split <;> omega
def bentOf (xs : List Int) : List Int := (xs.take 256).map bend
theorem bentOf_len (xs : List Int) : (bentOf xs).length = min 256 xs.length := by simp [bentOf]
theorem bentOf_in (xs : List Int) : Huff.allIn 1099511627776 (bentOf xs) = true := by
  unfold Huff.allIn bentOf
  rw [List.all_eq_true]
  intro x hx
  obtain ⟨c, _, rfl⟩ := List.mem_map.1 hx
  have := bend_in c
  rw [decide_eq_true_iff]; omega
def bentTo (xs : List Int) (k : Nat) : List Int := (xs.take k).map bend
theorem bentTo_add (xs : List Int) (k : Nat) (h : k < xs.length) : bentTo xs (k + 1) = bentTo xs k ++ [bend (xs.getD k 0)] := by
  unfold bentTo
  have e : xs.getD k 0 = xs[k] := by rw [List.getD_eq_getElem?_getD, List.getElem?_eq_getElem h]; rfl
  rw [List.take_succ_eq_append_getElem h, List.map_append, e]; rfl
theorem infoL : (Try.prog.info? 2).map (fun i => (i.zero, i.size, i.bytes)) = some (some (.int .i64 0), 1, 8) := by kernel_rfl
/-- An own row of counts. -/
def OwnJ (w : World) (base : Nat) (v : Value) (xs : List Int) : Prop := w.ownsRow base 2 1 v xs.length (ivals xs)
theorem OwnJ.rd {w : World} {base : Nat} {a : Option Addr} {n c : Nat} {xs : List Int} (h : OwnJ w base (.slice a n c) xs) (hl : xs.length ≤ 17592186044416) : RdI w a n xs ∧ (a = none → n = 0) := by
  rcases h.2 with ⟨h1, h2⟩ | ⟨g, cap, cur, h1, h2, h3, h4, h5, h6, h7⟩
  · simp only [Value.slice.injEq] at h1
    obtain ⟨rfl, rfl, rfl⟩ := h1
    exact ⟨⟨h2, by omega, fun h => absurd h (by omega)⟩, fun _ => rfl⟩
  · have hc := World.ownsRow.cells h (g := g) (by rw [h1]; rfl)
    have hlt := (World.ownsRow.lt h g (by rw [h1]; rfl)).2
    simp only [Value.slice.injEq] at h1
    obtain ⟨rfl, rfl, rfl⟩ := h1
    refine ⟨⟨rfl, hl, fun hp => ⟨g, 0, rfl, hlt, fun i hi => ?_⟩⟩, fun h => by cases h⟩
    have := hc i _ (getD_ivals xs i hi)
    rwa [Addr.add_mid] at this
theorem own_addJ {w : World} {base : Nat} {v : Value} {xs : List Int} {x : Int} (h : w.ownsRow base 2 1 v (xs.length + 1) (ivals xs ++ [.int .i64 x])) : OwnJ w base v (xs ++ [x]) := by
  unfold OwnJ
  rw [List.length_append]
  have e : ivals (xs ++ [x]) = ivals xs ++ [.int .i64 x] := by simp [ivals, VI]
  rw [e]
  exact h
theorem ownJ_shape {w : World} {base : Nat} {v : Value} {xs : List Int} (h : OwnJ w base v xs) : ∃ a c, v = .slice a xs.length c := by
  rcases h.2 with ⟨h1, h2⟩ | ⟨g, c, cur, h1, _⟩
  · exact ⟨none, 0, by rw [h1, h2]⟩
  · exact ⟨_, c, h1⟩
set_option maxHeartbeats 2000000 in
set_option maxRecDepth 100000 in
theorem bent_any (a : Option Addr) (len cap : Nat) (xs : List Int) (w : World) (hr : RdI w a len xs) :
    Calls Try.prog 9 #[.slice a len cap] w fun e w' => ∃ v, e = .returned v ∧ OwnJ w' w.heap.size v (bentOf xs) ∧ Below w.heap.size w w' := by
  obtain ⟨i0, hi, hz0, hz1, hz2⟩ := info_of infoL
  have HL := hide hr.1
  have HC := hide hr.2.2
  have hm := hr.2.1
  clear hr
  have hzc : (Value.int .i64 0).cells.size = 1 := rfl
  go_enter Try.func9, Try.ntmps9
  go_wp2_with fail
  go_loopw [3, 4] (fun r i wr => ∃ k : Nat, k ≤ len ∧ k ≤ 256 ∧ i = .int .i64 (k : Int) ∧ Hid (OwnJ wr w.heap.size r (bentTo xs k)) ∧ Hid (Below w.heap.size w wr)) (fun _ i _ => 256 - (intOf i).toNat)
  case atStart => exact ⟨0, Nat.zero_le _, Nat.zero_le _, rfl, World.ownsRow_nil _ _ _ _, Below.refl _ _⟩
  case round =>
    obtain ⟨k, hk, hk2, rfl, HO, HB⟩ := hrel
    by_cases hlt : k < len ∧ k < 256
    · obtain ⟨hl1, hl2⟩ := hlt
      obtain ⟨b1, o1, rfl, hb1, hc1⟩ := HC.out (by omega)
      have g1 := hc1 k hl1
      rw [← HB.out.cell (p := ⟨b1, o1 + k, none⟩) hb1] at g1
      have HAD := hide (bentTo_add xs k (by rw [HL.out]; exact hl1))
      have hki : (k : Int) < (len : Int) := by omega
      have hki2 : (k : Int) < 256 := by omega
      generalize xs.getD k 0 = x at g1 HAD
      have hti := tmod_in x
      have HBE : Hid (bend x = if x.tmod 1073741824 < 0 then -(x.tmod 1073741824) else x.tmod 1073741824) := rfl
      obtain ⟨t, ht⟩ : ∃ t, x.tmod 1073741824 = t := ⟨_, rfl⟩
      rw [ht] at hti HBE
      obtain ⟨t1, t2⟩ := hti
      have HBL : Hid ((bentTo xs k).length = k) := by show _ = _; unfold bentTo; rw [List.length_map, List.length_take, HL.out]; omega
      have HOR : Hid (wr.ownsRow w.heap.size 2 1 u3 (bentTo xs k).length (ivals (bentTo xs k))) := HO.out
      have hs : w.heap.size ≤ wr.heap.size := HB.out.size
      generalize bentTo xs k = ys at HOR HAD HBL
      clear hc1
      by_cases h0 : t < 0
      · have HBX : Hid (bend x = -t) := by show _ = _; rw [HBE.out, if_pos h0]
        obtain ⟨y, hy⟩ : ∃ y, -t = y := ⟨_, rfl⟩
        have hy2 : IntKind.i64.wrap (-t) = y := by rw [IntKind.wrap_i64]; omega
        rw [hy] at HBX
        go_wp2_with (first
          | (refine wpList_append_own _ rfl (.tmp 25) (.tmp 27) 22 rfl w.heap.size 2 i0 (.int .i64 0) 1 8 Try.underlying22 hi hz0 hz1 hz2 hzc (by omega) u3 ys.length (ivals ys) rfl (HOR.out.alloc _) ⟨wr.heap.size, 0, none⟩ 1 1 [.int .i64 y] rfl rfl (fun j u h => new_one wr _ _ j u h) (by intro u hu; simp at hu; subst hu; rfl) (by have := HBL.out; unfold maxLen; omega) (by have := HBL.out; omega) (by simp; omega) ?_
             intro v9 w9 hown9 hg9 _))
        have HO9 : Hid (OwnJ w9 w.heap.size v9 (bentTo xs (k + 1))) := by rw [HAD.out, HBX.out]; exact own_addJ hown9
        have HB9 : Hid (Below w.heap.size w w9) := (HB.out.alloc hs _).grown hg9 (by simp; omega) (fun i e => (World.ownsRow.lt HOR.out i e).1)
        go_roundw
        case rel => exact ⟨k + 1, by omega, by omega, by go_num, HO9, HB9⟩
        case measure => simp [intOf]; omega
      · have HBX : Hid (bend x = t) := by show _ = _; rw [HBE.out, if_neg h0]
        go_wp2_with (first
          | (refine wpList_append_own _ rfl (.tmp 25) (.tmp 27) 22 rfl w.heap.size 2 i0 (.int .i64 0) 1 8 Try.underlying22 hi hz0 hz1 hz2 hzc (by omega) u3 ys.length (ivals ys) rfl (HOR.out.alloc _) ⟨wr.heap.size, 0, none⟩ 1 1 [.int .i64 t] rfl rfl (fun j u h => new_one wr _ _ j u h) (by intro u hu; simp at hu; subst hu; rfl) (by have := HBL.out; unfold maxLen; omega) (by have := HBL.out; omega) (by simp; omega) ?_
             intro v9 w9 hown9 hg9 _))
        have HO9 : Hid (OwnJ w9 w.heap.size v9 (bentTo xs (k + 1))) := by rw [HAD.out, HBX.out]; exact own_addJ hown9
        have HB9 : Hid (Below w.heap.size w w9) := (HB.out.alloc hs _).grown hg9 (by simp; omega) (fun i e => (World.ownsRow.lt HOR.out i e).1)
        go_roundw
        case rel => exact ⟨k + 1, by omega, by omega, by go_num, HO9, HB9⟩
        case measure => simp [intOf]; omega
    · have HE : Hid (bentOf xs = bentTo xs k) := by
        show _ = _
        unfold bentOf bentTo
        rcases Nat.lt_or_ge k 256 with h | h
        · rw [List.take_of_length_le (by rw [HL.out]; omega), List.take_of_length_le (by rw [HL.out]; omega)]
        · rw [show k = 256 by omega]
      rcases Nat.lt_or_ge k len with h | h
      · have g1 : decide ((k : Int) < (len : Int)) = true := by rw [decide_eq_true_iff]; omega
        have g2 : decide ((k : Int) < 256) = false := by rw [decide_eq_false_iff_not]; omega
        have hki : (k : Int) < (len : Int) := by omega
        have hki2 : ¬ (k : Int) < 256 := by omega
        go_wp2_with fail
        go_ret
        exact ⟨_, rfl, by rw [HE.out]; exact HO.out, HB.out⟩
      · have g1 : decide ((k : Int) < (len : Int)) = false := by rw [decide_eq_false_iff_not]; omega
        have hki : ¬ (k : Int) < (len : Int) := by omega
        go_wp2_with fail
        go_ret
        exact ⟨_, rfl, by rw [HE.out]; exact HO.out, HB.out⟩
set_option maxHeartbeats 1000000 in
theorem used_any (a : Option Addr) (len cap : Nat) (cs : List Int) (w : World) (hr : RdI w a len cs) :
    Calls Try.prog 10 #[.slice a len cap] w fun e w' => e = .returned (.int .i64 ((symsTo cs len).length : Nat)) ∧ w' = w := by
  obtain ⟨h1, hm, h3⟩ := hr
  have HC := hide h3
  clear h3 h1
  go_enter Try.func10, Try.ntmps10
  go_wp2_with fail
  go_loopw [3, 4] (fun r i wr => ∃ k q : Nat, k ≤ len ∧ q ≤ k ∧ i = .int .i64 (k : Int) ∧ r = .int .i64 (q : Int) ∧ Hid ((symsTo cs k).length = q) ∧ wr = w) (fun _ i _ => len - (intOf i).toNat)
  case atStart => exact ⟨0, 0, Nat.zero_le _, Nat.zero_le _, rfl, rfl, rfl, rfl⟩
  case round =>
    obtain ⟨k, q, hk, hqk, rfl, rfl, HQ, rfl⟩ := hrel
    by_cases hlt : k < len
    · obtain ⟨b1, o1, rfl, hb1, hc1⟩ := HC.out (by omega)
      have g1 := hc1 k hlt
      have HAD := hide (fun h => symsTo_add cs k h)
      have HSK := hide (fun h => symsTo_skip cs k h)
      have hki : (k : Int) < (len : Int) := by omega
      generalize cs.getD k 0 = x at g1 HAD HSK
      clear hc1
      by_cases hx : 0 < x
      · have HN : Hid ((symsTo cs (k + 1)).length = q + 1) := by show _ = _; rw [HAD.out hx, List.length_append, HQ.out]; rfl
        go_wp2_with fail
        go_roundw
        case rel => exact ⟨k + 1, q + 1, by omega, by omega, by go_num, by go_num, HN, by first | rfl | trivial⟩
        case measure => simp [intOf]; omega
      · have HN : Hid ((symsTo cs (k + 1)).length = q) := by show _ = _; rw [HSK.out hx, HQ.out]
        go_wp2_with fail
        go_roundw
        case rel => exact ⟨k + 1, q, by omega, by omega, by go_num, rfl, HN, by first | rfl | trivial⟩
        case measure => simp [intOf]; omega
    · obtain rfl : k = len := by omega
      have hki : ¬ (k : Int) < (k : Int) := by omega
      go_wp2_with fail
      go_ret
      exact ⟨ret_int (by rw [HQ.out]), rfl⟩
theorem pow_i (l P : Nat) (h : 2 ^ l = P) (hb : P ≤ 4294967296) : wrap64 ((2 : Int) ^ l) = (P : Int) := by
  have : (2 : Int) ^ l = (P : Int) := by rw [← h]; simp
  rw [this]; unfold wrap64; omega
set_option maxHeartbeats 1000000 in
theorem limited_any (x : Int) (n : Nat) (w : World) (hn : n ≤ 256) :
    Calls Try.prog 11 #[.int .i64 x, .int .i64 (n : Int)] w fun e w' => ∃ l : Nat, e = .returned (.int .i64 (l : Int)) ∧ 1 ≤ l ∧ l ≤ 15 ∧ n ≤ 2 ^ l ∧ w' = w := by
  have h1 := Int.tmod_lt_of_pos x (b := 15) (by decide)
  have h2 := Int.tmod_lt_of_pos (-x) (b := 15) (by decide)
  rw [Int.neg_tmod] at h2
  obtain ⟨t, ht⟩ : ∃ t, x.tmod 15 = t := ⟨_, rfl⟩
  rw [ht] at h1 h2
  have h3 : -15 < t := by omega
  clear h2
  by_cases h0 : t < 0
  · obtain ⟨l0, hl0⟩ : ∃ l0 : Nat, t + 15 + 1 = (l0 : Int) := ⟨(t + 15 + 1).toNat, by omega⟩
    have HL0 : Hid (1 ≤ l0 ∧ l0 ≤ 15) := by show _ ∧ _; omega
    go_enter Try.func11, Try.ntmps11
    go_wp2_with fail
    clear hl0 h1 h3 h0 ht
    go_loop [5] (fun r => ∃ l : Nat, 1 ≤ l ∧ l ≤ 15 ∧ r = .int .i64 (l : Int)) (fun r => 15 - (intOf r).toNat)
    case atStart => exact ⟨l0, HL0.out.1, HL0.out.2, by first | rfl | (congr 1; omega)⟩
    case round =>
      obtain ⟨l, hl1, hl2, rfl⟩ := hrel
      obtain ⟨P, hP⟩ : ∃ P, 2 ^ l = P := ⟨_, rfl⟩
      have hPb : 2 ^ l ≤ 2 ^ 15 := Nat.pow_le_pow_right (by decide) hl2
      rw [hP] at hPb
      have hw := pow_i l P hP (by omega)
      by_cases hlt : P < n
      · have hlti : (P : Int) < (n : Int) := by omega
        have hl8 : l < 8 := Nat.lt_of_not_le fun h => by
          have : 2 ^ 8 ≤ 2 ^ l := Nat.pow_le_pow_right (by decide) h
          omega
        have HLL : Hid (l + 1 ≤ 15) := by show _ ≤ _; omega
        clear hP
        go_wp2_with fail
        go_round
        case rel => exact ⟨l + 1, by omega, HLL.out, by go_num⟩
        case measure => simp [intOf]; omega
      · have hlti : ¬ (P : Int) < (n : Int) := by omega
        have HP := hide hP
        clear hP
        go_wp2_with fail
        go_ret
        exact ⟨l, rfl, hl1, hl2, by rw [HP.out]; omega, rfl⟩
  · obtain ⟨l0, hl0⟩ : ∃ l0 : Nat, t + 1 = (l0 : Int) := ⟨(t + 1).toNat, by omega⟩
    have HL0 : Hid (1 ≤ l0 ∧ l0 ≤ 15) := by show _ ∧ _; omega
    go_enter Try.func11, Try.ntmps11
    go_wp2_with fail
    clear hl0 h1 h3 h0 ht
    go_loop [5] (fun r => ∃ l : Nat, 1 ≤ l ∧ l ≤ 15 ∧ r = .int .i64 (l : Int)) (fun r => 15 - (intOf r).toNat)
    case atStart => exact ⟨l0, HL0.out.1, HL0.out.2, by first | rfl | (congr 1; omega)⟩
    case round =>
      obtain ⟨l, hl1, hl2, rfl⟩ := hrel
      obtain ⟨P, hP⟩ : ∃ P, 2 ^ l = P := ⟨_, rfl⟩
      have hPb : 2 ^ l ≤ 2 ^ 15 := Nat.pow_le_pow_right (by decide) hl2
      rw [hP] at hPb
      have hw := pow_i l P hP (by omega)
      by_cases hlt : P < n
      · have hlti : (P : Int) < (n : Int) := by omega
        have hl8 : l < 8 := Nat.lt_of_not_le fun h => by
          have : 2 ^ 8 ≤ 2 ^ l := Nat.pow_le_pow_right (by decide) h
          omega
        have HLL : Hid (l + 1 ≤ 15) := by show _ ≤ _; omega
        clear hP
        go_wp2_with fail
        go_round
        case rel => exact ⟨l + 1, by omega, HLL.out, by go_num⟩
        case measure => simp [intOf]; omega
      · have hlti : ¬ (P : Int) < (n : Int) := by omega
        have HP := hide hP
        clear hP
        go_wp2_with fail
        go_ret
        exact ⟨l, rfl, hl1, hl2, by rw [HP.out]; omega, rfl⟩
/-- The share of a length, in parts of 1 / 2^15. -/
def share (x : Int) : Nat := if 0 < x ∧ x ≤ 15 then 2 ^ (15 - x.toNat) else 0
def kraftTo (xs : List Int) (k : Nat) : Nat := ((xs.take k).map share).sum
theorem kraftTo_add (xs : List Int) (k : Nat) (h : k < xs.length) : kraftTo xs (k + 1) = kraftTo xs k + share (xs.getD k 0) := by
  unfold kraftTo
  have e : xs.getD k 0 = xs[k] := by rw [List.getD_eq_getElem?_getD, List.getElem?_eq_getElem h]; rfl
  rw [List.take_succ_eq_append_getElem h, List.map_append, List.sum_append, e]; simp
theorem share_le (x : Int) : share x ≤ 16384 := by
  unfold share
  split
  · have : 2 ^ (15 - x.toNat) ≤ 2 ^ 14 := Nat.pow_le_pow_right (by decide) (by omega)
    omega
  · omega
theorem kraftTo_le (xs : List Int) : ∀ k, k ≤ xs.length → kraftTo xs k ≤ k * 16384
  | 0, _ => by simp [kraftTo]
  | k + 1, h => by
    rw [kraftTo_add xs k (by omega)]
    have := kraftTo_le xs k (by omega)
    have := share_le (xs.getD k 0)
    omega
set_option maxHeartbeats 1000000 in
theorem kraft_any (a : Option Addr) (len cap : Nat) (xs : List Int) (w : World) (hr : RdI w a len xs) (hn : len ≤ 256) :
    Calls Try.prog 14 #[.slice a len cap] w fun e w' => e = .returned (.int .i64 ((kraftTo xs len : Nat) : Int)) ∧ w' = w := by
  obtain ⟨h1, hm, h3⟩ := hr
  have HL := hide h1
  have HC := hide h3
  clear h3 h1
  go_enter Try.func14, Try.ntmps14
  go_wp2_with fail
  go_loopw [3, 4] (fun r i wr => ∃ k q : Nat, k ≤ len ∧ q ≤ 5000000 ∧ i = .int .i64 (k : Int) ∧ r = .int .i64 (q : Int) ∧ Hid (kraftTo xs k = q) ∧ wr = w) (fun _ i _ => len - (intOf i).toNat)
  case atStart => exact ⟨0, 0, Nat.zero_le _, Nat.zero_le _, rfl, rfl, rfl, rfl⟩
  case round =>
    obtain ⟨k, q, hk, hqk, rfl, rfl, HQ, rfl⟩ := hrel
    by_cases hlt : k < len
    · obtain ⟨b1, o1, rfl, hb1, hc1⟩ := HC.out (by omega)
      have g1 := hc1 k hlt
      have HAD := hide (kraftTo_add xs k (by rw [HL.out]; exact hlt))
      have HLE := hide (kraftTo_le xs (k + 1) (by rw [HL.out]; omega))
      have hki : (k : Int) < (len : Int) := by omega
      generalize xs.getD k 0 = x at g1 HAD
      rw [HQ.out] at HAD
      clear hc1
      by_cases hx : 0 < x ∧ x ≤ 15
      · obtain ⟨x0, x1⟩ := hx
        obtain ⟨l, hl⟩ : ∃ l : Nat, 15 - x = (l : Int) := ⟨(15 - x).toNat, by omega⟩
        obtain ⟨P, hP⟩ : ∃ P, 2 ^ l = P := ⟨_, rfl⟩
        have hPb : 2 ^ l ≤ 2 ^ 14 := Nat.pow_le_pow_right (by decide) (by omega)
        rw [hP] at hPb
        have hw := pow_i l P hP (by omega)
        have HN : Hid (kraftTo xs (k + 1) = q + P) := by
          show _ = _
          rw [HAD.out]
          unfold share
          rw [if_pos ⟨x0, x1⟩, show 15 - x.toNat = l by omega, hP]
        have HLE2 : Hid (q + P ≤ 5000000) := by
          have := HLE.out
          rw [HN.out] at this
          show _ ≤ _
          omega
        clear hP
        go_wp2_with fail
        go_roundw
        case rel => exact ⟨k + 1, q + P, by omega, HLE2.out, by go_num, by go_num, HN, by first | rfl | trivial⟩
        case measure => simp [intOf]; omega
      · have HN : Hid (kraftTo xs (k + 1) = q) := by
          show _ = _
          rw [HAD.out]
          unfold share
          rw [if_neg hx]; omega
        rcases Int.lt_or_le 0 x with h0 | h0
        · have h1 : ¬ x ≤ 15 := by omega
          have g2 : decide (x ≤ 15) = false := by rw [decide_eq_false_iff_not]; exact h1
          clear hx
          go_wp2_with fail
          go_roundw
          case rel => exact ⟨k + 1, q, by omega, hqk, by go_num, rfl, HN, by first | rfl | trivial⟩
          case measure => simp [intOf]; omega
        · have h1 : ¬ 0 < x := by omega
          have g2 : decide (0 < x) = false := by rw [decide_eq_false_iff_not]; exact h1
          clear hx
          go_wp2_with fail
          go_roundw
          case rel => exact ⟨k + 1, q, by omega, hqk, by go_num, rfl, HN, by first | rfl | trivial⟩
          case measure => simp [intOf]; omega
    · obtain rfl : k = len := by omega
      have hki : ¬ (k : Int) < (k : Int) := by omega
      go_wp2_with fail
      go_ret
      exact ⟨ret_int (by rw [HQ.out]), rfl⟩
end Go.Proofs.Ytalnhhpcncjflaa.Pm
/-
  Lengths that are taken: they fit, and no others cost less.
-/
namespace Go.Proofs.Ytalnhhpcncjflaa.Pm
open Go.Proofs.Ytalnhhpcncjflaa.Base
set_option linter.unusedVariables false
theorem sumTo_list (G : Nat → Nat) : ∀ k, sumTo k G = ((List.range k).map G).sum
  | 0 => rfl
  | k + 1 => by simp only [sumTo]; rw [sumTo_list G k, List.range_succ, List.map_append, List.sum_append]; simp
theorem sum_rank (G : Nat → Nat) : ∀ os : List Nat, (os.map G).sum = sumTo os.length (fun r => G (os.getD r 0)) := by
  intro os
  rw [sumTo_list]
  congr 1
  apply List.ext_getElem
  · simp
  · intro i h1 h2
    have hi : i < os.length := by simpa using h1
    simp only [List.getElem_map, List.getElem_range]
    rw [List.getD_eq_getElem?_getD, List.getElem?_eq_getElem hi]; rfl
theorem sum_filter (G : Nat → Nat) (p : Nat → Bool) : ∀ l : List Nat, (∀ s ∈ l, p s = false → G s = 0) → (l.map G).sum = ((l.filter p).map G).sum
  | [], _ => rfl
  | x :: l, h => by
    have ih := sum_filter G p l (fun s hs => h s (by simp [hs]))
    rw [List.map_cons, List.sum_cons, List.filter_cons]
    cases hp : p x with
    | true => rw [if_pos rfl, List.map_cons, List.sum_cons, ih]
    | false => rw [if_neg (by decide), ih, h x (by simp) hp]; omega
/-- Sums over symbols, of which those without a count are nothing, are sums over ranks. -/
theorem sum_syms {cs : List Int} {os : List Nat} (h : Ordered cs os) (G : Nat → Nat) (h0 : ∀ s, s < cs.length → ¬ 0 < cs.getD s 0 → G s = 0) : sumTo cs.length G = sumTo os.length (fun r => G (os.getD r 0)) := by
  rw [sumTo_list, sum_filter G (fun s => decide (0 < cs.getD s 0)) (List.range cs.length) (fun s hs hp => h0 s (List.mem_range.1 hs) (of_decide_eq_false hp)), ← sum_rank]
  exact ((h.1.map G).sum_nat).symm
theorem cost_nat (cs ls : List Int) (C F : Nat → Nat) (k : Nat) (h : ∀ s, s < k → cs.getD s 0 = (C s : Int) ∧ ls.getD s 0 = (F s : Int)) : Huff.sumTo cs ls k = ((sumTo k (fun s => C s * F s) : Nat) : Int) := by
  induction k with
  | zero => rfl
  | succ k ih =>
    simp only [Huff.sumTo, sumTo]
    rw [ih (fun s hs => h s (by omega)), (h k (by omega)).1, (h k (by omega)).2]
    simp
theorem kraft_nat (xs : List Int) (k : Nat) (hk : k ≤ xs.length) : kraftTo xs k = sumTo k (fun s => share (xs.getD s 0)) := by
  induction k with
  | zero => rfl
  | succ k ih =>
    rw [kraftTo_add xs k (by omega), ih (by omega)]
    rfl
theorem lensBy_get (cs : List Int) (lim s : Nat) (h : s < cs.length) : (lensBy cs lim).getD s 0 = ((tally (takenBy cs lim) s : Nat) : Int) := by
  unfold lensBy
  rw [List.getD_eq_getElem?_getD, List.getElem?_map, List.getElem?_range h]; rfl
theorem lensBy_len (cs : List Int) (lim : Nat) : (lensBy cs lim).length = cs.length := by simp [lensBy]
theorem share_nat (n : Nat) (h1 : 0 < n) (h2 : n ≤ 15) : share (n : Int) = 2 ^ (15 - n) := by
  unfold share; rw [if_pos (by omega), Int.toNat_natCast]
theorem share_zero : share 0 = 0 := by unfold share; rw [if_neg (by omega)]
theorem pow_split (top n : Nat) (h : n ≤ top) (h2 : top ≤ 15) : 2 ^ (15 - n) = 2 ^ (15 - top) * 2 ^ (top - n) := by
  rw [← Nat.pow_add]; congr 1; omega
theorem sumTo_mul (x : Nat) (f : Nat → Nat) : ∀ k, sumTo k (fun r => x * f r) = x * sumTo k f
  | 0 => rfl
  | k + 1 => by simp only [sumTo]; rw [sumTo_mul x f k, Nat.mul_add]
/-- What is known of the lengths that are taken, by ranks. -/
structure Fine (cs : List Int) (top : Nat) (f : Nat → Nat) : Prop where
  get : ∀ r, r < (orderOf cs).length → tally (takenBy cs top) ((orderOf cs).getD r 0) = f r
  pos : ∀ r, r < (orderOf cs).length → 0 < f r
  le : ∀ r, r < (orderOf cs).length → f r ≤ top
  down : ∀ r q, r ≤ q → q < (orderOf cs).length → f q ≤ f r
  whole : 2 ≤ (orderOf cs).length → sumTo (orderOf cs).length (fun r => 2 ^ (top - f r)) = 2 ^ top
  least : ∀ l : Nat → Nat, (∀ r, r < (orderOf cs).length → 0 < l r ∧ l r ≤ top) → sumTo (orderOf cs).length (fun r => 2 ^ (top - l r)) ≤ 2 ^ top → sumTo (orderOf cs).length (fun r => wt (thingsOf cs (orderOf cs)) r * f r) ≤ sumTo (orderOf cs).length (fun r => wt (thingsOf cs (orderOf cs)) r * l r)
theorem fine (cs : List Int) (hl : cs.length ≤ 256) (top : Nat) (h1 : 1 ≤ top) (hn : (orderOf cs).length ≤ 2 ^ top) : Fine cs top (fun r => tally (takenBy cs top) ((orderOf cs).getD r 0)) := by
  have T := things_ok (orderOf_ok cs) hl
  have hlen := things_len cs (orderOf cs)
  by_cases h2 : (orderOf cs).length < 2
  · have e : takenBy cs top = thingsOf cs (orderOf cs) := by unfold takenBy takenOf; rw [if_pos (by rw [hlen]; exact h2)]
    have hone : ∀ r, r < (orderOf cs).length → tally (takenBy cs top) ((orderOf cs).getD r 0) = 1 := by
      intro r hr
      have := T.one (thingsOf cs (orderOf cs)).length r (Nat.le_refl _) (by rw [hlen]; exact hr)
      rw [List.take_length, if_pos (by rw [hlen]; exact hr)] at this
      rw [e]; exact this
    refine ⟨fun _ _ => rfl, fun r hr => by rw [hone r hr]; omega, fun r hr => by rw [hone r hr]; exact h1, fun r q hrq hq => by rw [hone r (by omega), hone q hq]; omega, fun h => by omega, fun l hl _ => ?_⟩
    refine sumTo_le fun r hr => ?_
    rw [hone r hr]
    exact Nat.mul_le_mul_left _ (hl r hr).1
  · have hk : 2 ≤ (thingsOf cs (orderOf cs)).length := by rw [hlen]; omega
    have e : takenBy cs top = (row (thingsOf cs (orderOf cs)) (top - 1)).take (2 * (thingsOf cs (orderOf cs)).length - 2) := by
      unfold takenBy takenOf; rw [if_neg (by rw [hlen]; exact h2)]; rfl
    have hen := row_enough (thingsOf cs (orderOf cs)) hk (top - 1) (by rw [hlen, show top - 1 + 1 = top by omega]; exact hn)
    rw [hlen] at e hen
    obtain ⟨A, G⟩ := good T (top - 1) _ hen
    rw [← e] at G
    have ht : top - 1 + 1 = top := by omega
    have hkr := G.kraft
    rw [hlen, ht] at hkr
    have p2 : (2 * (orderOf cs).length - 2) * 2 ^ (top - 1) + 2 ^ top = (orderOf cs).length * 2 ^ top := by
      have : 2 ^ top = 2 * 2 ^ (top - 1) := by rw [← Nat.pow_succ', Nat.succ_eq_add_one, ht]
      rw [this, Nat.mul_left_comm, ← Nat.mul_assoc, ← Nat.add_mul]
      congr 1
      omega
    have hw : sumTo (orderOf cs).length (fun r => 2 ^ (top - tally (takenBy cs top) ((orderOf cs).getD r 0))) = 2 ^ top := by
      omega
    have hA : A = (orderOf cs).length := by
      refine Nat.le_antisymm (by have := G.le; rwa [hlen] at this) (Nat.le_of_not_lt fun hlt => ?_)
      have h0 : tally (takenBy cs top) ((orderOf cs).getD A 0) = 0 := by
        have := (G.pos A (by rw [hlen]; exact hlt))
        omega
      have hle : 2 ^ (top - tally (takenBy cs top) ((orderOf cs).getD A 0)) + 1 ≤ sumTo (orderOf cs).length (fun r => 2 ^ (top - tally (takenBy cs top) ((orderOf cs).getD r 0))) := by
        have hany : ∀ (F : Nat → Nat) (k a : Nat), a < k → 2 ≤ k → (∀ r, 1 ≤ F r) → F a + 1 ≤ sumTo k F := by
          intro F k a ha hk2 hF
          have hb : ∀ (m : Nat), m ≤ sumTo m F := by
            intro m
            induction m with
            | zero => omega
            | succ m ih => simp only [sumTo]; have := hF m; omega
          have hc : ∀ (m a : Nat), a < m → F a + (m - 1) ≤ sumTo m F := by
            intro m
            induction m with
            | zero => intro a h; omega
            | succ m ih =>
              intro a h
              simp only [sumTo]
              by_cases e : a = m
              · subst e; have := hb a; omega
              · have := ih a (by omega); have := hF m; omega
          have := hc k a ha
          omega
        exact hany (fun r => 2 ^ (top - tally (takenBy cs top) ((orderOf cs).getD r 0))) _ A hlt (by omega) (fun r => Nat.two_pow_pos _)
      rw [hw, h0, Nat.sub_zero] at hle
      omega
    refine ⟨fun _ _ => rfl, fun r hr => (G.pos r (by rw [hlen]; exact hr)).2 (by omega), fun r hr => by have := G.top r (by rw [hlen]; exact hr); omega, fun r q hrq hq => G.down r q hrq (by rw [hlen]; exact hq), fun _ => hw, fun l hl hs => ?_⟩
    have hc := G.cost
    rw [hlen] at hc
    rw [← hc]
    have := least T (top - 1) (2 * (orderOf cs).length - 2) l (fun r hr => by have := hl r (by rwa [hlen] at hr); omega) (by rw [hlen, ht]; omega)
    rw [hlen] at this
    exact this
end Go.Proofs.Ytalnhhpcncjflaa.Pm
/-
  Lengths that are taken, symbol by symbol.
-/
namespace Go.Proofs.Ytalnhhpcncjflaa.Pm
open Go.Proofs.Ytalnhhpcncjflaa.Base
set_option linter.unusedVariables false
theorem rank_of {cs : List Int} {s : Nat} (h1 : s < cs.length) (h2 : 0 < cs.getD s 0) : ∃ r, r < (orderOf cs).length ∧ (orderOf cs).getD r 0 = s := by
  have hm := (ordered_mem (orderOf_ok cs) s).2 ⟨h1, h2⟩
  obtain ⟨r, hr, he⟩ := List.getElem_of_mem hm
  exact ⟨r, hr, by rw [List.getD_eq_getElem?_getD, List.getElem?_eq_getElem hr]; exact he⟩
theorem rank_in {cs : List Int} {r : Nat} (h : r < (orderOf cs).length) : (orderOf cs).getD r 0 < cs.length ∧ 0 < cs.getD ((orderOf cs).getD r 0) 0 := by
  refine (ordered_mem (orderOf_ok cs) _).1 ?_
  rw [List.getD_eq_getElem?_getD, List.getElem?_eq_getElem h]; exact List.getElem_mem _
theorem tally_none {cs : List Int} (hl : cs.length ≤ 256) {s : Nat} (h1 : s < cs.length) (h2 : ¬ 0 < cs.getD s 0) (top : Nat) : tally (takenBy cs top) s = 0 := by
  have h0 : tally (thingsOf cs (orderOf cs)) s = 0 := by
    rw [things_tally cs s (by omega)]
    exact List.count_eq_zero_of_not_mem (fun hm => h2 ((ordered_mem (orderOf_ok cs) s).1 hm).2)
  unfold takenBy takenOf
  split
  · exact h0
  · have h3 := row_tally (things_wide cs (orderOf cs)) s (top - 1)
    rw [h0, Nat.mul_zero] at h3
    have h4 := tally_take_le s (row (thingsOf cs (orderOf cs)) (top - 1)) (2 * (thingsOf cs (orderOf cs)).length - 2)
    unfold cut
    omega
theorem wt_things (cs : List Int) (os : List Nat) (r : Nat) (h : r < os.length) : wt (thingsOf cs os) r = (cs.getD (os.getD r 0) 0).toNat := by
  unfold wt thingsOf
  rw [List.getD_eq_getElem?_getD, List.getElem?_map, List.getElem?_eq_getElem h, List.getD_eq_getElem?_getD (l := os), List.getElem?_eq_getElem h]; rfl
structure Lens (cs : List Int) (top : Nat) : Prop where
  each : ∀ s, s < cs.length → 0 ≤ (lensBy cs top).getD s 0 ∧ (lensBy cs top).getD s 0 ≤ top ∧ (0 < (lensBy cs top).getD s 0 ↔ 0 < cs.getD s 0)
  all : Huff.allIn 15 (lensBy cs top) = true
  right : kraftTo (lensBy cs top) cs.length ≤ 32768
  whole : 2 ≤ (orderOf cs).length → kraftTo (lensBy cs top) cs.length = 32768
  one : (orderOf cs).length < 2 → kraftTo (lensBy cs top) cs.length = (orderOf cs).length * 16384
  down : ∀ s t, s < cs.length → t < cs.length → cs.getD t 0 < cs.getD s 0 → 0 < cs.getD t 0 → (lensBy cs top).getD s 0 ≤ (lensBy cs top).getD t 0
  least : ∀ mine : List Int, (∀ s, s < cs.length → (0 < cs.getD s 0 → 1 ≤ mine.getD s 0 ∧ mine.getD s 0 ≤ top) ∧ (¬ 0 < cs.getD s 0 → mine.getD s 0 = 0)) → mine.length = cs.length → kraftTo mine cs.length ≤ 32768 → Huff.sumTo cs (lensBy cs top) cs.length ≤ Huff.sumTo cs mine cs.length
theorem kraft_rank {cs xs : List Int} {top : Nat} (h15 : top ≤ 15) (hx : xs.length = cs.length) (f : Nat → Nat) (hp : ∀ r, r < (orderOf cs).length → xs.getD ((orderOf cs).getD r 0) 0 = (f r : Int) ∧ 0 < f r ∧ f r ≤ top) (h0 : ∀ s, s < cs.length → ¬ 0 < cs.getD s 0 → xs.getD s 0 = 0) :
    kraftTo xs cs.length = 2 ^ (15 - top) * sumTo (orderOf cs).length (fun r => 2 ^ (top - f r)) := by
  rw [kraft_nat xs cs.length (by omega), sum_syms (orderOf_ok cs) _ (fun s h1 h2 => by rw [h0 s h1 h2, share_zero]), ← sumTo_mul]
  refine sumTo_congr fun r hr => ?_
  obtain ⟨e1, e2, e3⟩ := hp r hr
  rw [e1, share_nat _ e2 (by omega), pow_split top (f r) e3 h15]
theorem lens_ok (cs : List Int) (hl : cs.length ≤ 256) (hc : Huff.allIn 1099511627776 cs = true) (top : Nat) (h1 : 1 ≤ top) (h15 : top ≤ 15) (hn : (orderOf cs).length ≤ 2 ^ top) : Lens cs top := by
  have F := fine cs hl top h1 hn
  have hin := fun s h => Huff.allIn_get hc s h
  have p15 : 2 ^ (15 - top) * 2 ^ top = 32768 := by rw [← Nat.pow_add, show 15 - top + top = 15 by omega]
  have each : ∀ s, s < cs.length → 0 ≤ (lensBy cs top).getD s 0 ∧ (lensBy cs top).getD s 0 ≤ top ∧ (0 < (lensBy cs top).getD s 0 ↔ 0 < cs.getD s 0) := by
    intro s hs
    rw [lensBy_get cs top s hs]
    by_cases hp : 0 < cs.getD s 0
    · obtain ⟨r, hr, rfl⟩ := rank_of hs hp
      have a1 := F.pos r hr
      have a2 := F.le r hr
      refine ⟨by omega, by omega, ⟨fun _ => hp, fun _ => by omega⟩⟩
    · rw [tally_none hl hs hp]
      exact ⟨by simp, by omega, ⟨fun h => by simp at h, fun h => absurd h hp⟩⟩
  have hk : kraftTo (lensBy cs top) cs.length = 2 ^ (15 - top) * sumTo (orderOf cs).length (fun r => 2 ^ (top - tally (takenBy cs top) ((orderOf cs).getD r 0))) :=
    kraft_rank h15 (lensBy_len cs top) _ (fun r hr => ⟨lensBy_get cs top _ (rank_in hr).1, F.pos r hr, F.le r hr⟩) (fun s h2 h3 => by rw [lensBy_get cs top s h2, tally_none hl h2 h3]; rfl)
  have whole : 2 ≤ (orderOf cs).length → kraftTo (lensBy cs top) cs.length = 32768 := fun h => by rw [hk, F.whole h, p15]
  have one : (orderOf cs).length < 2 → kraftTo (lensBy cs top) cs.length = (orderOf cs).length * 16384 := by
    intro h
    have e : takenBy cs top = thingsOf cs (orderOf cs) := by unfold takenBy takenOf; rw [if_pos (by rw [things_len]; exact h)]
    have T := things_ok (orderOf_ok cs) hl
    have hone : ∀ r, r < (orderOf cs).length → tally (takenBy cs top) ((orderOf cs).getD r 0) = 1 := by
      intro r hr
      have := T.one (thingsOf cs (orderOf cs)).length r (Nat.le_refl _) (by rw [things_len]; exact hr)
      rw [List.take_length, if_pos (by rw [things_len]; exact hr)] at this
      rw [e]; exact this
    rw [hk, sumTo_congr (g := fun _ => 2 ^ (top - 1)) (fun r hr => by rw [hone r hr]), sumTo_one, Nat.mul_left_comm, ← Nat.pow_add, show 15 - top + (top - 1) = 14 by omega]
  refine ⟨each, ?_, ?_, whole, one, ?_, ?_⟩
  · unfold Huff.allIn
    rw [List.all_eq_true]
    intro x hx
    obtain ⟨s, hs, rfl⟩ := List.getElem_of_mem hx
    have hs' : s < cs.length := by rwa [lensBy_len] at hs
    have := each s hs'
    rw [List.getD_eq_getElem?_getD, List.getElem?_eq_getElem hs] at this
    simp only [Option.getD_some] at this
    rw [decide_eq_true_iff]; omega
  · by_cases h : 2 ≤ (orderOf cs).length
    · rw [whole h]; omega
    · rw [one (by omega)]; omega
  · intro s t hs ht hlt hpt
    obtain ⟨r, hr, er⟩ := rank_of hs (by omega)
    obtain ⟨q, hq, eq⟩ := rank_of ht hpt
    rw [lensBy_get cs top s hs, lensBy_get cs top t ht, ← er, ← eq]
    have hrq : q ≤ r := Nat.le_of_not_lt fun hlt2 => by
      have hp := (orderOf_ok cs).2
      have := List.pairwise_iff_getElem.1 hp r q hr hq hlt2
      unfold aheadOf at this
      rw [List.getD_eq_getElem?_getD, List.getElem?_eq_getElem hr] at er
      rw [List.getD_eq_getElem?_getD, List.getElem?_eq_getElem hq] at eq
      simp only [Option.getD_some] at er eq
      rw [er, eq] at this
      omega
    have := F.down q r hrq hr
    omega
  · intro mine hm hml hkm
    have hpos : ∀ r, r < (orderOf cs).length → mine.getD ((orderOf cs).getD r 0) 0 = (((mine.getD ((orderOf cs).getD r 0) 0).toNat : Nat) : Int) ∧ 0 < (mine.getD ((orderOf cs).getD r 0) 0).toNat ∧ (mine.getD ((orderOf cs).getD r 0) 0).toNat ≤ top := by
      intro r hr
      obtain ⟨a1, a2⟩ := rank_in hr
      obtain ⟨b1, b2⟩ := (hm _ a1).1 a2
      omega
    rw [kraft_rank h15 hml (fun r => (mine.getD ((orderOf cs).getD r 0) 0).toNat) hpos (fun s h2 h3 => (hm s h2).2 h3)] at hkm
    have hs : sumTo (orderOf cs).length (fun r => 2 ^ (top - (mine.getD ((orderOf cs).getD r 0) 0).toNat)) ≤ 2 ^ top := by
      rw [← p15] at hkm
      exact Nat.le_of_mul_le_mul_left hkm (Nat.two_pow_pos _)
    have hlst := F.least (fun r => (mine.getD ((orderOf cs).getD r 0) 0).toNat) (fun r hr => ⟨(hpos r hr).2.1, (hpos r hr).2.2⟩) hs
    rw [cost_nat cs (lensBy cs top) (fun s => (cs.getD s 0).toNat) (fun s => tally (takenBy cs top) s) cs.length (fun s h2 => ⟨by have := (hin s h2).1; omega, lensBy_get cs top s h2⟩),
      cost_nat cs mine (fun s => (cs.getD s 0).toNat) (fun s => (mine.getD s 0).toNat) cs.length (fun s h2 => ⟨by have := (hin s h2).1; omega, by
        by_cases hp : 0 < cs.getD s 0
        · have := (hm s h2).1 hp; omega
        · have := (hm s h2).2 hp; omega⟩),
      sum_syms (orderOf_ok cs) (fun s => (cs.getD s 0).toNat * tally (takenBy cs top) s) (fun s h2 h3 => by rw [show (cs.getD s 0).toNat = 0 by omega, Nat.zero_mul]),
      sum_syms (orderOf_ok cs) (fun s => (cs.getD s 0).toNat * (mine.getD s 0).toNat) (fun s h2 h3 => by rw [show (cs.getD s 0).toNat = 0 by omega, Nat.zero_mul])]
    have e1 : sumTo (orderOf cs).length (fun r => wt (thingsOf cs (orderOf cs)) r * tally (takenBy cs top) ((orderOf cs).getD r 0)) = sumTo (orderOf cs).length (fun r => (cs.getD ((orderOf cs).getD r 0) 0).toNat * tally (takenBy cs top) ((orderOf cs).getD r 0)) := sumTo_congr fun r hr => by rw [wt_things cs _ r hr]
    have e2 : sumTo (orderOf cs).length (fun r => wt (thingsOf cs (orderOf cs)) r * (mine.getD ((orderOf cs).getD r 0) 0).toNat) = sumTo (orderOf cs).length (fun r => (cs.getD ((orderOf cs).getD r 0) 0).toNat * (mine.getD ((orderOf cs).getD r 0) 0).toNat) := sumTo_congr fun r hr => by rw [wt_things cs _ r hr]
    rw [← e1, ← e2]
    exact Int.ofNat_le.2 hlst
end Go.Proofs.Ytalnhhpcncjflaa.Pm
