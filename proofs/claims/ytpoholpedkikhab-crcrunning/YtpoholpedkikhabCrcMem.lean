/-
  The statements' own helpers: same, roomy, next: what each tells and what becomes of memory.
-/
import Derived.Test.YtpoholpedkikhabCrcExtend
import Derived.Deep.QuietTactic
import Derived.BigQuiet
import Derived.WalkSmall
namespace Go.Proofs.Ytpoholpedkikhab.Crc
open Go.ChangeShapes Go.WideShapes Go.ChangeAt Go.RowKit
def V8 (c : BitVec 8) : Value := .int .u8 (c.toNat : Int)
def vals (bs : List (BitVec 8)) : List Value := bs.map V8
/-- The slice 'v' leads to a row of the call's own, from block 'base' on, and reads as 'bs'. -/
def Own (w : World) (base : Nat) (v : Value) (bs : List (BitVec 8)) : Prop := w.ownsRow base 5 1 v bs.length (vals bs)
theorem length_vals (bs : List (BitVec 8)) : (vals bs).length = bs.length := by simp [vals]
theorem getD_vals (bs : List (BitVec 8)) (i : Nat) (h : i < bs.length) : (vals bs)[i]? = some (.int .u8 ((bs.getD i 0).toNat : Int)) := by
  rw [vals, List.getElem?_map, List.getElem?_eq_getElem h, List.getD_eq_getElem?_getD, List.getElem?_eq_getElem h]; rfl
theorem Own.rd {w : World} {base g n cap : Nat} {bs : List (BitVec 8)} (h : Own w base (.slice (some ⟨g, 0, none⟩) n cap) bs) (hl : bs.length ≤ 140737488355328) : Rd w (some ⟨g, 0, none⟩) n bs := by
  have hn : n = bs.length := by
    rcases h.2 with ⟨h1, _⟩ | ⟨_, _, _, h1, _⟩
    · simp at h1
    · simp at h1; exact h1.2.1
  subst hn
  refine ⟨rfl, hl, fun hp => ⟨g, 0, rfl, (h.lt g rfl).2, fun i hi => ?_⟩⟩
  rw [Nat.zero_add, h.cellAt i (by omega), getD_vals bs i hi]
theorem take_eq_iff (xs ys : List (BitVec 8)) (k : Nat) (h1 : k < xs.length) (h2 : k < ys.length) (h : xs.take k = ys.take k) (e : xs.getD k 0 = ys.getD k 0) : xs.take (k + 1) = ys.take (k + 1) := by
  rw [getD_take xs k h1, getD_take ys k h2, h, e]
theorem ret_bool {a b : Bool} (h : a = b) : Ending.returned (.bool a) = .returned (.bool b) := by rw [h]
theorem below_drewN' (B : Nat) (w : World) (n : Nat) : Below B w (w.drewN n) := below_drewN (Below.refl _ _) n
set_option maxHeartbeats 1000000 in
set_option maxRecDepth 100000 in
theorem same_any (a b : Option Addr) (la ca lb cb : Nat) (xs ys : List (BitVec 8)) (w : World) (hx : Rd w a la xs) (hy : Rd w b lb ys) :
    Calls Try.prog 37 #[.slice a la ca, .slice b lb cb] w fun e w' => e = .returned (.bool (decide (xs = ys))) ∧ Below w.heap.size w w' := by
  obtain ⟨hlx, hmx, hcx⟩ := hx
  obtain ⟨hly, hmy, hcy⟩ := hy
  have HLX := hide hlx
  have HLY := hide hly
  have HCX := hide hcx
  have HCY := hide hcy
  clear hlx hly hcx hcy
  by_cases hne : la = lb
  · subst hne
    have he : ((la : Int) != (la : Int)) = false := by simp
    go_enter Try.func37, Try.ntmps37
    go_wp2
    go_loopw [5] (fun i wr => ∃ k : Nat, k ≤ la ∧ i = .int .i64 k ∧ Hid (xs.take k = ys.take k) ∧ ∃ n, wr = w.drewN n) (fun i _ => la - (intOf i).toNat)
    case atStart => exact ⟨0, Nat.zero_le _, rfl, rfl, 0, rfl⟩
    case round =>
      obtain ⟨k, hk, rfl, HT, n, rfl⟩ := hrel
      by_cases hlt : k < la
      · obtain ⟨b1, o1, rfl, hb1, hc1⟩ := unhide HCX (by omega)
        obtain ⟨b2, o2, rfl, hb2, hc2⟩ := unhide HCY (by omega)
        have g1 := hc1 k hlt
        have g2 := hc2 k hlt
        clear hc1 hc2
        have hki : (k : Int) < (la : Int) := by omega
        generalize hX : xs.getD k 0 = x at g1
        generalize hY : ys.getD k 0 = y at g2
        have HX := hide hX
        have HY := hide hY
        clear hX hY
        by_cases hxy : x = y
        · subst hxy
          have hq : ((x.toNat : Int) != (x.toNat : Int)) = false := by simp
          go_wp2
          go_quiet (fail)
          go_wp2
          go_roundw
          case rel => exact ⟨k + 1, by omega, by go_num, take_eq_iff xs ys k (by have := HLX.out; omega) (by have := HLY.out; omega) HT.out (HX.out.trans HY.out.symm), n + nq, rfl⟩
          case measure => simp [intOf]; omega
        · have hq : ((x.toNat : Int) != (y.toNat : Int)) = true := by
            rw [bne_iff_ne]; intro h; exact hxy (BitVec.eq_of_toNat_eq (by omega))
          go_wp2
          go_quiet (fail)
          go_wp2
          go_ret
          refine ⟨ret_bool ?_, ?_⟩
          · symm; rw [decide_eq_false_iff_not]
            rintro rfl
            exact hxy (HX.out.symm.trans HY.out)
          · exact (below_drewN' _ _ _).trans (below_drewN' _ _ _)
      · go_wp2
        go_ret
        refine ⟨ret_bool ?_, below_drewN' _ _ _⟩
        symm; rw [decide_eq_true_iff]
        have h := HT.out
        rw [List.take_of_length_le (by have := HLX.out; omega), List.take_of_length_le (by have := HLY.out; omega)] at h
        exact h
  · have he : ((la : Int) != (lb : Int)) = true := by rw [bne_iff_ne]; omega
    go_enter Try.func37, Try.ntmps37
    go_wp2
    go_ret
    refine ⟨ret_bool ?_, Below.refl _ _⟩
    symm; rw [decide_eq_false_iff_not]
    rintro rfl
    exact hne (HLX.out.symm.trans HLY.out)
theorem info8 : (Try.prog.info? 5).map (fun i => (i.zero, i.size, i.bytes)) = some (some (.int .u8 0), 1, 1) := by kernel_rfl
def pad : List (BitVec 8) := List.replicate 64 (BitVec.ofNat 8 165)
theorem length_pad : pad.length = 64 := by simp [pad]
theorem pad_get (k : Nat) (h : k < 64) : pad[k]? = some (BitVec.ofNat 8 165) := by
  unfold pad; rw [List.getElem?_replicate, if_pos h]
def padded (bs : List (BitVec 8)) : List (BitVec 8) := bs ++ pad
/-- What 'roomy' has laid behind k rounds. -/
def roomTo (bs : List (BitVec 8)) (k : Nat) : List (BitVec 8) := (padded bs).take k ++ List.replicate (bs.length + 64 - k) (BitVec.ofNat 8 0)
theorem length_padded (bs : List (BitVec 8)) : (padded bs).length = bs.length + 64 := by simp [padded, length_pad]
theorem length_roomTo (bs : List (BitVec 8)) (k : Nat) (h : k ≤ bs.length + 64) : (roomTo bs k).length = bs.length + 64 := by
  simp [roomTo, length_padded]; omega
theorem roomTo_zero (bs : List (BitVec 8)) : vals (roomTo bs 0) = (madeCells (Value.int .u8 0).cells ((bs.length + 64) * 1)).toList := by
  rw [show (Value.int .u8 0).cells = #[Value.int .u8 0] from rfl, toList_madeCells_one]
  simp [roomTo, vals, V8]
theorem roomTo_end (bs : List (BitVec 8)) : roomTo bs (bs.length + 64) = padded bs := by
  unfold roomTo; rw [List.take_of_length_le (by rw [length_padded]; omega)]; simp
theorem roomTo_step (bs : List (BitVec 8)) (k : Nat) (h : k < bs.length + 64) : (roomTo bs k).set k ((padded bs).getD k 0) = roomTo bs (k + 1) := by
  have hp : k < (padded bs).length := by rw [length_padded]; exact h
  unfold roomTo
  have hl : ((padded bs).take k).length = k := by rw [List.length_take]; omega
  rw [List.set_append_right _ _ (by omega), hl, Nat.sub_self, getD_take _ k hp,
    show bs.length + 64 - k = (bs.length + 64 - (k + 1)) + 1 by omega, List.replicate_succ, List.set_cons_zero, List.append_assoc]
  rfl
theorem vals_set (bs : List (BitVec 8)) (k : Nat) (c : BitVec 8) : (vals bs).set k (.int .u8 (c.toNat : Int)) = vals (bs.set k c) := by
  simp [vals, V8, List.map_set]
theorem padded_lt (bs : List (BitVec 8)) (k : Nat) (h : k < bs.length) : (padded bs).getD k 0 = bs.getD k 0 := by
  simp [padded, List.getElem?_append_left h]
theorem padded_ge (bs : List (BitVec 8)) (k : Nat) (h : bs.length ≤ k) (h2 : k < bs.length + 64) : (padded bs).getD k 0 = BitVec.ofNat 8 165 := by
  rw [List.getD_eq_getElem?_getD, padded, List.getElem?_append_right h, pad_get _ (by omega)]; rfl
theorem Own.len {w : World} {base g n cap : Nat} {bs : List (BitVec 8)} (h : Own w base (.slice (some ⟨g, 0, none⟩) n cap) bs) : n = bs.length := by
  rcases h.2 with ⟨h1, _⟩ | ⟨_, _, _, h1, _⟩
  · simp at h1
  · simp at h1; exact h1.2.1
theorem Own.cell {w : World} {base g n cap : Nat} {bs : List (BitVec 8)} (h : Own w base (.slice (some ⟨g, 0, none⟩) n cap) bs) (k : Nat) (hk : k < n) :
    w.cell? ⟨g, k, none⟩ = some (.int .u8 ((bs.getD k 0).toNat : Int)) := by
  have hn := h.len
  subst hn
  rw [World.ownsRow.cellAt h k (by omega), getD_vals bs k hk]
theorem Own.frozen {w : World} {base g n cap : Nat} {bs : List (BitVec 8)} (h : Own w base (.slice (some ⟨g, 0, none⟩) n cap) bs) (k : Nat) : w.frozen? ⟨g, k, none⟩ = false := by
  have hn := h.len
  subst hn
  exact World.ownsRow.frozenAt h k
theorem Own.store {w : World} {base g n cap : Nat} {bs : List (BitVec 8)} (h : Own w base (.slice (some ⟨g, 0, none⟩) n cap) bs) (k : Nat) (c : BitVec 8) :
    Own (w.setCell ⟨g, k, none⟩ (.int .u8 (c.toNat : Int))) base (.slice (some ⟨g, 0, none⟩) n cap) (bs.set k c) ∧ w.grownBy (w.setCell ⟨g, k, none⟩ (.int .u8 (c.toNat : Int))) (some g) := by
  have hn : n = bs.length := by
    rcases h.2 with ⟨h1, _⟩ | ⟨_, _, _, h1, _⟩
    · simp at h1
    · simp at h1; exact h1.2.1
  subst hn
  have := World.ownsRow.stored h k (.int .u8 (c.toNat : Int))
  unfold Own
  rw [List.length_set, ← vals_set]
  exact this
set_option maxHeartbeats 1000000 in
set_option maxRecDepth 100000 in
theorem roomy_any (a : Option Addr) (len cap : Nat) (bs : List (BitVec 8)) (w : World) (hr : Rd w a len bs) (hreach : len ≤ 140737488351232) :
    Calls Try.prog 34 #[.slice a len cap] w fun e w' => ∃ g, e = .returned (.slice (some ⟨g, 0, none⟩) (len + 64) (len + 64)) ∧ w.heap.size ≤ g ∧ Own w' w.heap.size (.slice (some ⟨g, 0, none⟩) (len + 64) (len + 64)) (padded bs) ∧ Below w.heap.size w w' := by
  obtain ⟨hl, hm, hc⟩ := hr
  have HL := hide hl
  have HC := hide hc
  clear hl hc
  obtain ⟨i0, hi, hz0, hz1, hz2⟩ := info_parts info8
  go_enter Try.func34, Try.ntmps34
  go_wp2_with (at_make; refine wpList_make_full _ rfl _ _ 25 rfl w.heap.size 5 i0 (.int .u8 0) 1 Try.underlying25 hi hz0 hz1 .i64 .i64 _ _ (len + 64) rfl rfl (by omega) (by omega) (by rw [hz2]; omega) (by unfold maxLen; omega) (Nat.le_refl _) ?_; intro w1 hown hgrow)
  have hb1 : Below w.heap.size w w1 := (Below.refl _ _).grown hgrow (Nat.le_refl _) (by intro k h; cases h)
  have ho1 : Own w1 w.heap.size (.slice (some ⟨w.heap.size, 0, none⟩) (len + 64) (len + 64)) (roomTo bs 0) := by
    unfold Own
    have hl := HL.out
    rw [length_roomTo _ _ (by omega), roomTo_zero, hl]
    exact hown
  clear hown hgrow
  go_loopw [4] (fun i wr => ∃ k : Nat, k ≤ len + 64 ∧ i = .int .i64 k ∧ Hid (Own wr w.heap.size (.slice (some ⟨w.heap.size, 0, none⟩) (len + 64) (len + 64)) (roomTo bs k)) ∧ Hid (Below w.heap.size w wr)) (fun i _ => len + 64 - (intOf i).toNat)
  case atStart => exact ⟨0, Nat.zero_le _, rfl, ho1, hb1⟩
  case round =>
    clear ho1 hb1
    obtain ⟨k, hk, rfl, HO, HB⟩ := hrel
    by_cases hlt : k < len + 64
    · have g1 := HO.out.cell k hlt
      generalize (roomTo bs k).getD k 0 = c0 at g1
      have g2 := HO.out.frozen k
      obtain ⟨ho', hg'⟩ := HO.out.store k (BitVec.ofNat 8 165)
      by_cases hlb : k < len
      · obtain ⟨b1, o1, rfl, hb1, hcell⟩ := unhide HC (by omega)
        have g3 := hcell k hlb
        clear hcell
        have g4 : wr.cell? ⟨b1, o1 + k, none⟩ = some (.int .u8 ((bs.getD k 0).toNat : Int)) := by
          rw [HB.out.cell (p := ⟨b1, o1 + k, none⟩) hb1]; exact g3
        clear g3
        generalize hC : bs.getD k 0 = c at g4
        have HCC := hide hC
        clear hC
        have hnb : b1 ≠ w.heap.size := by omega
        have ho2 := hide (ho'.store k c)
        have HO' := hide ho'
        clear ho' hg'
        go_wp2
        go_roundw
        case rel =>
          refine ⟨k + 1, by omega, by go_num, ?_, ?_⟩
          · have h := ho2.out.1
            rw [List.set_set, ← HCC.out, ← padded_lt bs k (by have := HL.out; omega), roomTo_step bs k (by have := HL.out; omega)] at h
            rw [padded_lt bs k (by have := HL.out; omega), HCC.out] at h
            exact h
          · exact (HB.out.setCell (Nat.le_refl _) _).setCell (Nat.le_refl _) _
        case measure => simp [intOf]; omega
      · have HO' := hide ho'
        clear ho' hg'
        go_wp2
        go_roundw
        case rel =>
          refine ⟨k + 1, by omega, by go_num, ?_, ?_⟩
          · have h := HO'.out
            rw [← padded_ge bs k (by have := HL.out; omega) (by have := HL.out; omega), roomTo_step bs k (by have := HL.out; omega),
              padded_ge bs k (by have := HL.out; omega) (by have := HL.out; omega)] at h
            exact h
          · exact HB.out.setCell (Nat.le_refl _) _
        case measure => simp [intOf]; omega
    · have hk' : k = len + 64 := by omega
      subst hk'
      go_wp2
      go_ret
      refine ⟨w.heap.size, rfl, Nat.le_refl _, ?_, HB.out⟩
      have h := HO.out
      rw [← HL.out, roomTo_end] at h
      rw [HL.out] at h
      exact h
/-- 'next' on a row of the call's own. -/
def inc (bs : List (BitVec 8)) : List (BitVec 8) := bs.map (· + BitVec.ofNat 8 1)
def incTo (bs : List (BitVec 8)) (k : Nat) : List (BitVec 8) := (inc bs).take k ++ bs.drop k
theorem length_inc (bs : List (BitVec 8)) : (inc bs).length = bs.length := by simp [inc]
theorem incTo_zero (bs : List (BitVec 8)) : incTo bs 0 = bs := by simp [incTo]
theorem incTo_end (bs : List (BitVec 8)) : incTo bs bs.length = inc bs := by
  unfold incTo; rw [List.take_of_length_le (by rw [length_inc]; omega)]; simp
theorem incTo_get (bs : List (BitVec 8)) (k : Nat) (h : k < bs.length) : (incTo bs k).getD k 0 = bs.getD k 0 := by
  have hl : ((inc bs).take k).length = k := by rw [List.length_take, length_inc]; omega
  rw [List.getD_eq_getElem?_getD, incTo, List.getElem?_append_right (by omega), hl, Nat.sub_self, List.getElem?_drop, Nat.add_zero, List.getD_eq_getElem?_getD]
theorem incTo_step (bs : List (BitVec 8)) (k : Nat) (h : k < bs.length) : (incTo bs k).set k (bs.getD k 0 + BitVec.ofNat 8 1) = incTo bs (k + 1) := by
  have hl : ((inc bs).take k).length = k := by rw [List.length_take, length_inc]; omega
  unfold incTo
  rw [List.set_append_right _ _ (by omega), hl, Nat.sub_self, getD_take _ k (by rw [length_inc]; exact h), List.drop_eq_getElem_cons h, List.set_cons_zero, List.append_assoc]
  congr 2
  rw [List.getD_eq_getElem?_getD, List.getElem?_eq_getElem h, List.getD_eq_getElem?_getD, inc, List.getElem?_map, List.getElem?_eq_getElem h]
  rfl
theorem inc_val (c : BitVec 8) : ((c.toNat : Int) + 1) % 256 = ((c + BitVec.ofNat 8 1).toNat : Int) := by
  rw [BitVec.toNat_add]; rfl
theorem grown_trans {w0 w1 w2 : World} {r : Option Nat} (h : w0.grownBy w1 r) (k : w1.grownBy w2 r) : w0.grownBy w2 r :=
  ⟨k.os.trans h.os, k.tape.trans h.tape, k.output.trans h.output, Nat.le_trans h.size k.size, fun i hi hne => (k.block i (Nat.lt_of_lt_of_le hi h.size) hne).trans (h.block i hi hne)⟩
set_option maxHeartbeats 1000000 in
set_option maxRecDepth 100000 in
theorem next_any (base g n cap : Nat) (bs : List (BitVec 8)) (w : World) (hr : Own w base (.slice (some ⟨g, 0, none⟩) n cap) bs) (hm : n ≤ 140737488355328) :
    Calls Try.prog 38 #[.slice (some ⟨g, 0, none⟩) n cap] w fun e w' => e = .returned (.slice (some ⟨g, 0, none⟩) n cap) ∧ Own w' base (.slice (some ⟨g, 0, none⟩) n cap) (inc bs) ∧ w.grownBy w' (some g) := by
  have HO := hide hr
  have HL := hide hr.len
  clear hr
  go_enter Try.func38, Try.ntmps38
  go_wp2
  go_loopw [3] (fun i wr => ∃ k : Nat, k ≤ n ∧ i = .int .i64 k ∧ Hid (Own wr base (.slice (some ⟨g, 0, none⟩) n cap) (incTo bs k)) ∧ Hid (w.grownBy wr (some g))) (fun i _ => n - (intOf i).toNat)
  case atStart => exact ⟨0, Nat.zero_le _, rfl, by rw [incTo_zero]; exact HO, World.grownBy.refl _ _⟩
  case round =>
    obtain ⟨k, hk, rfl, HO', HB⟩ := hrel
    by_cases hlt : k < n
    · have g1 := HO'.out.cell k hlt
      rw [incTo_get bs k (by have := HL.out; omega)] at g1
      have g2 := HO'.out.frozen k
      have hs := HO'.out.store k (bs.getD k 0 + BitVec.ofNat 8 1)
      rw [incTo_step bs k (by have := HL.out; omega)] at hs
      have hi := inc_val (bs.getD k 0)
      generalize bs.getD k 0 + BitVec.ofNat 8 1 = d at hs hi
      generalize bs.getD k 0 = c at g1 hi
      have HS := hide hs
      clear hs
      have hki : (k : Int) < (n : Int) := by omega
      go_wp2
      go_roundw
      case rel => exact ⟨k + 1, by omega, by go_num, HS.out.1, grown_trans HB.out HS.out.2⟩
      case measure => simp [intOf]; omega
    · have hk' : k = n := by omega
      subst hk'
      go_wp2
      go_ret
      refine ⟨rfl, ?_, HB.out⟩
      have h := HO'.out
      have e := HL.out
      rw [show incTo bs k = inc bs by rw [e, incTo_end]] at h
      exact h
end Go.Proofs.Ytpoholpedkikhab.Crc
