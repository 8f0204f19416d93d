/-
  What the program tells of tiles: stored, Seal, Open.
-/
import Derived.Test.YtpoholpedkikhabCrcFrame
import Derived.Test.YtpoholpedkikhabCrcTileMath
import Derived.Laws.CopyOwn
import Derived.Deep.RegionWith
import Derived.Deep.DeepCutAuto
namespace Go.Proofs.Ytpoholpedkikhab.Crc
open Go.ChangeShapes Go.WideShapes Go.ChangeAt Go.RowKit
theorem shl_step (s : BitVec 32) (c : BitVec 8) (k : Nat) : bits .or .u32 (s.toNat : Int) ((c.toNat : Int) * (2 : Int) ^ (8 * k) % 4294967296) = ((s ||| (c.setWidth 32 <<< (8 * k))).toNat : Int) := by
  have e : ((c.toNat : Int) * (2 : Int) ^ (8 * k) % 4294967296) = ((c.setWidth 32 <<< (8 * k)).toNat : Int) := by
    rw [BitVec.toNat_shiftLeft, BitVec.toNat_setWidth, Nat.mod_eq_of_lt (a := c.toNat) (by have := lt8 c; omega), Nat.shiftLeft_eq]
    rw [Int.natCast_emod, Int.natCast_mul, Int.natCast_pow]
    rfl
  rw [e, bor]
set_option maxHeartbeats 1000000 in
set_option maxRecDepth 100000 in
theorem stored_any (a : Option Addr) (cap : Nat) (bs : List (BitVec 8)) (w : World) (hr : Rd w a 4 bs) :
    Calls Try.prog 75 #[.slice a 4 cap] w fun e w' => e = .returned (.int .u32 ((le bs).toNat : Int)) ∧ w' = w := by
  obtain ⟨hl, hm, hc⟩ := hr
  obtain ⟨b, off, rfl, hb, hcell⟩ := hc (by omega)
  clear hc
  have HL := hide hl
  clear hl
  have HC := hide hcell
  clear hcell
  go_enter Try.func75, Try.ntmps75
  go_wp2
  go_loop [3, 5] (fun r i => ∃ k : Nat, k ≤ 4 ∧ i = .int .i64 k ∧ ∃ R : BitVec 32, r = .int .u32 (R.toNat : Int) ∧ Hid (R = leTo bs k)) (fun _ i => 4 - (intOf i).toNat)
  case atStart => exact ⟨0, Nat.zero_le _, rfl, BitVec.ofNat 32 0, rfl, rfl⟩
  case round =>
    obtain ⟨k, hk, rfl, R, rfl, HR⟩ := hrel
    by_cases hlt : k < 4
    · have g1 := HC.out k hlt
      have hx := shl_step R (bs.getD k 0) k
      obtain ⟨X, hX⟩ : ∃ X : BitVec 32, X = R ||| ((bs.getD k 0).setWidth 32 <<< (8 * k)) := ⟨_, rfl⟩
      rw [← hX] at hx
      have HX := hide hX
      clear hX
      generalize hC : bs.getD k 0 = c at g1 hx
      have HCC := hide hC
      clear hC
      go_wp2
      go_round
      case rel =>
        refine ⟨k + 1, by omega, by go_num, X, rfl, ?_⟩
        show X = _
        rw [HX.out, HR.out]
        rfl
      case measure => simp [intOf]; omega
    · have : k = 4 := by omega
      subst this
      go_wp2
      go_ret
      exact ⟨ret_int (by rw [HR.out]; rfl), rfl⟩
theorem Rd.cut {w : World} {a : Option Addr} {len : Nat} {bs : List (BitVec 8)} (h : Rd w a len bs) (m : Nat) (hm : m ≤ len) : Rd w a m (bs.take m) := by
  obtain ⟨h1, h2, h3⟩ := h
  refine ⟨by rw [List.length_take]; omega, by omega, fun hp => ?_⟩
  obtain ⟨b, off, rfl, hlt, hc⟩ := h3 (by omega)
  refine ⟨b, off, rfl, hlt, fun i hi => ?_⟩
  rw [hc i (by omega), List.getD_eq_getElem?_getD, List.getD_eq_getElem?_getD, List.getElem?_take, if_pos hi]
theorem Rd.from {w : World} {b off len : Nat} {bs : List (BitVec 8)} (h : Rd w (some ⟨b, off, none⟩) len bs) (m : Nat) (hm : m ≤ len) : Rd w (some ⟨b, off + m, none⟩) (len - m) (bs.drop m) := by
  obtain ⟨h1, h2, h3⟩ := h
  refine ⟨by rw [List.length_drop]; omega, by omega, fun hp => ?_⟩
  obtain ⟨b', off', e, hlt, hc⟩ := h3 (by omega)
  cases e
  refine ⟨b, off + m, rfl, hlt, fun i hi => ?_⟩
  rw [show off + m + i = off + (m + i) by omega, hc (m + i) (by omega), List.getD_eq_getElem?_getD, List.getD_eq_getElem?_getD, List.getElem?_drop]
theorem Own.heap {w : World} {base g n : Nat} {bs : List (BitVec 8)} (h : Own w base (.slice (some ⟨g, 0, none⟩) n n) bs) : w.heap[g]? = some (.cells (vals bs).toArray 5) := by
  have hn := h.len
  subst hn
  rcases h.2 with ⟨h1, _⟩ | ⟨g', cap', cur, e1, e2, e3, e4, e5, e6, e7⟩
  · simp at h1
  · simp only [Value.slice.injEq, Option.some.injEq, Addr.mk.injEq, and_true, true_and] at e1
    obtain ⟨rfl, rfl⟩ := e1
    rw [List.take_of_length_le (by simp; omega)] at e7
    rw [e3, ← e7]
theorem own_heap {w : World} {base g : Nat} {bs : List (BitVec 8)} (h : w.heap[g]? = some (.cells (vals bs).toArray 5)) (hb : base ≤ g) (hm : bs.length ≤ maxLen) : Own w base (.slice (some ⟨g, 0, none⟩) bs.length bs.length) bs :=
  ⟨by rw [length_vals]; omega, .inr ⟨g, bs.length, _, rfl, hb, h, Nat.le_refl _, hm, by simp [length_vals], by rw [List.take_of_length_le (by simp [length_vals])]⟩⟩
theorem info1 : (Try.prog.info? 5).map (·.size) = some 1 := by kernel_rfl
theorem vals_replicate (n : Nat) : (madeCells (Value.int .u8 0).cells (n * 1)).toList = vals (List.replicate n (BitVec.ofNat 8 0)) := by
  rw [show (Value.int .u8 0).cells = #[Value.int .u8 0] from rfl, toList_madeCells_one]
  simp [vals, V8]
theorem vals_one (bs : List (BitVec 8)) : ∀ v ∈ vals bs, v.oneCell' = true := by
  intro v hv
  simp only [vals, List.mem_map] at hv
  obtain ⟨c, _, rfl⟩ := hv
  rfl
theorem Rd.cells {w : World} {b off len : Nat} {bs : List (BitVec 8)} (h : Rd w (some ⟨b, off, none⟩) len bs) (j : Nat) (v : Value) (hv : (vals bs)[j]? = some v) : w.cell? ((⟨b, off, none⟩ : Addr).add j) = some v := by
  obtain ⟨h1, h2, h3⟩ := h
  have hj : j < bs.length := by
    have := (List.getElem?_eq_some_iff.1 hv).1
    rwa [length_vals] at this
  obtain ⟨b', off', e, hlt, hc⟩ := h3 (by omega)
  cases e
  rw [getD_vals bs j hj] at hv
  cases hv
  rw [show (⟨b, off, none⟩ : Addr).add j = ⟨b, off + j, none⟩ by simp [Addr.add]]
  exact hc j (by omega)
theorem splice_all (cur cs : List Value) (h : cs.length = cur.length) : splice cur 0 cs = cs := by
  unfold splice; rw [Nat.zero_add, h, List.drop_length]; simp
theorem Rd.cellsAt {w : World} {a : Option Addr} {len : Nat} {bs : List (BitVec 8)} (h : Rd w a len bs) (ad : Addr) (had : a = some ad) (j : Nat) (v : Value) (hv : (vals bs)[j]? = some v) : w.cell? (ad.add j) = some v := by
  obtain ⟨h1, h2, h3⟩ := h
  have hj : j < bs.length := by
    have := (List.getElem?_eq_some_iff.1 hv).1
    rwa [length_vals] at this
  obtain ⟨b', off', e, hlt, hc⟩ := h3 (by omega)
  rw [had] at e
  cases e
  rw [getD_vals bs j hj] at hv
  cases hv
  rw [show (⟨b', off', none⟩ : Addr).add j = ⟨b', off' + j, none⟩ by simp [Addr.add]]
  exact hc j (by omega)
/-- 'copy' into a row that the call itself made, as long as it is. -/
theorem copy_into {w0 w1 : World} {base g n b off sLen cap : Nat} {zs bs : List (BitVec 8)} (ho : Own w1 base (.slice (some ⟨g, 0, none⟩) n n) zs) (hr : Rd w1 (some ⟨b, off, none⟩) n bs) (hs : n ≤ sLen)
    (hb : Below base w0 w1) (hm : n ≤ maxLen) : ∃ w2, (∀ ty, (Builtin.copy_ #[25, 25] ty #[.slice (some ⟨g, 0, none⟩) n n, .slice (some ⟨b, off, none⟩) sLen cap]).run Try.prog w1 = .ok (.int .i64 n) w2) ∧
      Hid (Own w2 base (.slice (some ⟨g, 0, none⟩) n n) bs) ∧ Hid (Below base w0 w2) := by
  have hn := ho.len
  have hl := hr.1
  have hg := ho.heap
  have hgb := ho.lt'
  refine ⟨w1.setRow g (vals bs).toArray, fun ty => ?_, ?_, below_setRow hb hgb.1 _⟩
  · have h := run_copy_row Try.prog w1 25 25 ty 5 g 0 n n ⟨b, off, none⟩ sLen cap (vals zs).toArray 5 (vals bs) Try.underlying25 info1 hg
      (by rw [length_vals, hl]; exact (Nat.min_eq_right hs).symm) (fun j v hv => hr.cells j v hv) (by simp [length_vals]; omega) (vals_one _)
    rw [h]
    have e1 : List.take 0 (vals zs).toArray.toList ++ vals bs ++ List.drop (0 + (vals bs).length) (vals zs).toArray.toList = vals bs := by
      have : List.drop (0 + (vals bs).length) (vals zs).toArray.toList = [] := List.drop_eq_nil_of_le (by simp [length_vals]; omega)
      rw [this]; simp
    rw [e1, length_vals, hl]
    rfl
  · have h := own_heap (base := base) (bs := bs) (setRow_heap w1 g _ (vals bs).toArray _ _ hg) hgb.1 (by omega)
    rw [hl] at h
    exact h
/-- What is handed back: a slice of the call's own memory, or nil. -/
def Got (w : World) (base : Nat) (v : Value) (bs : List (BitVec 8)) : Prop := ∃ a n cap, v = .slice a n cap ∧ n = bs.length ∧ Own w base v bs
/-- The same, with no room to spare. -/
def Fit (w : World) (base : Nat) (v : Value) (bs : List (BitVec 8)) : Prop := ∃ a n, v = .slice a n n ∧ n = bs.length ∧ Own w base v bs
set_option maxHeartbeats 1000000 in
set_option maxRecDepth 100000 in
theorem open_fits (a : Option Addr) (len cap : Nat) (bs : List (BitVec 8)) (w : World) (hr : Rd w a len bs) (hcap : len ≤ cap) (hm : cap ≤ 140737488355328) :
    Calls Try.prog 62 #[.slice a len cap] w fun e w' => ∃ v, e = .returned (.tuple #[v, .int .i64 (openErr bs : Nat)]) ∧ Fit w' w.heap.size v (openBody bs) ∧ Below w.heap.size w w' := by
  have HL := hide hr.1
  by_cases h4 : len < 4
  · have hs : ((len : Int) - 4 < 0) := by omega
    go_enter Try.func62, Try.ntmps62
    go_wp2
    go_ret2
    have e : openErr bs = 11 := open_short bs (by have := HL.out; omega)
    refine ⟨.slice none 0 0, by rw [e]; rfl, ⟨none, 0, rfl, ?_, ?_⟩, Below.refl _ _⟩
    · simp [openBody, e]
    · simp [openBody, e]; exact World.ownsRow_nil _ _ _ _
  · obtain ⟨n, rfl⟩ : ∃ n, len = n + 4 := ⟨len - 4, by omega⟩
    have R := hide hr
    clear hr
    obtain ⟨b, off, rfl, hbl, -⟩ := R.out.2.2 (by omega)
    have hsub : (((n + 4 : Nat) : Int) - 4) = (n : Int) := by omega
    go_enter Try.func62, Try.ntmps62
    go_wp2_with fail
    have CS := fun (wx : World) (hx : Below w.heap.size w wx) => sum_any (some ⟨b, off, none⟩) n cap (bs.take n) wx ((R.out.below hx).cut n (by omega))
    have CT := fun (wx : World) (hx : Below w.heap.size w wx) => stored_any (some ⟨b, off + n, none⟩) (cap - n) (bs.drop n) wx (by have h := (R.out.below hx).from n (by omega); rwa [Nat.add_sub_cancel_left] at h)
    have HCS := hide CS
    have HCT := hide CT
    clear CS CT
    go_cut [19] (fun s wx => s = .bool (((sum (bs.take n)).toNat : Int) != ((le (bs.drop n)).toNat : Int)) ∧ Hid (Below w.heap.size w wx))
    case first =>
      go_region_with (first
        | (go_at_call 23; refine (unhide HCS _ ?_).mono ?_; exact (Below.refl _ _).drew; rintro e w1 ⟨rfl, hb1⟩; have HB1 := hide (below_trans ((Below.refl w.heap.size w).drew) hb1); clear hb1)
        | (go_at_call 75; refine (unhide HCT _ ?_).mono ?_; exact HB1.out; rintro e w2 ⟨rfl, rfl⟩))
      all_goals (go_wp2_with fail; go_meet; exact ⟨rfl, HB1⟩)
    case rest =>
      obtain ⟨rfl, HB⟩ := hcut
      have HF := hide (Rd.below R.out HB.out)
      have hzz : HB = HB := rfl
      clear HCS HCT hzz
      by_cases hs : sum (bs.take n) = le (bs.drop n)
      · have e0 : openErr bs = 0 := by
          unfold openErr
          rw [if_neg (by have := HL.out; omega), HL.out, Nat.add_sub_cancel, if_pos hs]
        have eb : openBody bs = bs.take n := by
          unfold openBody; rw [if_pos e0, HL.out, Nat.add_sub_cancel]
        have hq : (((sum (bs.take n)).toNat : Int) != ((le (bs.drop n)).toNat : Int)) = false := by rw [hs]; simp
        rw [hq]
        clear hq
        have E0 := hide e0
        have EB := hide eb
        clear e0 eb hs
        obtain ⟨i0, hi, hz0, hz1, hz2⟩ := info_parts info8
        have hsz := HB.out.size
        have LT : Hid ((bs.take n).length = n) := by
          show (bs.take n).length = n
          rw [List.length_take, HL.out]; omega
        go_wp2_with (
          at_make; refine wpList_make_full _ rfl _ _ 25 rfl w.heap.size 5 i0 (.int .u8 0) 1 Try.underlying25 hi hz0 hz1 .i64 .i64 _ _ n rfl rfl rfl rfl (by rw [hz2]; omega) (by unfold maxLen; omega) hsz ?_
          intro w1 hown hgrow
          obtain ⟨w2, hrun, HO2, HB2⟩ := copy_into (w0 := w) (base := w.heap.size) (g := wc.heap.size) (n := n) (zs := List.replicate n (BitVec.ofNat 8 0)) (bs := bs.take n) (b := b) (off := off) (sLen := n + 4) (cap := cap)
            (by unfold Own; rw [List.length_replicate, ← vals_replicate]; exact hown) ((R.out.below (HB.out.grown hgrow hsz (by intro k h; cases h))).cut n (by omega)) (by omega) (HB.out.grown hgrow hsz (by intro k h; cases h)) (by unfold maxLen; omega)
          clear hown hgrow)
        go_ret2
        refine ⟨_, by rw [E0.out]; rfl, ⟨some ⟨wc.heap.size, 0, none⟩, n, rfl, by rw [EB.out, LT.out], by rw [EB.out]; exact HO2.out⟩, HB2.out⟩
      · have e0 : openErr bs = 10 := by
          unfold openErr
          rw [if_neg (by have := HL.out; omega), HL.out, Nat.add_sub_cancel, if_neg hs]
        have eb : openBody bs = [] := by
          unfold openBody; rw [if_neg (by omega)]
        have hq : (((sum (bs.take n)).toNat : Int) != ((le (bs.drop n)).toNat : Int)) = true := by
          rw [bne_iff_ne]; intro h; exact hs (BitVec.eq_of_toNat_eq (by omega))
        rw [hq]
        clear hq
        have E0 := hide e0
        have EB := hide eb
        clear e0 eb hs
        go_wp2
        go_ret2
        refine ⟨.slice none 0 0, by rw [E0.out]; rfl, ⟨none, 0, rfl, by rw [EB.out]; rfl, by rw [EB.out]; exact World.ownsRow_nil _ _ _ _⟩, HB.out⟩
theorem open_any (a : Option Addr) (len cap : Nat) (bs : List (BitVec 8)) (w : World) (hr : Rd w a len bs) (hcap : len ≤ cap) (hm : cap ≤ 140737488355328) :
    Calls Try.prog 62 #[.slice a len cap] w fun e w' => ∃ v, e = .returned (.tuple #[v, .int .i64 (openErr bs : Nat)]) ∧ Got w' w.heap.size v (openBody bs) ∧ Below w.heap.size w w' :=
  (open_fits a len cap bs w hr hcap hm).mono fun _ _ ⟨v, h1, ⟨a', n', h2, h3, h4⟩, h5⟩ => ⟨v, h1, ⟨a', n', n', h2, h3, h4⟩, h5⟩
end Go.Proofs.Ytpoholpedkikhab.Crc
