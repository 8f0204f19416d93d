/-
  The walk of the statement CrcLinear.
-/
import Derived.Test.YtkooijlldpiljaaCrcWorks
import Derived.Test.YtkooijlldpiljaaCrcLinearMath
import Derived.Deep.RegionLaw
import Derived.Deep.RegionHeld
namespace Go.Proofs.Ytkooijlldpiljaa.crcLinear
open Go.ChangeShapes Go.WideShapes Go.ChangeAt Go.RowKit
open Go.Proofs.Ytkooijlldpiljaa.Crc
set_option linter.unusedVariables false
/-- append onto a slice of the call's own, as one step of a region that draws its order. -/
theorem step_append_own {P : Program} {ops : Array Oper} {o : Oper} {a : Act} {w : World} {K : Act → World → Prop} {Q : Exit → Act → World → Prop} {E : Prop} (hg : o.guard = none) (s x : Operand) (t : TypeId)
    (ho : o.op = .call { callee := .builtin .append, args := #[s, x], argTypes := #[t, t] })
    (base : Nat) (e : TypeId) (i : TypeInfo) (z : Value) (size bytes : Nat) (ht : P.underlying t = some (.slice e)) (hi : P.info? e = some i) (hz : i.zero = some z)
    (hsize : i.size = size) (hby : i.bytes = bytes) (hzs : z.cells.size = size) (hsz : 0 < size)
    (v : Value) (n : Nat) (xs : List Value) (hs : a.eval s = v) (hown : w.ownsRow base e size v n xs)
    (ad : Addr) (m c : Nat) (news : List Value) (hx : a.eval x = .slice (some ad) m c) (hl : news.length = m * size) (hnews : ∀ j u, news[j]? = some u → w.cell? (ad.add j) = some u) (h1 : ∀ u ∈ news, u.oneCell' = true)
    (hmax : n + m ≤ maxLen) (hbytes : (n + m) * bytes ≤ 140737488355328) (hbase : base ≤ w.heap.size)
    (h : ∀ v' w', w'.ownsRow base e size v' (n + m) (xs ++ news) → w.grownBy w' v.ownBlock → (v' = .slice none 0 0 ↔ v = .slice none 0 0 ∧ m = 0) → K (a.put o.dst v') w') :
    if Region.wanted o (yielded ops a.tmps) = true then Oper.wp P o a w K Q else E := by
  have hw : Region.wanted o (yielded ops a.tmps) = true := by simp [Region.wanted, hg]
  rw [if_pos hw]
  exact wp_append_own w s x t ho base e i z size bytes ht hi hz hsize hby hzs hsz v n xs hs hown ad m c news hx hl hnews h1 hmax hbytes hbase h
theorem own_blk {w : World} {base : Nat} {v : Value} {bs : List (BitVec 8)} (h : Own w base v bs) : ∀ k, v.ownBlock = some k → base ≤ k := fun k e => (World.ownsRow.lt h k e).1
theorem bxor_u8 (x y : BitVec 8) : bits .xor .u8 (x.toNat : Int) (y.toNat : Int) = ((x ^^^ y).toNat : Int) := by
  rw [u8_xor_nat _ _ (lt8 x) (lt8 y), BitVec.toNat_xor]
theorem xor3_bytes (x y z : BitVec 8) : ∃ u v : BitVec 8, bits .xor .u8 (x.toNat : Int) (y.toNat : Int) = (u.toNat : Int) ∧ bits .xor .u8 (u.toNat : Int) (z.toNat : Int) = (v.toNat : Int) ∧ Hid (v = x ^^^ y ^^^ z) :=
  ⟨x ^^^ y, x ^^^ y ^^^ z, bxor_u8 x y, bxor_u8 _ z, rfl⟩
/-- What came in three times, taken to k, xor-ed. -/
def upTo (ps qs rs : List (BitVec 8)) (k : Nat) : List (BitVec 8) := xor3 (ps.take k) (qs.take k) (rs.take k)
theorem upTo_succ (ps qs rs : List (BitVec 8)) (k : Nat) (h1 : k < ps.length) (h2 : k < qs.length) (h3 : k < rs.length) :
    upTo ps qs rs (k + 1) = upTo ps qs rs k ++ [ps.getD k 0 ^^^ qs.getD k 0 ^^^ rs.getD k 0] := by
  unfold upTo
  rw [getD_take ps k h1, getD_take qs k h2, getD_take rs k h3, xor3_snoc]
  · simp; omega
  · simp; omega
theorem length_upTo (ps qs rs : List (BitVec 8)) (k : Nat) (h1 : k ≤ ps.length) (h2 : k ≤ qs.length) (h3 : k ≤ rs.length) : (upTo ps qs rs k).length = k := by
  unfold upTo
  rw [length_xor3 _ _ _ (by simp; omega) (by simp; omega)]
  simp; omega
set_option maxHeartbeats 2000000 in
theorem walk (a0 : Option Addr) (len0 cap0 : Nat) (b0 : List (BitVec 8)) (a1 : Option Addr) (len1 cap1 : Nat) (b1 : List (BitVec 8)) (a2 : Option Addr) (len2 cap2 : Nat) (b2 : List (BitVec 8)) (w : World)
    (r0 : Rd w a0 len0 b0) (l0 : len0 ≤ cap0) (m0 : cap0 ≤ 140737488351232) (z0 : a0 = none → len0 = 0 ∧ cap0 = 0)
    (r1 : Rd w a1 len1 b1) (l1 : len1 ≤ cap1) (m1 : cap1 ≤ 140737488351232) (z1 : a1 = none → len1 = 0 ∧ cap1 = 0)
    (r2 : Rd w a2 len2 b2) (l2 : len2 ≤ cap2) (m2 : cap2 ≤ 140737488351232) (z2 : a2 = none → len2 = 0 ∧ cap2 = 0) :
    Calls Try.prog 5 #[.slice a0 len0 cap0, .slice a1 len1 cap1, .slice a2 len2 cap2] w fun e w' => e = .returned (.bool true) ∧ Below w.heap.size w w' := by
  have HL0 := hide r0.1
  have HL1 := hide r1.1
  have HL2 := hide r2.1
  have R0 := hide r0
  have R1 := hide r1
  have R2 := hide r2
  clear r0 r1 r2 z0 z1 z2
  obtain ⟨i0, hi, hz0, hz1, hz2⟩ := info_parts info8
  obtain ⟨n, hn⟩ : ∃ n, n = min (min len0 len1) len2 := ⟨_, rfl⟩
  have hn0 : n ≤ len0 := by omega
  have hn1 : n ≤ len1 := by omega
  have hn2 : n ≤ len2 := by omega
  have hmin : ∀ ts t wx, (Builtin.min_ ts t #[.int .i64 (len0 : Int), .int .i64 (len1 : Int), .int .i64 (len2 : Int)]).run Try.prog wx = .ok (.int .i64 (n : Int)) wx := by
    intro ts t wx
    have e : (if (len2 : Int) < (if (len1 : Int) < (len0 : Int) then (len1 : Int) else (len0 : Int)) then (len2 : Int) else (if (len1 : Int) < (len0 : Int) then (len1 : Int) else (len0 : Int))) = (n : Int) := by
      split <;> split at * <;> omega
    simp only [Int.ofNat_lt] at e
    simp [Builtin.min_, Builtin.min2, e]
  clear hn
  go_enter Try.func5, Try.ntmps5
  go_wp2_with fail
  go_loopw [8, 9] (fun d i wr => ∃ k : Nat, k ≤ n ∧ i = .int .i64 k ∧ Hid (Own wr w.heap.size d (upTo b0 b1 b2 k)) ∧ Hid (Below w.heap.size w wr)) (fun _ i _ => n - (intOf i).toNat)
  case atStart => exact ⟨0, Nat.zero_le _, rfl, World.ownsRow_nil _ _ _ _, Below.refl _ _⟩
  case round =>
    obtain ⟨k, hk, rfl, HO, HB⟩ := hrel
    by_cases hlt : k < n
    · obtain ⟨p0, o0, rfl, hp0, hc0⟩ := R0.out.2.2 (by omega)
      obtain ⟨p1, o1, rfl, hp1, hc1⟩ := R1.out.2.2 (by omega)
      obtain ⟨p2, o2, rfl, hp2, hc2⟩ := R2.out.2.2 (by omega)
      have g0 : wr.cell? ⟨p0, o0 + k, none⟩ = some (.int .u8 ((b0.getD k 0).toNat : Int)) := by rw [HB.out.cell (p := ⟨p0, o0 + k, none⟩) hp0]; exact hc0 k (by omega)
      have g1 : wr.cell? ⟨p1, o1 + k, none⟩ = some (.int .u8 ((b1.getD k 0).toNat : Int)) := by rw [HB.out.cell (p := ⟨p1, o1 + k, none⟩) hp1]; exact hc1 k (by omega)
      have g2 : wr.cell? ⟨p2, o2 + k, none⟩ = some (.int .u8 ((b2.getD k 0).toNat : Int)) := by rw [HB.out.cell (p := ⟨p2, o2 + k, none⟩) hp2]; exact hc2 k (by omega)
      clear hc0 hc1 hc2
      have HU := hide (upTo_succ b0 b1 b2 k (by have := HL0.out; omega) (by have := HL1.out; omega) (by have := HL2.out; omega))
      generalize b0.getD k 0 = x at g0 HU
      generalize b1.getD k 0 = y at g1 HU
      generalize b2.getD k 0 = z at g2 HU
      obtain ⟨u, v, hu, hv, HV⟩ := xor3_bytes x y z
      have j0 : (k : Int) < (len0 : Int) := by omega
      have j1 : (k : Int) < (len1 : Int) := by omega
      have j2 : (k : Int) < (len2 : Int) := by omega
      have hd : decide ((k : Int) < (n : Int)) = true := by simp; omega
      have HLU := hide (length_upTo b0 b1 b2 k (by have := HL0.out; omega) (by have := HL1.out; omega) (by have := HL2.out; omega))
      have e1 : k + 1 ≤ n := by omega
      have e2 : Hid (Value.int .i64 ((k : Int) + 1) = .int .i64 ((k + 1 : Nat) : Int)) := by show _ = _; go_num
      have e3 : Hid (n - (intOf (Value.int .i64 ((k : Int) + 1))).toNat < n - (intOf (Value.int .i64 (k : Int))).toNat) := by
        show n - ((k : Int) + 1).toNat < n - (k : Int).toNat
        omega
      have hsz := HB.out.size
      have HA : Hid (∀ wx, Below wr.heap.size wr wx → wx.ownsRow w.heap.size 5 1 u8 k (vals (upTo b0 b1 b2 k))) := by
        intro wx hx
        have h := HO.out.below hx
        unfold Own at h
        rw [HLU.out] at h
        exact h
      go_wp2_with fail
      go_region_law (refine step_append_own rfl (.tmp 22) (.tmp 37) 25 rfl w.heap.size 5 i0 (.int .u8 0) 1 1 Try.underlying25 hi hz0 hz1 hz2 rfl (by decide) u8 k (vals (upTo b0 b1 b2 k)) (by simp [Act.eval]) (HA.out _ (((Below.refl _ _).alloc (Nat.le_refl _) _).drew)) ⟨wr.heap.size, 0, none⟩ 1 1 [.int .u8 (v.toNat : Int)] (by simp [Act.eval]) rfl (fun j q hq => cell_one_new wr _ _ j q hq) (vals_one [v]) (by unfold maxLen; omega) (by omega) (by simp; omega) ?_; intro v' w' hown' hgrow' _)
      all_goals
        have HO1 : Hid (Own w' w.heap.size v' (upTo b0 b1 b2 (k + 1))) := by
          show Own _ _ _ _
          rw [HU.out, ← HV.out]
          exact own_append hown' (by rw [HLU.out]; rfl)
        have HB1 : Hid (Below w.heap.size w w') := ((HB.out.alloc hsz _).drew).grown hgrow' (by simp; omega) (fun q e => own_blk HO.out q e)
        clear hown' hgrow'
        go_wp2_with fail
        go_roundw <;> first | exact e3.out | exact ⟨k + 1, e1, e2.out, HO1, HB1⟩
    · have hk' : k = n := by omega
      subst hk'
      have hsh : ∃ a m c, u8 = .slice a m c := by
        rcases HO.out.2 with ⟨h1, _⟩ | ⟨g, c, cur, h1, _⟩
        · exact ⟨_, _, _, h1⟩
        · exact ⟨_, _, _, h1⟩
      obtain ⟨ad, md, cd, rfl⟩ := hsh
      have hd : decide ((k : Int) < (k : Int)) = false := by simp
      have HLU := hide (length_upTo b0 b1 b2 k (by have := HL0.out; omega) (by have := HL1.out; omega) (by have := HL2.out; omega))
      have CD := hide (fun (wx : World) (hx : Below wr.heap.size wr wx) => sum_any ad md cd (upTo b0 b1 b2 k) wx (Got.rd (HO.out.below hx) (by rw [HLU.out]; omega)))
      have C0 := hide (fun (wx : World) (hx : Below wr.heap.size wr wx) => sum_any a0 k cap0 (b0.take k) wx ((R0.out.below (below_trans HB.out hx)).cut k (by omega)))
      have C1 := hide (fun (wx : World) (hx : Below wr.heap.size wr wx) => sum_any a1 k cap1 (b1.take k) wx ((R1.out.below (below_trans HB.out hx)).cut k (by omega)))
      have C2 := hide (fun (wx : World) (hx : Below wr.heap.size wr wx) => sum_any a2 k cap2 (b2.take k) wx ((R2.out.below (below_trans HB.out hx)).cut k (by omega)))
      have hs : sum (upTo b0 b1 b2 k) = sum (b0.take k) ^^^ sum (b1.take k) ^^^ sum (b2.take k) :=
        sum_xor3 _ _ _ (by have := HL0.out; have := HL1.out; simp; omega) (by have := HL0.out; have := HL2.out; simp; omega)
      have x1 := bxor (sum (b0.take k)) (sum (b1.take k))
      have x2 := bxor (sum (b0.take k) ^^^ sum (b1.take k)) (sum (b2.take k))
      rw [← hs] at x2
      generalize sum (b0.take k) ^^^ sum (b1.take k) = X at x1 x2
      generalize sum (upTo b0 b1 b2 k) = S at x2 CD
      generalize sum (b0.take k) = S0 at x1 C0
      generalize sum (b1.take k) = S1 at x1 C1
      generalize sum (b2.take k) = S2 at x2 C2
      have q1 : ((S.toNat : Int) == (S.toNat : Int)) = true := by simp
      clear hs
      have y0 : k ≤ cap0 := by omega
      have y1 : k ≤ cap1 := by omega
      have y2 : k ≤ cap2 := by omega
      go_wp2_with fail
      go_region_held (fun _ => True) (trivial) (first
        | (go_at_call 14; refine (works_any _).mono ?_; rintro e v1 ⟨rfl, hbw⟩; have HBw := hide (below_trans ((Below.refl wr.heap.size wr).drew) hbw); clear hbw)
        | (go_at_call_of 15 (Value.slice ad md cd); refine (CD.out _ ?_).mono ?_; exact HBw.out; rintro e v2 ⟨rfl, hbd⟩; have HBd := hide (below_trans HBw.out hbd); clear hbd)
        | (go_at_call_of 15 (Value.slice a0 k cap0); refine (C0.out _ ?_).mono ?_; exact HBd.out; rintro e v3 ⟨rfl, hba⟩; have HBa := hide (below_trans HBd.out hba); clear hba)
        | (go_at_call_of 15 (Value.slice a1 k cap1); refine (C1.out _ ?_).mono ?_; exact HBa.out; rintro e v4 ⟨rfl, hbb⟩; have HBb := hide (below_trans HBa.out hbb); clear hbb)
        | (go_at_call_of 15 (Value.slice a2 k cap2); refine (C2.out _ ?_).mono ?_; exact HBb.out; rintro e v5 ⟨rfl, hbc⟩; have HBc := hide (below_trans HBb.out hbc); clear hbc))
      all_goals
        go_wp2_with fail
        go_ret
        exact ⟨rfl, below_trans HB.out HBc.out⟩
end Go.Proofs.Ytkooijlldpiljaa.crcLinear
