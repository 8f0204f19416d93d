/-
  Lists that are written over and added to keep what was written; what lies behind their end is theirs.
-/
import Derived.Test.YtbmbhcjocgbbpaaFaSpo
namespace Go.Proofs.Ytbmbhcjocgbbpaa.Fa
open Go.ChangeShapes Go.WideShapes Go.ChangeAt Go.RowKit
open Go.Proofs.Ytbmbhcjocgbbpaa.Base
set_option linter.unusedVariables false
theorem own_any_shape2 {w : World} {base n : Nat} {v : Value} {xs : List Value} (h : w.ownsRow base 25 8 v n xs) : ∃ a c, v = .slice a n c := by
  rcases h.2 with ⟨h1, h2⟩ | ⟨g, c, cur, h1, _⟩
  · subst h2; exact ⟨_, _, h1⟩
  · exact ⟨_, _, h1⟩
theorem spo_below {w w' : World} {H : Nat} {ao : Option Addr} {n c z k : Nat} {v : Value} (h : Spo w H ao n c z k v) (hb : Below w.heap.size w w') : Spo w' H ao n c z k v := by
  rcases h with h | ⟨hk, xs, hxs⟩
  · exact .inl h
  · refine .inr ⟨hk, xs, World.ownsRow.kept (row := none) hxs (below_grown hb) ?_⟩
    cases hv : v.ownBlock with
    | none => exact .inl rfl
    | some k => exact .inr (by simp)
theorem spo_shape {w : World} {H : Nat} {ao : Option Addr} {n c z k : Nat} {v : Value} (h : Spo w H ao n c z k v) : ∃ va vc, v = .slice va (z + k) vc := by
  rcases h with ⟨h, _⟩ | ⟨_, xs, hxs⟩
  · exact ⟨_, _, h⟩
  · exact own_any_shape2 hxs
set_option maxHeartbeats 8000000 in
set_option maxRecDepth 100000 in
/-- A list of the call's own is written over and added to. -/
theorem spoil_own (base : Nat) (a : Option Addr) (n c : Nat) (fs : List Flt) (mk : Int) (w : World) (ho : OwnL w base (.slice a n c) fs) (hb : base ≤ w.heap.size) (hl : n ≤ 2199023255488) (h1 : -4611686018427387904 ≤ mk) (h2 : mk ≤ 4611686018427387904) :
    Calls Try.prog 27 #[.slice a n c, .int .i64 mk] w fun e w' => e = .returned (.int .i64 ((n : Int) + 64)) ∧ OwnL w' base (.slice a n c) (List.replicate n (ovF mk)) ∧ w.grownBy w' (Value.slice a n c).ownBlock := by
  have hneg : IntKind.i64.wrap (-mk) = -mk := by rw [IntKind.wrap_i64]; omega
  have hlen := ho.len.1
  have HLN := hide hlen
  have HO := hide ho
  have HLT : Hid (∀ i, (Value.slice a n c).ownBlock = some i → i < w.heap.size) := fun i e => (ho.blk i e).2
  have HAO : Hid (n < c ∨ 0 < n → ∃ g, a = some ⟨g, 0, none⟩ ∧ a = some ⟨g, (n - n) * 8, none⟩) := by
    intro hq
    rcases ho.2 with ⟨q1, q2⟩ | ⟨g, cap, cur, q1, _⟩
    · simp only [Value.slice.injEq] at q1; omega
    · simp only [Value.slice.injEq] at q1
      exact ⟨g, q1.1, by rw [Nat.sub_self, Nat.zero_mul]; exact q1.1⟩
  have HCN := hide ho.len.2.1
  clear ho hlen
  go_enter Try.func27, Try.ntmps27
  go_wp2_with fail
  go_loopw [5] (fun si wr => ∃ i : Nat, i ≤ n ∧ .int .i64 (i : Int) = si ∧ Hid (OwnL wr base (.slice a n c) (spF fs mk i)) ∧ Hid (w.grownBy wr (Value.slice a n c).ownBlock)) (fun si _ => n - (intOf si).toNat)
  case atStart => exact ⟨0, by omega, rfl, (by show OwnL _ _ _ _; unfold spF; simpa using HO.out), World.grownBy.refl _ _⟩
  case round =>
    clear HO
    obtain ⟨i, hi, rfl, HO, HG⟩ := hrel
    by_cases hin : i < n
    · have hii : (i : Int) < (n : Int) := by omega
      obtain ⟨g, rfl⟩ : ∃ g, a = some ⟨g, 0, none⟩ := by
        rcases HO.out.2 with ⟨q1, q2⟩ | ⟨g, cap, cur, q1, _⟩
        · rw [spF_len _ _ _ (by have := HLN.out; omega)] at q2; have := HLN.out; omega
        · simp only [Value.slice.injEq] at q1; exact ⟨g, q1.1⟩
      obtain ⟨hra, _, _⟩ := own_fa HO.out
      obtain ⟨d0, d1, d2, d3, d4, d5, d6, d7⟩ := hra.at8 i hin
      have z0 := hra.frozen (i * 8)
      have z1 := hra.frozen (i * 8 + 1)
      have z2 := hra.frozen (i * 8 + 2)
      have z3 := hra.frozen (i * 8 + 3)
      have z4 := hra.frozen (i * 8 + 4)
      have z5 := hra.frozen (i * 8 + 5)
      have z6 := hra.frozen (i * 8 + 6)
      have z7 := hra.frozen (i * 8 + 7)
      obtain ⟨w5, hw5⟩ : ∃ w5, ((((((((wr.setCell ⟨g, i * 8, none⟩ (.int .i64 mk)).setCell ⟨g, i * 8 + 1, none⟩ (.int .i64 0)).setCell ⟨g, i * 8 + 2, none⟩ (.int .i64 0)).setCell ⟨g, i * 8 + 3, none⟩ (.int .i64 0)).setCell ⟨g, i * 8 + 4, none⟩ (.int .i64 0)).setCell ⟨g, i * 8 + 5, none⟩ (.int .i64 0)).setCell ⟨g, i * 8 + 6, none⟩ (.int .i64 0)).setCell ⟨g, i * 8 + 7, none⟩ (.int .u32 0)) = w5 := ⟨_, rfl⟩
      have hw5' : set8 wr g (i * 8) (ovF mk) = w5 := hw5
      have HO5 : Hid (OwnL w5 base (.slice (some ⟨g, 0, none⟩) n c) (spF fs mk (i + 1))) := by
        rw [← hw5', ← spF_next fs mk i (by have := HLN.out; omega)]
        exact HO.out.put i hin (ovF mk)
      have HG5 : Hid (w.grownBy w5 (some g)) := by rw [← hw5']; exact grown_set8 HG.out _ _
      clear hra hw5'
      go_wp2_with fail
      go_roundw
      case rel => exact ⟨i + 1, by omega, by go_num, HO5, HG5⟩
      case measure => simp [intOf]; omega
    · obtain rfl : i = n := by omega
      have HOE : Hid (OwnL wr base (.slice a i c) (List.replicate i (ovF mk))) := by
        have h3 := HO.out
        unfold spF at h3
        rw [List.drop_of_length_le (by have := HLN.out; omega), List.append_nil] at h3
        exact h3
      go_wp2_with fail
      go_loopw [0, 6] (fun s0 si wq => ∃ (k : Nat) (v : Value), k ≤ 64 ∧ v = s0 ∧ .int .i64 (k : Int) = si ∧ Hid (OwnL wq base (.slice a i c) (List.replicate i (ovF mk))) ∧ Hid (Spo wq w.heap.size a i c i k v) ∧ Hid (w.grownBy wq (Value.slice a i c).ownBlock)) (fun _ si _ => 64 - (intOf si).toNat)
      case atStart => exact ⟨0, _, by omega, rfl, rfl, HOE, .inl ⟨by rw [show i + (c - i) = c by have := HCN.out; omega]; rfl, HCN.out⟩, HG⟩
      case round =>
        clear HO HG HOE
        obtain ⟨k, v, hk, rfl, rfl, HO, HV, HG⟩ := hrel
        by_cases hk4 : k < 64
        · have hki : (k : Int) < 64 := by omega
          obtain ⟨g5, hg5⟩ : ∃ g, wr.heap.size = g := ⟨_, rfl⟩
          obtain ⟨w5, hw5⟩ : ∃ w5, wr.alloc (.cells #[.int .i64 (-mk), .int .i64 0, .int .i64 0, .int .i64 0, .int .i64 0, .int .i64 0, .int .i64 0, .int .u32 0] 25) = w5 := ⟨_, rfl⟩
          have HB5 : Hid (Below wr.heap.size wr w5) := by rw [← hw5]; exact (Below.refl _ _).alloc (Nat.le_refl _) _
          have HR5 : Hid (FB w5 g5 (ovF (-mk))) := by rw [← hw5, ← hg5]; exact heap_alloc_new _ _
          have HO5 := hide (HO.out.below HB5.out)
          have HV5 := hide (spo_below HV.out HB5.out)
          have HG5 : Hid (w.grownBy w5 (Value.slice a i c).ownBlock) := grown_new HG.out (below_grown HB5.out) (fun j e => by cases e)
          go_wp2_with (at_builtin; refine pushSpo w _ rfl _ _ rfl base a i c i k (List.replicate i (ovF mk)) HO5.out a (Nat.le_refl _) HAO.out v rfl HV5.out (.inl rfl) HG5.out HLT.out g5 (ovF (-mk)) rfl (fb_at8 HR5.out) (by omega) ?_; intro v6 w6 ho6 hv6 hg6; have HO6 := hide ho6; have HV6 := hide hv6; have HG6 := hide hg6; clear ho6 hv6 hg6)
          go_roundw
          case rel => exact ⟨k + 1, _, by omega, rfl, by go_num, HO6, HV6, HG6⟩
          case measure => simp [intOf]; omega
        · obtain rfl : k = 64 := by omega
          obtain ⟨va, vc, hv⟩ := spo_shape HV.out
          subst hv
          go_wp2_with fail
          go_ret
          exact ⟨by simp, HO.out, HG.out⟩
set_option maxHeartbeats 8000000 in
set_option maxRecDepth 100000 in
/-- What lies behind the end of a list of the call's own is added to: the list stays. -/
theorem spoil_end (base : Nat) (a ao : Option Addr) (n c : Nat) (fs : List Flt) (mk : Int) (w : World) (ho : OwnL w base (.slice a n c) fs) (hb : base ≤ w.heap.size) (hl : n ≤ 2199023255488) (h1 : -4611686018427387904 ≤ mk) (h2 : mk ≤ 4611686018427387904)
    (hao : n < c → ∃ g, a = some ⟨g, 0, none⟩ ∧ ao = some ⟨g, n * 8, none⟩) :
    Calls Try.prog 27 #[.slice ao 0 (c - n), .int .i64 mk] w fun e w' => e = .returned (.int .i64 64) ∧ OwnL w' base (.slice a n c) fs ∧ w.grownBy w' (Value.slice a n c).ownBlock := by
  have hneg : IntKind.i64.wrap (-mk) = -mk := by rw [IntKind.wrap_i64]; omega
  have HLT : Hid (∀ i, (Value.slice a n c).ownBlock = some i → i < w.heap.size) := fun i e => (ho.blk i e).2
  have HAO : Hid (n < c ∨ 0 < 0 → ∃ g, a = some ⟨g, 0, none⟩ ∧ ao = some ⟨g, (n - 0) * 8, none⟩) := fun hq => hao (by omega)
  have HCN := hide ho.len.2.1
  have HO := hide ho
  have HG : Hid (w.grownBy w (Value.slice a n c).ownBlock) := World.grownBy.refl _ _
  have HOE := HO
  clear ho hao
  go_enter Try.func27, Try.ntmps27
  go_wp2_with fail
  go_loopw [5] (fun si wr => .int .i64 0 = si ∧ w = wr) (fun si _ => 0)
  case atStart => exact ⟨rfl, rfl⟩
  case round =>
    obtain ⟨rfl, rfl⟩ := hrel
    go_wp2_with fail
    go_loopw [0, 6] (fun s0 si wq => ∃ (k : Nat) (v : Value), k ≤ 64 ∧ v = s0 ∧ .int .i64 (k : Int) = si ∧ Hid (OwnL wq base (.slice a n c) fs) ∧ Hid (Spo wq w.heap.size ao n c 0 k v) ∧ Hid (w.grownBy wq (Value.slice a n c).ownBlock)) (fun _ si _ => 64 - (intOf si).toNat)
    case atStart => exact ⟨0, _, by omega, rfl, rfl, HOE, .inl ⟨by simp, HCN.out⟩, HG⟩
    case round =>
      clear HO HG HOE
      obtain ⟨k, v, hk, rfl, rfl, HO, HV, HG⟩ := hrel
      by_cases hk4 : k < 64
      · have hki : (k : Int) < 64 := by omega
        obtain ⟨g5, hg5⟩ : ∃ g, wr.heap.size = g := ⟨_, rfl⟩
        obtain ⟨w5, hw5⟩ : ∃ w5, wr.alloc (.cells #[.int .i64 (-mk), .int .i64 0, .int .i64 0, .int .i64 0, .int .i64 0, .int .i64 0, .int .i64 0, .int .u32 0] 25) = w5 := ⟨_, rfl⟩
        have HB5 : Hid (Below wr.heap.size wr w5) := by rw [← hw5]; exact (Below.refl _ _).alloc (Nat.le_refl _) _
        have HR5 : Hid (FB w5 g5 (ovF (-mk))) := by rw [← hw5, ← hg5]; exact heap_alloc_new _ _
        have HO5 := hide (HO.out.below HB5.out)
        have HV5 := hide (spo_below HV.out HB5.out)
        have HG5 : Hid (w.grownBy w5 (Value.slice a n c).ownBlock) := grown_new HG.out (below_grown HB5.out) (fun j e => by cases e)
        go_wp2_with (at_builtin; refine pushSpo w _ rfl _ _ rfl base a n c 0 k fs HO5.out ao (Nat.zero_le _) HAO.out v rfl HV5.out (.inr rfl) HG5.out HLT.out g5 (ovF (-mk)) rfl (fb_at8 HR5.out) (by omega) ?_; intro v6 w6 ho6 hv6 hg6; have HO6 := hide ho6; have HV6 := hide hv6; have HG6 := hide hg6; clear ho6 hv6 hg6)
        go_roundw
        case rel => exact ⟨k + 1, _, by omega, rfl, by go_num, HO6, HV6, HG6⟩
        case measure => simp [intOf]; omega
      · obtain rfl : k = 64 := by omega
        obtain ⟨va, vc, hv⟩ := spo_shape HV.out
        subst hv
        go_wp2_with fail
        go_ret
        exact ⟨rfl, HO.out, HG.out⟩
end Go.Proofs.Ytbmbhcjocgbbpaa.Fa
