/-
  parts.Hash and the document's: the sum of a key's bytes, modulo a number of parts.
-/
import Derived.Test.YtdpihfmbkimgpaaCzRef
import Derived.Lib.ConvBytes
namespace Go.Proofs.Ytdpihfmbkimgpaa.Pa
open Go.ChangeShapes Go.WideShapes Go.ChangeAt Go.RowKit
open Go.Proofs.Ytdpihfmbkimgpaa.Base Go.Proofs.Ytdpihfmbkimgpaa.Crc
set_option linter.unusedVariables false
/-- The bytes of a text. -/
def bts (s : ByteArray) : List (BitVec 8) := s.data.toList.map UInt8.toBitVec
theorem bts_len (s : ByteArray) : (bts s).length = s.size := by simp [bts]
theorem bts_get (s : ByteArray) (i : Nat) (h : i < s.size) : ((bts s).getD i 0).toNat = (s.data.toList.getD i 0).toNat := by
  have h1 : i < s.data.toList.length := by rw [Array.length_toList]; exact h
  have h2 : i < (bts s).length := by rw [bts_len]; exact h
  rw [List.getD_eq_getElem?_getD, List.getElem?_eq_getElem h2, List.getD_eq_getElem?_getD, List.getElem?_eq_getElem h1]
  simp [bts]
theorem conv_rd (w : World) (s : ByteArray) (h : s.size ≤ 140737488355328) : Rd (Lib.bytesWorld w 5 s) (some ⟨w.heap.size, 0, none⟩) s.size (bts s) := by
  refine ⟨bts_len s, h, fun h0 => ⟨w.heap.size, 0, rfl, by rw [Lib.bytesWorld_size]; omega, fun i hi => ?_⟩⟩
  rw [Nat.zero_add, Lib.bytesWorld_cell w _ s i hi, bts_get s i hi]
theorem conv_below (w : World) (s : ByteArray) : Below w.heap.size w (Lib.bytesWorld w 5 s) where
  os := by simp [Lib.bytesWorld, World.freeze, World.alloc, World.drew, -World.alloc_eq, -World.drew_eq]
  tape := by simp [Lib.bytesWorld, World.freeze, World.alloc, World.drew, -World.alloc_eq, -World.drew_eq]
  output := by simp [Lib.bytesWorld, World.freeze, World.alloc, World.drew, -World.alloc_eq, -World.drew_eq]
  size := by rw [Lib.bytesWorld_size]; omega
  block := fun k hk => Lib.bytesWorld_at_old w _ s k hk
theorem conv_any (s : ByteArray) : ∀ w : World, ∃ w' a c, (convert 9 47 (.string s)).run Try.prog w = .ok (.slice a s.size c) w' ∧ Below w.heap.size w w' ∧ (s.size ≤ 140737488355328 → Rd w' a s.size (bts s)) := fun w =>
  ⟨_, _, _, Lib.run_convert_string_bytes w 9 47 5 s Try.underlying9 Try.underlying47 Try.underlying5, conv_below w s, conv_rd w s⟩
def isParts (n : Int) : Bool := decide (1 ≤ n) && decide (n ≤ 65535)
/-- The number of a key's part. -/
def hashP (s : ByteArray) (n : Int) : Nat := if isParts n then (sum (bts s)).toNat % n.toNat else 0
theorem isParts_any (n : Int) (w : World) : Calls Try.prog 22 #[.int .i64 n] w fun e w' => e = .returned (.bool (isParts n)) ∧ w' = w := by
  go_enter Try.func22, Try.ntmps22
  by_cases h1 : 1 ≤ n
  · by_cases h2 : n ≤ 65535
    · go_wp2
      go_ret
      exact ⟨ret_bool (by simp [isParts, h1, h2]), rfl⟩
    · go_wp2
      go_ret
      exact ⟨ret_bool (by simp [isParts, h1, h2]), rfl⟩
  · go_wp2
    go_ret
    exact ⟨ret_bool (by simp [isParts]; omega), rfl⟩
theorem hash_any (s : ByteArray) (n : Int) (w : World) (hs : s.size ≤ 140737488351232) :
    Calls Try.prog 8 #[.string s, .int .i64 n] w fun e w' => e = .returned (.int .i64 (hashP s n : Nat)) ∧ Below w.heap.size w w' := by
  go_enter Try.func8, Try.ntmps8
  go_wp2_with fail
  refine (isParts_any n w).mono ?_
  rintro e w1 ⟨rfl, rfl⟩
  by_cases hp : isParts n = true
  · have hn : 1 ≤ n ∧ n ≤ 65535 := by simpa [isParts] using hp
    obtain ⟨h1, h2⟩ := hn
    have HP := hide hp
    clear hp
    rw [HP.out]
    obtain ⟨m, hm⟩ : ∃ m : Nat, n = (m : Int) := ⟨n.toNat, by omega⟩
    subst hm
    obtain ⟨w2, a, c, hc, hb, hr⟩ := conv_any s w1
    have HB := hide hb
    have HR := hide (hr (by omega))
    clear hb hr
    have hw : IntKind.u32.wrap (m : Int) = (m : Int) := by rw [IntKind.wrap_u32]; omega
    go_wp2_with fail
    refine (sum_any a s.size c (bts s) w2 HR.out).mono ?_
    rintro e w3 ⟨rfl, hb3⟩
    have HB3 := hide (below_trans HB.out hb3)
    clear hb3
    have hlt := (sum (bts s)).isLt
    generalize hS : (sum (bts s)).toNat = S at hlt ⊢
    have HS := hide hS
    clear hS
    go_wp2
    go_ret
    refine ⟨Base.ret_int ?_, HB3.out⟩
    have hle : S % m ≤ S := Nat.mod_le _ _
    have hq : hashP s (m : Int) = S % m := by simp only [hashP, HP.out, HS.out]; simp
    rw [hq, ← Int.natCast_emod]
    unfold wrap64; omega
  · have HP : Hid (isParts n = false) := hide (by simpa using hp)
    clear hp
    rw [HP.out]
    go_wp2
    go_ret
    exact ⟨Base.ret_int (by simp [hashP, HP.out]), Below.refl _ _⟩
theorem refHash_any (s : ByteArray) (n : Int) (w : World) (hs : s.size ≤ 140737488351232) :
    Calls Try.prog 9 #[.string s, .int .i64 n] w fun e w' => e = .returned (.int .i64 (hashP s n : Nat)) ∧ Below w.heap.size w w' := by
  go_enter Try.func9, Try.ntmps9
  by_cases hp : isParts n = true
  · have hn : 1 ≤ n ∧ n ≤ 65535 := by simpa [isParts] using hp
    obtain ⟨h1, h2⟩ := hn
    have HP := hide hp
    clear hp
    obtain ⟨m, hm⟩ : ∃ m : Nat, n = (m : Int) := ⟨n.toNat, by omega⟩
    subst hm
    obtain ⟨w2, a, c, hc, hb, hr⟩ := conv_any s w
    have HB := hide hb
    have HR := hide (hr (by omega))
    clear hb hr
    have hw : IntKind.u32.wrap (m : Int) = (m : Int) := by rw [IntKind.wrap_u32]; omega
    have l1 : ¬ (m : Int) < 1 := by omega
    have l2 : ¬ (65535 : Int) < (m : Int) := by omega
    go_wp2_with fail
    refine (refSum_any a s.size c (bts s) w2 HR.out).mono ?_
    rintro e w3 ⟨rfl, rfl⟩
    have hlt := (sum (bts s)).isLt
    generalize hS : (sum (bts s)).toNat = S at hlt ⊢
    have HS := hide hS
    clear hS
    go_wp2
    go_ret
    refine ⟨Base.ret_int ?_, HB.out⟩
    have hle : S % m ≤ S := Nat.mod_le _ _
    have hq : hashP s (m : Int) = S % m := by simp only [hashP, HP.out, HS.out]; simp
    rw [hq, ← Int.natCast_emod]
    unfold wrap64; omega
  · have HP : Hid (isParts n = false) := hide (by simpa using hp)
    have hn : n < 1 ∨ (1 ≤ n ∧ 65535 < n) := by
      have := HP.out
      simp [isParts] at this
      omega
    clear hp
    rcases hn with h1 | ⟨h1, h2⟩
    · go_wp2
      go_ret
      exact ⟨Base.ret_int (by simp [hashP, HP.out]), Below.refl _ _⟩
    · have h3 : ¬ n < 1 := by omega
      go_wp2
      go_ret
      exact ⟨Base.ret_int (by simp [hashP, HP.out]), Below.refl _ _⟩
end Go.Proofs.Ytdpihfmbkimgpaa.Pa
