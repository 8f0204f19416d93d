/-
  Has, of any filter and key.
-/
import Derived.Test.YtmndjgmlndpgaaaDoorFiEach
import Derived.Test.YtmndjgmlndpgaaaDoorFiJoin
import Derived.Deep.RegionHeld
namespace Go.Proofs.YtmndjgmlndpgaaaDoor.Filt
open Go.ChangeShapes Go.WideShapes Go.ChangeAt Go.RowKit
open Go.Proofs.YtmndjgmlndpgaaaDoor.Base
set_option linter.unusedVariables false
/-- What Has answers. -/
def hasF (A : Bool) (H : Int) (bs : List (BitVec 8)) (s : ByteArray) : Bool :=
  if kindN A H bs.length = 1 then true else if kindN A H bs.length = 2 then hasTo bs s H.toNat else false
set_option maxHeartbeats 1000000 in
set_option maxRecDepth 100000 in
theorem asking_any (a : Option Addr) (len cap : Nat) (w : World) :
    Calls Tryd.prog 27 #[.slice a len cap] w fun e w' => e = .returned (.func (.func 32) #[] #[.pointer (some ⟨w.heap.size, 0, none⟩)]) ∧ DB w' w.heap.size (.slice a len cap) ∧ Below w.heap.size w w' := by
  have hmf : ∀ (fn : Fn) (first cap : Array Value) (w : World), (Instr.makeFunc fn first cap).run Tryd.prog w = .ok (.func fn first cap) w := fun _ _ _ _ => rfl
  go_enter Tryd.func27, Tryd.ntmps27
  go_wp2_with fail
  go_ret
  exact ⟨rfl, DB.new _ _, (Below.refl _ _).alloc (Nat.le_refl _) _⟩
set_option maxHeartbeats 1000000 in
set_option maxRecDepth 100000 in
theorem has_any (A : Bool) (H : Int) (a : Option Addr) (len cap : Nat) (bs : List (BitVec 8)) (s : ByteArray) (w : World) (hK : KAt w) (hr : Rd w a len bs) (hl : len ≤ 140737488351232) (hs : s.size ≤ 9223372036854775807) :
    Calls Tryd.prog 11 #[.agg #[.bool A, .int .i64 H, .slice a len cap], .string s] w fun e w' => e = .returned (.bool (hasF A H bs s)) ∧ Below w.heap.size w w' := by
  obtain ⟨w1, hw1⟩ : ∃ w1, w.alloc (.cells #[.bool A, .int .i64 H, .slice a len cap] 24) = w1 := ⟨_, rfl⟩
  have hb1 : Below w.heap.size w w1 := by rw [← hw1]; exact (Below.refl _ _).alloc (Nat.le_refl _) _
  have hF : FB w1 w.heap.size A H (.slice a len cap) := by rw [← hw1]; exact FB.new _ _ _ _
  obtain ⟨p, hp0⟩ : ∃ p, w.heap.size = p := ⟨_, rfl⟩
  rw [hp0] at hF
  have HF := hide hF
  have f0 := hF.c0
  have f1 := hF.c1
  have f2 := hF.c2
  have HS := hide hp0
  have HB1 := hide hb1
  have HL := hide hr.1
  have HR1 := hide (hr.below hb1)
  have HK1 := hide (kat_below hK hb1)
  obtain ⟨kk, hkk⟩ : ∃ kk, kindN A H len = kk := ⟨_, rfl⟩
  have HKI := hide (kind_any A H a len cap w1 HK1.out (by omega))
  rw [hkk] at HKI
  have HKR := hide (kind_range A H len)
  rw [hkk] at HKR
  have HE : Hid (hasF A H bs s = if kk = 1 then true else if kk = 2 then hasTo bs s H.toNat else false) := by show _ = _; unfold hasF; rw [HL.out, hkk]
  clear hr hK hF hb1 hkk
  go_enter Tryd.func11, Tryd.ntmps11
  go_wp2_with fail
  refine HKI.out.mono ?_
  rintro e w2 ⟨rfl, hb2⟩
  have HF2 := hide (HF.out.below hb2)
  have HB2 : Hid (Below w.heap.size w w2) := HB1.out.trans (hb2.mono HB1.out.size)
  have HR2 := hide (HR1.out.below hb2)
  clear hb2 f0 f1 f2
  have f0 := HF2.out.c0
  have f1 := HF2.out.c1
  have f2 := HF2.out.c2
  rcases HKR.out with ⟨rfl, _⟩ | ⟨rfl, _⟩ | ⟨rfl, rfl, h1, h8, hn1, hn2⟩ | rfl
  · go_wp2_with fail
    go_ret
    rw [HE.out]
    exact ⟨rfl, by first | exact HB2.out | (rw [← HS.out]; exact HB2.out)⟩
  · go_wp2_with fail
    go_ret
    rw [HE.out]
    exact ⟨rfl, by first | exact HB2.out | (rw [← HS.out]; exact HB2.out)⟩
  · obtain ⟨N, rfl⟩ : ∃ N : Nat, H = (N : Int) := ⟨H.toNat, by omega⟩
    obtain ⟨b, off, rfl, hbl, _⟩ := HR2.out.2.2 (by omega)
    have HAK : Hid (∀ W, Below w2.heap.size w2 W → Calls Tryd.prog 27 #[.slice (some ⟨b, off, none⟩) len cap] W fun e w' => e = .returned (.func (.func 32) #[] #[.pointer (some ⟨W.heap.size, 0, none⟩)]) ∧ DB w' W.heap.size (.slice (some ⟨b, off, none⟩) len cap) ∧ Below w2.heap.size w2 w') := fun W hW =>
      (asking_any (some ⟨b, off, none⟩) len cap W).mono fun e w' ⟨h1, h2, h3⟩ => ⟨h1, h2, hW.trans (h3.mono hW.size)⟩
    have HEB : Hid (∀ W g, DB W g (.slice (some ⟨b, off, none⟩) len cap) → Below w2.heap.size w2 W → Calls Tryd.prog 26 #[.agg #[.bool false, .int .i64 (N : Int), .slice (some ⟨b, off, none⟩) len cap], .string s, .func (.func 32) #[] #[.pointer (some ⟨g, 0, none⟩)]] W fun e w' => e = .returned (.bool (hasTo bs s N)) ∧ Below w2.heap.size w2 w') := fun W g hD hW =>
      (each_ask false N b off len cap g bs s W hD.cell hD.lt (HR2.out.below hW) (by omega) hl hs (by omega)).mono fun e w' ⟨h1, h2⟩ => ⟨h1, hW.trans (h2.mono hW.size)⟩
    go_wp2_with fail
    go_region_held (fun V => V.cell? ⟨p, 0, none⟩ = some (.bool false) ∧ V.cell? ⟨p, 1, none⟩ = some (.int .i64 (N : Int)) ∧ V.cell? ⟨p, 2, none⟩ = some (.slice (some ⟨b, off, none⟩) len cap)) (first | go_keep | exact E8.out | exact E9.out) (first
      | (go_at_call 27; refine (HAK.out _ ((Below.refl _ _).drew)).mono ?_; rintro e w6 ⟨rfl, hd6, hb6⟩; have HD6 := hide hd6; have HB6 := hide hb6; have E8 := hide (And.intro (HF2.out.below hb6).c0 (And.intro (HF2.out.below hb6).c1 (HF2.out.below hb6).c2)); clear hd6 hb6)
      | (go_at_call 26; refine (HEB.out _ _ HD6.out HB6.out).mono ?_; rintro e w7 ⟨rfl, hb7⟩; have HB7 := hide hb7; have E9 := hide (And.intro (HF2.out.below hb7).c0 (And.intro (HF2.out.below hb7).c1 (HF2.out.below hb7).c2)); clear hb7))
    all_goals
      go_wp2_with fail
      go_ret
      rw [HE.out]
      exact ⟨rfl, by first | exact HB2.out.trans (HB7.out.mono HB2.out.size) | (rw [← HS.out]; exact HB2.out.trans (HB7.out.mono HB2.out.size))⟩
  · go_wp2_with fail
    go_ret
    rw [HE.out]
    exact ⟨rfl, by first | exact HB2.out | (rw [← HS.out]; exact HB2.out)⟩
end Go.Proofs.YtmndjgmlndpgaaaDoor.Filt
