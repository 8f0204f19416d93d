/-
  The statements' stopAt: the place of the stop that is asked for.
-/
import Derived.Test.YtbmbhcjocgbbpaaFaAsk
import Derived.Test.YtbmbhcjocgbbpaaFaOnceM
namespace Go.Proofs.Ytbmbhcjocgbbpaa.Fa
open Go.ChangeShapes Go.WideShapes Go.ChangeAt Go.RowKit
open Go.Proofs.Ytbmbhcjocgbbpaa.Base
set_option linter.unusedVariables false
theorem plc_four (f : Flt) (a b c : Int) : (plc f ≠ ((0, a, b, c) : P4) ∧ ((f.k == 0) = false ∨ ((f.k == 0) = true ∧ (f.j == a) = false) ∨ ((f.k == 0) = true ∧ (f.j == a) = true ∧ (f.t == b) = false) ∨ ((f.k == 0) = true ∧ (f.j == a) = true ∧ (f.t == b) = true ∧ (f.a == c) = false))) ∨ (plc f = ((0, a, b, c) : P4) ∧ (f.k == 0) = true ∧ (f.j == a) = true ∧ (f.t == b) = true ∧ (f.a == c) = true) := by
  by_cases h1 : f.k = 0 <;> by_cases h2 : f.j = a <;> by_cases h3 : f.t = b <;> by_cases h4 : f.a = c <;> simp [plc, h1, h2, h3, h4]
set_option maxHeartbeats 2000000 in
set_option maxRecDepth 100000 in
theorem stopAt_any (a : Option Addr) (n cap K : Nat) (fs : List Flt) (k : Ak) (w : World) (hr : RdL w a n fs) (hK : K < n) (he : plc (fs.getD K f0) = ((0, k.a, k.b, k.c) : P4)) (hno : ∀ i, i < K → plc (fs.getD i f0) ≠ ((0, k.a, k.b, k.c) : P4)) (hn : n ≤ 256) :
    Calls Try.prog 20 #[.slice a n cap, .agg #[.int .i64 k.o, .int .i64 k.a, .int .i64 k.b, .int .i64 k.c, .int .i64 k.d]] w fun e w' => e = .returned (.int .i64 (K : Int)) ∧ Below w.heap.size w w' := by
  have HR := hide hr
  have HE := hide he
  have HNO := hide hno
  clear hr he hno
  obtain ⟨w0, hw0⟩ : ∃ w0, w.alloc (.cells #[.int .i64 k.o, .int .i64 k.a, .int .i64 k.b, .int .i64 k.c, .int .i64 k.d] 46) = w0 := ⟨_, rfl⟩
  have HF0 : Hid (KB w0 w.heap.size k) := by show KB _ _ _; rw [← hw0]; exact KB.new w k
  have HB0 : Hid (Below w.heap.size w w0) := by show Below _ _ _; rw [← hw0]; exact ba (b0 _) _
  obtain ⟨p, hpp⟩ : ∃ p, w.heap.size = p := ⟨_, rfl⟩
  rw [hpp] at HF0
  go_enter Try.func20, Try.ntmps20
  go_wp2_with fail
  go_loopw [5] (fun si wr => ∃ (i : Nat), i ≤ K ∧ .int .i64 (i : Int) = si ∧ Hid (Below w0.heap.size w0 wr)) (fun si _ => n - (intOf si).toNat)
  case atStart => exact ⟨0, by omega, rfl, b0 _⟩
  case round =>
    obtain ⟨i, hi, rfl, HB⟩ := hrel
    have hin : i < n := by omega
    have hii : (i : Int) < (n : Int) := by omega
    have HBW := hide (below_trans HB0.out HB.out)
    obtain ⟨b1, o1, rfl, hl1, hc1⟩ := HR.out.2 (by omega)
    obtain ⟨f, hf⟩ : ∃ f, fs.getD i f0 = f := ⟨_, rfl⟩
    obtain ⟨p0, p1, p2, p3, p4, p5, p6, p7⟩ := (hc1 i hin).same (w' := wr) (fun k => HBW.out.cell (p := ⟨b1, k, none⟩) hl1)
    rw [hf] at p0 p1 p2 p3 p4 p5 p6 p7
    have HF := hide hf
    obtain ⟨q0, q1, q2, q3, q4⟩ := (HF0.out.below HB.out).cells
    clear hf hc1
    rcases plc_four f k.a k.b k.c with ⟨hne, hcs⟩ | ⟨heq, h1, h2, h3, h4⟩
    · have HIK : Hid (i < K) := by
        show i < K
        by_cases e : i = K
        · exact absurd (by rw [← HF.out, e]; exact HE.out) hne
        · omega
      clear hne
      rcases hcs with h1 | ⟨h1, h2⟩ | ⟨h1, h2, h3⟩ | ⟨h1, h2, h3, h4⟩
      · go_wp2_with fail
        go_quiet (fail)
        go_wp2_with fail
        go_roundw
        case rel => exact ⟨i + 1, by have := HIK.out; omega, by go_num, below_trans HB.out (below_drewN' _ _ _)⟩
        case measure => simp [intOf]; omega
      · go_wp2_with fail
        go_quiet (fail)
        go_wp2_with fail
        go_roundw
        case rel => exact ⟨i + 1, by have := HIK.out; omega, by go_num, below_trans HB.out (below_drewN' _ _ _)⟩
        case measure => simp [intOf]; omega
      · go_wp2_with fail
        go_quiet (fail)
        go_wp2_with fail
        go_roundw
        case rel => exact ⟨i + 1, by have := HIK.out; omega, by go_num, below_trans HB.out (below_drewN' _ _ _)⟩
        case measure => simp [intOf]; omega
      · go_wp2_with fail
        go_quiet (fail)
        go_wp2_with fail
        go_roundw
        case rel => exact ⟨i + 1, by have := HIK.out; omega, by go_num, below_trans HB.out (below_drewN' _ _ _)⟩
        case measure => simp [intOf]; omega
    · have HIK : Hid (i = K) := by
        show i = K
        by_cases e : i = K
        · exact e
        · exact absurd (by rw [HF.out]; exact heq) (HNO.out i (by omega))
      clear heq
      go_wp2_with fail
      go_quiet (fail)
      go_wp2_with fail
      go_ret
      exact ⟨ret_int (by rw [HIK.out]), below_trans HBW.out (below_drewN' _ _ _)⟩
end Go.Proofs.Ytbmbhcjocgbbpaa.Fa
