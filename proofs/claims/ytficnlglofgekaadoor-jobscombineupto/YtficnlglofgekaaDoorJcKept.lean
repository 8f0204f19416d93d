/-
  Texts with marks behind them are kept.
-/
import Derived.Test.YtficnlglofgekaaDoorJcLone
namespace Go.Proofs.YtficnlglofgekaaDoor.Jb
open Go.ChangeShapes Go.WideShapes Go.ChangeAt Go.RowKit
open Go.Lib hiding intOf
open Go.Proofs.YtficnlglofgekaaDoor.Base
open Go.Proofs.YtficnlglofgekaaDoor.Pa (OwnS RdS)
set_option linter.unusedVariables false
set_option maxHeartbeats 1000000 in
set_option maxRecDepth 100000 in
theorem kept_any (g c base : Nat) (a : Option Addr) (n cl : Nat) (ss : List ByteArray) (w : World) (hG : OwnS w base (.slice (some ⟨g, 0, none⟩) (n + 2) c) (ss ++ [mSpare, mRoom])) (hr : RdS w a n ss) (hn : n ≤ 1048580) :
    Calls Tryd.prog 18 #[.slice (some ⟨g, 0, none⟩) (n + 2) c, .slice a n cl] w fun e w' => e = .returned (.bool true) ∧ Below w.heap.size w w' := by
  have hnl := hr.1
  have hc1 : n + 2 ≤ c := hG.cap.2.1
  have hn1 : n ≤ c := by omega
  have hn1i : (n : Int) ≤ (c : Int) := by omega
  have hn2i : (n : Int) < (n : Int) + 2 := by omega
  have hn3i : (n : Int) + 1 < (n : Int) + 2 := by omega
  have hn0 : (0 : Int) ≤ (n : Int) := by omega
  have HRG : Hid (RdS w (some ⟨g, 0, none⟩) n ss) := by
    have h := hG.rds (by rw [List.length_append]; simp; omega) (fun s hs => by
      rcases List.mem_append.1 hs with h | h
      · exact hr.2.2.1 s h
      · rcases List.mem_cons.1 h with rfl | h
        · decide
        · rcases List.mem_cons.1 h with rfl | h
          · decide
          · cases h)
    have h2 := h.cut n (by omega)
    rw [List.take_append_of_le_length (by omega), List.take_of_length_le (by omega)] at h2
    exact h2
  have hce : ∀ k, k < 2 → (ss ++ [mSpare, mRoom]).getD (n + k) ⟨#[]⟩ = [mSpare, mRoom].getD k ⟨#[]⟩ := fun k hk => by
    rw [List.getD_eq_getElem?_getD, List.getElem?_append_right (by omega), List.getD_eq_getElem?_getD, hnl, show n + k - n = k by omega]
  have q0 := hG.cell n (by omega)
  have q1 := hG.cell (n + 1) (by omega)
  rw [show n = n + 0 by omega, hce 0 (by omega)] at q0
  rw [hce 1 (by omega)] at q1
  have q0' : w.cell? ⟨g, n, none⟩ = some (.string ⟨#[115, 112, 97, 114, 101]⟩) := q0
  have q1' : w.cell? ⟨g, n + 1, none⟩ = some (.string ⟨#[114, 111, 111, 109]⟩) := q1
  have HQ := hide (And.intro q0' q1')
  have HR := hide hr
  have HS := hide (sameTexts_eq (some ⟨g, 0, none⟩) a n c n cl ss w HRG.out hr)
  have he : (((n : Int) + 2) == ((n : Int) + 2)) = true := by simp
  clear hG hr q0 q1 q0' q1' hce hnl
  go_enter Tryd.func18, Tryd.ntmps18
  go_wp2_with (go_at_call 19; refine HS.out.mono ?_; rintro e w1 ⟨rfl, hb1⟩; have hl := block_lt_of_cell HQ.out.1; have c0 := (hb1.cell (p := ⟨g, n, none⟩) hl).trans HQ.out.1; have c1 := (hb1.cell (p := ⟨g, n + 1, none⟩) hl).trans HQ.out.2; have HB1 := hide hb1; clear hb1)
  go_ret
  exact ⟨rfl, HB1.out⟩
end Go.Proofs.YtficnlglofgekaaDoor.Jb
