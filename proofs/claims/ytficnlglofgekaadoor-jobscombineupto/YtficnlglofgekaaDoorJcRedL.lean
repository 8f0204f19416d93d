/-
  What a Reduce answers.
-/
import Derived.Test.YtficnlglofgekaaDoorJcRiseS
import Derived.Test.YtficnlglofgekaaDoorJcComb
namespace Go.Proofs.YtficnlglofgekaaDoor.Jb
/-- What Reduce tells. -/
def redL (kind : Int) (ss : List ByteArray) : List ByteArray := if kind = 1 then riseS ss else combL kind ss
theorem redL_nil (kind : Int) {ss : List ByteArray} (h : ss = []) : redL kind ss = [] := by
  subst h
  unfold redL
  split
  · rfl
  · unfold combL; rw [if_pos (.inl rfl)]
end Go.Proofs.YtficnlglofgekaaDoor.Jb
