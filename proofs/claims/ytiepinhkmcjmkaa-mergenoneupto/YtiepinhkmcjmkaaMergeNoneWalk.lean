/-
  MergeNone, walked: see MeNone.
-/
import Derived.Test.YtiepinhkmcjmkaaMeNone
