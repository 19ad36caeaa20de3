/- What the later texts stand on. -/
import Derived.Test.YtkfihhagcimcmaaGreatDoorY0
import Derived.Deep.CutBlock
import Derived.Deep.DeepCutAuto
