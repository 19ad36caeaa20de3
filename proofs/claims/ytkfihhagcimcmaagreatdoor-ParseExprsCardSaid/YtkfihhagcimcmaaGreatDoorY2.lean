/- What the frames stand on. -/
import Derived.Test.YtkfihhagcimcmaaGreatDoorY1
import Derived.ChangeOld
import Derived.HandedShaped
import Derived.LaidMore
import Derived.Lay
import Derived.OpenShut
import Derived.ProofKit
import Derived.SevenTiedAt
import Derived.Shelf.Vars
import Derived.ShutString
import Derived.SizedLaws
import Derived.SliceStrings
import Derived.Stop.Joined
