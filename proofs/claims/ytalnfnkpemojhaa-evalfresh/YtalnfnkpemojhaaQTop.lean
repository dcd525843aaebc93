/-
  WHAT names.Check AND THE DOCUMENT's ProgramFault GIVE, and the opening of a list of units: all of it behind one import.
  Conditions: none.
-/
import Derived.Test.YtalnfnkpemojhaaQ17
import Derived.Test.YtalnfnkpemojhaaQ38
import Derived.Test.YtalnfnkpemojhaaQ39
namespace Go.Proofs.Ytalnfnkpemojhaa.NBase
theorem both_stand : True := trivial
end Go.Proofs.Ytalnfnkpemojhaa.NBase
