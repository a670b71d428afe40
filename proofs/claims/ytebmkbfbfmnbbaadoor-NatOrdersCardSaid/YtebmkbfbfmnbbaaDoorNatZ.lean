/-
  All contracts of package nat and of its reference, under one import. Nothing is proved here.
-/
import Derived.Test.YtebmkbfbfmnbbaaDoorNatD
import Derived.Test.YtebmkbfbfmnbbaaDoorNatE
import Derived.Test.YtebmkbfbfmnbbaaDoorNatG
import Derived.Test.YtebmkbfbfmnbbaaDoorNatH
import Derived.Test.YtebmkbfbfmnbbaaDoorNatJ
