/-
  Package frac and its reference: the contracts together. No statement of its own.
-/
import Derived.Test.YtdkmfhlmeildmaaDoorFzC
import Derived.Test.YtdkmfhlmeildmaaDoorFzF
import Derived.Test.YtdkmfhlmeildmaaDoorFzG
import Derived.Test.YtdkmfhlmeildmaaDoorFzI
import Derived.Test.YtdkmfhlmeildmaaDoorFrG
import Derived.Test.YtdkmfhlmeildmaaDoorFrL
import Derived.Test.YtdkmfhlmeildmaaDoorFrM
import Derived.Test.YtdkmfhlmeildmaaDoorFrO
import Derived.Test.YtdkmfhlmeildmaaDoorFrP
import Derived.Test.YtdkmfhlmeildmaaDoorFrS
