/-
  The contracts of layer 6, all of them.
-/
import Derived.Test.YtmkjjcogheidmaaDskXF
import Derived.Test.YtmkjjcogheidmaaDskXG
import Derived.Test.YtmkjjcogheidmaaDskXH
import Derived.Test.YtmkjjcogheidmaaDskXJ
