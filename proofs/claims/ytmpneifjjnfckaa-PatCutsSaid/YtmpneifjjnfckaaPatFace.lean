/-
  The contracts of package pat's five calls (Match, Active, Cut, Plain, Raw), gathered.
-/
import Derived.Test.YtmpneifjjnfckaaPmCut
import Derived.Test.YtmpneifjjnfckaaPmRaw
