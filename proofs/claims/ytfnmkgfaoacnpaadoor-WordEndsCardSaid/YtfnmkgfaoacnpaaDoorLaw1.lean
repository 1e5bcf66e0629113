/-
  What the statement WordReads' walk imports, in one place. No condition.
-/
import Derived.Test.YtfnmkgfaoacnpaaDoorRefRead
import Derived.Test.YtfnmkgfaoacnpaaDoorAwake
import Derived.Test.YtfnmkgfaoacnpaaDoorName
import Derived.Test.YtfnmkgfaoacnpaaDoorSame5
