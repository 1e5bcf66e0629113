/-
  What the statement WordReads' walk imports, in one place. No condition.
-/
import Derived.Test.YtfnmkgfaoacnpaaRefRead
import Derived.Test.YtfnmkgfaoacnpaaAwake
import Derived.Test.YtfnmkgfaoacnpaaName
import Derived.Test.YtfnmkgfaoacnpaaSame5
