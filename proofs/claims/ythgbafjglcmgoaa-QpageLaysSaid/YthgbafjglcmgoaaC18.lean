/-
  Contracts of package qpage's functions (those that the translation has): all of them.
-/
import Derived.Test.YthgbafjglcmgoaaC18c
import Derived.Test.YthgbafjglcmgoaaC18d
