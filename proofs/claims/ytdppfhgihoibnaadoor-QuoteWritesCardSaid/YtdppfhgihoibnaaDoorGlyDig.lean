/-
  A seat that holds both classes and digits: the contracts of both are XGlyLow's.
-/
import Derived.Test.YtdppfhgihoibnaaDoorGlyLow
