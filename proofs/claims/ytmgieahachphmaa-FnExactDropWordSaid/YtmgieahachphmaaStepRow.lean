/-
  An append to a row that a call owns, at an operation of a region that draws its order; beside what an append-like callee leaves.
-/
import Derived.Test.YtmgieahachphmaaGrew
import Derived.Test.YtmgieahachphmaaStepA
