/-
  The words of a trie that another one lacks.
-/
import Derived.Test.YtipkdoplgjgkpacThose
import Derived.Test.YtipkdoplgjgkpacWordsN
namespace Go.Proofs.Ytipkdoplgjgkpac
set_option linter.unusedVariables false

noncomputable def withL (t u : List Nd) : List Txt := those (wordsOf t) (wordsOf u) false

end Go.Proofs.Ytipkdoplgjgkpac
