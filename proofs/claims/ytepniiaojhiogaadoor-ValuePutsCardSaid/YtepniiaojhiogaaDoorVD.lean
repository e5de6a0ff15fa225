/-
  What package value has to answer, of variables too.
-/
import Derived.Test.YtepniiaojhiogaaDoorVDZ
import Derived.Test.YtepniiaojhiogaaDoorVDS
import Derived.Test.YtepniiaojhiogaaDoorVDW
namespace Go.Proofs.YtepniiaojhiogaaDoor

theorem setsC : SetsC nm.nameOk := ⟨vGet_any, vSet_any, vVars_any⟩
end Go.Proofs.YtepniiaojhiogaaDoor
