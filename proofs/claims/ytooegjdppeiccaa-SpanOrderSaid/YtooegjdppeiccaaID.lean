/-
  Package span, as it landed, answers as the contracts say.
-/
import Derived.Test.YtooegjdppeiccaaIDK
namespace Go.Proofs.Ytooegjdppeiccaa
open Go.RowKit

theorem spanC : SpanC where
  point := dPoint_any
  right := dRight_anyI
  has := dHas_any
  meets := dMeets_any
  normal := fun l A c w hl h => dNormal_any l A c w (by unfold okI at hl; omega) h.2.2.2
  has_in := fun l A c k w hl h => dInI_any l A c k w (by unfold okI at hl; omega) h.2.2.2
  meet := dMeet_any
  same := fun a b A B c d w ha hb h1 h2 => dSameI_any a b A B c d w (by unfold okI at ha; omega) (by unfold okI at hb; omega) h1.2.2.2 h2.2.2.2
  add := fun a s A c w ha h => dAdd_any a s A c w ha h
  join := fun a b A B c d w ha hb h1 h2 => dJoin_any a b A B c d w ha hb h1 h2
  fit := fun a A c n w ha h1 h2 h => dFit_any a A c n w ha h1 h2 h
end Go.Proofs.Ytooegjdppeiccaa
