/-
  Texts as lists of bytes.
-/
import Derived.Test.YtooegjdppeiccaaBase
import Derived.Test.YtooegjdppeiccaaKPlain
namespace Go.Proofs.Ytooegjdppeiccaa

/-- A text of these bytes. -/
def bs (k : List UInt8) : ByteArray := ⟨k.toArray⟩
theorem bs_list (k : List UInt8) : (bs k).toList = k := by rw [ByteArray.toList_eq]; rfl
theorem bs_size (k : List UInt8) : (bs k).size = k.length := by simp [bs, ByteArray.size]
theorem bs_of (s : ByteArray) : s = bs s.data.toList := by cases s; simp [bs]
theorem bs_less (a b : List UInt8) : Op.bytesLess (bs a).toList (bs b).toList = blt a b := by rw [bs_list, bs_list]
theorem bs_same (a b : List UInt8) : ((bs a).toList == (bs b).toList) = (a == b) := by rw [bs_list, bs_list]
theorem bs_nil : bs [] = ⟨#[]⟩ := rfl
/-! ### comparisons as the model makes them -/
theorem sp_less (a b : List UInt8) (t : TypeId) : binOp .lss t (.string (bs a)) (.string (bs b)) = pure (.bool (blt a b)) := by
  have h : binOp .lss t (.string (bs a)) (.string (bs b)) = pure (.bool (Op.bytesLess (bs a).toList (bs b).toList)) := by simp [binOp, Op.stringOp]
  rw [h, bs_less]
theorem sp_geq (a b : List UInt8) (t : TypeId) : binOp .geq t (.string (bs a)) (.string (bs b)) = pure (.bool !(blt a b)) := by
  have h : binOp .geq t (.string (bs a)) (.string (bs b)) = pure (.bool !(Op.bytesLess (bs a).toList (bs b).toList)) := by simp [binOp, Op.stringOp]
  rw [h, bs_less]
theorem sp_gtr (a b : List UInt8) (t : TypeId) : binOp .gtr t (.string (bs a)) (.string (bs b)) = pure (.bool (blt b a)) := by
  have h : binOp .gtr t (.string (bs a)) (.string (bs b)) = pure (.bool !(Op.bytesLess (bs a).toList (bs b).toList || (bs a).toList == (bs b).toList)) := by simp [binOp, Op.stringOp]
  rw [h, bs_less, bs_same]
  rcases blt_tri a b with g | g | g
  · have g2 := blt_asymm g
    rw [g2, show blt a b = true from g]
    rfl
  · subst g
    rw [blt_self]
    simp
  · have g2 := blt_asymm g
    have g3 : (a == b) = false := by
      rw [beq_eq_false_iff_ne]
      rintro rfl
      rw [blt_self] at g
      cases g
    rw [g, g2, g3]
    rfl
theorem sp_leq (a b : List UInt8) (t : TypeId) : binOp .leq t (.string (bs a)) (.string (bs b)) = pure (.bool !(blt b a)) := by
  have h : binOp .leq t (.string (bs a)) (.string (bs b)) = pure (.bool (Op.bytesLess (bs a).toList (bs b).toList || (bs a).toList == (bs b).toList)) := by simp [binOp, Op.stringOp]
  rw [h, bs_less, bs_same]
  rcases blt_tri a b with g | g | g
  · have g2 := blt_asymm g
    rw [g2, show blt a b = true from g]
    rfl
  · subst g
    rw [blt_self]
    simp
  · have g2 := blt_asymm g
    have g3 : (a == b) = false := by
      rw [beq_eq_false_iff_ne]
      rintro rfl
      rw [blt_self] at g
      cases g
    rw [g, g2, g3]
    rfl
end Go.Proofs.Ytooegjdppeiccaa
