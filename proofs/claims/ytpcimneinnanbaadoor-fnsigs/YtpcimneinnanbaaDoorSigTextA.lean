/- The text of functions, as data. Conditions: none. -/
import Derived.Test.YtpcimneinnanbaaDoorSymA
import Derived.Test.YtpcimneinnanbaaDoorPlain
namespace Go.Proofs.YtpcimneinnanbaaDoor
open Go.RowKit

def isI (z : Int) : Prop := -9223372036854775808 ≤ z ∧ z ≤ 9223372036854775807
/-- The text of one function, and of the first k. -/
def symText (s : SymD) : List UInt8 := s.name.data.toList ++ [47] ++ Lib.itoa s.ar ++ (if s.ac = true then [42] else [])
def sigTextK (ss : List SymD) : Nat → List UInt8
  | 0 => []
  | k + 1 => sigTextK ss k ++ (if k = 0 then [] else [32]) ++ (if h : k < ss.length then symText ss[k] else [])
theorem sigText_next {ss : List SymD} {k : Nat} (h : k < ss.length) : sigTextK ss (k + 1) = sigTextK ss k ++ (if k = 0 then [] else [32]) ++ symText ss[k] := by rw [sigTextK, dif_pos h]
theorem sigText_len {ss : List SymD} (hi : ∀ s ∈ ss, isI s.ar) : ∀ k, k ≤ ss.length → (sigTextK ss k).length ≤ bytesOf (ss.take k) + 24 * k
  | 0, _ => by simp [sigTextK]
  | k + 1, h => by
    have ih := sigText_len hi k (by omega)
    have hs := hi ss[k] (List.getElem_mem (by omega))
    have hl := itoa_len hs.1 hs.2
    rw [sigText_next (by omega), bytesOf_next (by omega)]
    have hsz : ss[k].name.data.toList.length = ss[k].name.size := rfl
    simp only [symText, List.length_append, List.length_cons, List.length_nil, hsz]
    split <;> split <;> simp <;> omega
theorem bytesOf_take (ss : List SymD) (k : Nat) : bytesOf (ss.take k) ≤ bytesOf ss := by
  have h : bytesOf ss = bytesOf (ss.take k) + bytesOf (ss.drop k) := by
    unfold bytesOf
    rw [← List.sum_append, ← List.map_append, List.take_append_drop]
  omega
theorem cat_any (a b : List UInt8) : (⟨a.toArray⟩ : ByteArray) ++ ⟨b.toArray⟩ = ⟨(a ++ b).toArray⟩ := by
  apply ByteArray.ext
  simp
theorem as_list (s : ByteArray) : s = ⟨s.data.toList.toArray⟩ := by cases s; simp

theorem nil_cat (l : List UInt8) : (⟨l.toArray⟩ : ByteArray) ++ ⟨([] : List UInt8).toArray⟩ = ⟨l.toArray⟩ := by rw [cat_any, List.append_nil]
theorem text_fin {ss : List SymD} {k : Nat} {s : SymD} {t : List UInt8} (h : sigTextK ss (k + 1) = sigTextK ss k ++ t ++ symText s) (ha : s.ac = true) :
    Value.string (⟨(sigTextK ss k).toArray⟩ ++ ⟨t.toArray⟩ ++ s.name ++ ⟨#[47]⟩ ++ ⟨(Lib.itoa s.ar).toArray⟩ ++ ⟨#[42]⟩) = .string ⟨(sigTextK ss (k + 1)).toArray⟩ := by
  rw [h, symText, if_pos ha, as_list s.name, show (⟨#[47]⟩ : ByteArray) = ⟨[47].toArray⟩ from rfl, show (⟨#[42]⟩ : ByteArray) = ⟨[42].toArray⟩ from rfl]
  simp only [cat_any, List.append_assoc]
theorem text_fin' {ss : List SymD} {k : Nat} {s : SymD} {t : List UInt8} (h : sigTextK ss (k + 1) = sigTextK ss k ++ t ++ symText s) (ha : s.ac = false) :
    Value.string (⟨(sigTextK ss k).toArray⟩ ++ ⟨t.toArray⟩ ++ s.name ++ ⟨#[47]⟩ ++ ⟨(Lib.itoa s.ar).toArray⟩) = .string ⟨(sigTextK ss (k + 1)).toArray⟩ := by
  rw [h, symText, if_neg (by simp [ha]), as_list s.name, show (⟨#[47]⟩ : ByteArray) = ⟨[47].toArray⟩ from rfl]
  simp only [cat_any, List.append_assoc, List.append_nil]

theorem text_nil {ss : List SymD} {k : Nat} {s : SymD} (h : sigTextK ss (k + 1) = sigTextK ss k ++ [] ++ symText s) (ha : s.ac = true) :
    Value.string (⟨(sigTextK ss k).toArray⟩ ++ s.name ++ ⟨#[47]⟩ ++ ⟨(Lib.itoa s.ar).toArray⟩ ++ ⟨#[42]⟩) = .string ⟨(sigTextK ss (k + 1)).toArray⟩ := by
  have := text_fin h ha; rwa [nil_cat] at this
theorem text_nil' {ss : List SymD} {k : Nat} {s : SymD} (h : sigTextK ss (k + 1) = sigTextK ss k ++ [] ++ symText s) (ha : s.ac = false) :
    Value.string (⟨(sigTextK ss k).toArray⟩ ++ s.name ++ ⟨#[47]⟩ ++ ⟨(Lib.itoa s.ar).toArray⟩) = .string ⟨(sigTextK ss (k + 1)).toArray⟩ := by
  have := text_fin' h ha; rwa [nil_cat] at this

end Go.Proofs.YtpcimneinnanbaaDoor
