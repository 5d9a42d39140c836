/-
  WALKS: the texts of dates: twoDigits, the years' digits, digits (the document's).
-/
import Derived.Test.YtlihkmhhfnkkoaaDoorWCal2
import Derived.Lib.Hide
import Derived.Lib.ItoaMem
import Derived.Lib.AppendIntMem
import Derived.Deep.RegionHeld3
import Derived.Test.YtlihkmhhfnkkoaaDoorShelf
namespace Go.Proofs.YtlihkmhhfnkkoaaDoor
open Go.RowKit
open Cal
set_option linter.unusedVariables false
set_option linter.unusedSimpArgs false

/-- A digit's byte. -/
def dg (k : Int) : UInt8 := UInt8.ofNat (48 + k).toNat
theorem dg_nat {k : Int} (h0 : 0 ≤ k) (h1 : k ≤ 9) : ((dg k).toNat : Int) = 48 + k := by
  unfold dg
  rw [UInt8.toNat_ofNat']
  omega
/-- The last w digits. -/
def lastD : Nat → Int → List UInt8
  | 0, _ => []
  | w + 1, n => lastD w (n / 10) ++ [dg (n % 10)]
theorem lastD_len : ∀ (w : Nat) (n : Int), (lastD w n).length = w
  | 0, _ => rfl
  | w + 1, n => by simp [lastD, lastD_len w]
theorem itoa_year (y : Int) (h0 : 1900 ≤ y) (h1 : y ≤ 2199) : Lib.itoa y = lastD 4 y := by
  have key : ∀ k : Fin 300, Lib.itoa (1900 + (k.val : Int)) = lastD 4 (1900 + (k.val : Int)) := by decide +kernel
  have := key ⟨(y - 1900).toNat, by omega⟩
  rw [show (1900 : Int) + (((y - 1900).toNat : Nat) : Int) = y by omega] at this
  exact this

theorem convTwo (w : World) (t : TypeId) (a b : UInt8) (cap : Nat) :
    (convert 59 9 (.slice (some ⟨w.heap.size, 0, none⟩) 2 cap)).run Tryd.prog (w.alloc (.cells #[.int .u8 (a.toNat : Int), .int .u8 (b.toNat : Int)] t)) = .ok (.string ⟨#[a, b]⟩) (w.alloc (.cells #[.int .u8 (a.toNat : Int), .int .u8 (b.toNat : Int)] t)) := by
  exact run_convert_bytes_back (P := Tryd.prog) (w.alloc (.cells #[.int .u8 (a.toNat : Int), .int .u8 (b.toNat : Int)] t)) 59 9 5 ⟨w.heap.size, 0, none⟩ cap [a, b] (by kernel_rfl) (by kernel_rfl) (by kernel_rfl) (fun j hj => by
    have : j = 0 ∨ j = 1 := by simp at hj; omega
    rcases this with rfl | rfl <;> (simp [Addr.add]))
theorem convOne (w : World) (t : TypeId) (a : UInt8) (cap : Nat) :
    (convert 59 9 (.slice (some ⟨w.heap.size, 0, none⟩) 1 cap)).run Tryd.prog (w.alloc (.cells #[.int .u8 (a.toNat : Int)] t)) = .ok (.string ⟨#[a]⟩) (w.alloc (.cells #[.int .u8 (a.toNat : Int)] t)) := by
  exact run_convert_bytes_back (P := Tryd.prog) (w.alloc (.cells #[.int .u8 (a.toNat : Int)] t)) 59 9 5 ⟨w.heap.size, 0, none⟩ cap [a] (by kernel_rfl) (by kernel_rfl) (by kernel_rfl) (fun j hj => by
    have : j = 0 := by simp at hj; omega
    subst this; simp [Addr.add])

theorem ret_str {a b : List UInt8} (h : a = b) : Ending.returned (.string ⟨a.toArray⟩) = .returned (.string ⟨b.toArray⟩) := by rw [h]
theorem baCat (a b : List UInt8) : (⟨a.toArray⟩ : ByteArray) ++ ⟨b.toArray⟩ = ⟨(a ++ b).toArray⟩ := by
  apply ByteArray.ext
  rw [ByteArray.data_append]
  simp
theorem catT (a b : List UInt8) (h : a.length + b.length ≤ 1000) (W : World) : (Op.stringOp .add ⟨a.toArray⟩ ⟨b.toArray⟩).run Tryd.prog W = .ok (.string ⟨(a ++ b).toArray⟩) W := by
  rw [← baCat]
  have h1 : ((⟨a.toArray⟩ : ByteArray).size : Int) ≤ 8388608 := by simp [ByteArray.size]; omega
  have h2 : ((⟨b.toArray⟩ : ByteArray).size : Int) ≤ 8388608 := by simp [ByteArray.size]; omega
  exact run_string_add W _ _ h1 h2
theorem lastD_cons : ∀ (k : Nat) (n : Int), lastD (k + 1) n = dg (n / 10 ^ k % 10) :: lastD k n
  | 0, n => by simp [lastD]
  | k + 1, n => by
    rw [lastD, lastD_cons k (n / 10)]
    have : n / 10 / 10 ^ k = n / 10 ^ (k + 1) := by
      rw [Int.ediv_ediv_of_nonneg (by omega)]
      congr 1
      rw [Int.pow_succ]; omega
    rw [this]
    rfl

end Go.Proofs.YtlihkmhhfnkkoaaDoor
