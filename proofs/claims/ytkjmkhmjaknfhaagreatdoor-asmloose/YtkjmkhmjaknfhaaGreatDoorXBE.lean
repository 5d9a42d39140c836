import Derived.Test.YtkjmkhmjaknfhaaGreatDoorXBC
import Derived.Test.YtkjmkhmjaknfhaaGreatDoorXAV
import Derived.Test.YtkjmkhmjaknfhaaGreatDoorXAU
import Derived.Test.YtkjmkhmjaknfhaaGreatDoorXAS
import Derived.Test.YtkjmkhmjaknfhaaGreatDoorXBD
import Derived.Test.YtkjmkhmjaknfhaaGreatDoorXAH
import Derived.Test.YtkjmkhmjaknfhaaGreatDoorXAB
namespace Go.Proofs.YtkjmkhmjaknfhaaGreatDoor
open Go.RowKit
set_option linter.unusedVariables false
set_option linter.unusedSimpArgs false

theorem wds_of {s : ByteArray} {l : List ByteArray} (h : wLs [] s.data.toList = l.map fun x => x.data.toList) : wdsL s 0 = l := by
  apply map_inj_bytes
  rw [wds_list s _ 0 rfl, List.drop_zero, h]

def exLn : List ByteArray := [⟨#[110, 97, 109, 101, 115, 32, 65]⟩, ⟨#[99, 117, 114, 115, 32, 69, 85, 82]⟩, ⟨#[112, 111, 111, 108, 32, 53]⟩, ⟨#[104, 111, 114, 105, 122, 111, 110, 32, 49]⟩, ⟨#[99, 101, 108, 108, 115, 32, 48]⟩, ⟨#[115, 108, 111, 116, 115, 32, 48]⟩, ⟨#[115, 116, 97, 99, 107, 32, 50]⟩, ⟨#[100, 97, 121, 32, 49]⟩, ⟨#[32, 32, 111, 98, 115, 32, 65, 32, 49]⟩, ⟨#[32, 32, 99, 111, 110, 115, 116, 32, 53]⟩, ⟨#[32, 32, 109, 117, 108]⟩, ⟨#[32, 32, 102, 108, 111, 119, 32, 69, 85, 82]⟩, ⟨#[32, 32, 101, 110, 100]⟩]
def exT : ByteArray := ⟨#[110, 97, 109, 101, 115, 32, 65, 10, 99, 117, 114, 115, 32, 69, 85, 82, 10, 112, 111, 111, 108, 32, 53, 10, 104, 111, 114, 105, 122, 111, 110, 32, 49, 10, 99, 101, 108, 108, 115, 32, 48, 10, 115, 108, 111, 116, 115, 32, 48, 10, 115, 116, 97, 99, 107, 32, 50, 10, 100, 97, 121, 32, 49, 10, 32, 32, 111, 98, 115, 32, 65, 32, 49, 10, 32, 32, 99, 111, 110, 115, 116, 32, 53, 10, 32, 32, 109, 117, 108, 10, 32, 32, 102, 108, 111, 119, 32, 69, 85, 82, 10, 32, 32, 101, 110, 100, 10]⟩
def exA : Ap := ⟨[⟨#[65]⟩], [⟨#[69, 85, 82]⟩], [5], 1, 0, 0, 2, [(1, [⟨3, 0, 1⟩, ⟨1, 0, 0⟩, ⟨11, 0, 0⟩, ⟨28, 0, 0⟩, ⟨0, 0, 0⟩])]⟩
theorem exW0 : wdsL ⟨#[110, 97, 109, 101, 115, 32, 65]⟩ 0 = [⟨#[110, 97, 109, 101, 115]⟩, ⟨#[65]⟩] := wds_of (by decide)
theorem exW1 : wdsL ⟨#[99, 117, 114, 115, 32, 69, 85, 82]⟩ 0 = [⟨#[99, 117, 114, 115]⟩, ⟨#[69, 85, 82]⟩] := wds_of (by decide)
theorem exW2 : wdsL ⟨#[112, 111, 111, 108, 32, 53]⟩ 0 = [⟨#[112, 111, 111, 108]⟩, ⟨#[53]⟩] := wds_of (by decide)
theorem exW3 : wdsL ⟨#[104, 111, 114, 105, 122, 111, 110, 32, 49]⟩ 0 = [⟨#[104, 111, 114, 105, 122, 111, 110]⟩, ⟨#[49]⟩] := wds_of (by decide)
theorem exW4 : wdsL ⟨#[99, 101, 108, 108, 115, 32, 48]⟩ 0 = [⟨#[99, 101, 108, 108, 115]⟩, ⟨#[48]⟩] := wds_of (by decide)
theorem exW5 : wdsL ⟨#[115, 108, 111, 116, 115, 32, 48]⟩ 0 = [⟨#[115, 108, 111, 116, 115]⟩, ⟨#[48]⟩] := wds_of (by decide)
theorem exW6 : wdsL ⟨#[115, 116, 97, 99, 107, 32, 50]⟩ 0 = [⟨#[115, 116, 97, 99, 107]⟩, ⟨#[50]⟩] := wds_of (by decide)
theorem exW7 : wdsL ⟨#[100, 97, 121, 32, 49]⟩ 0 = [⟨#[100, 97, 121]⟩, ⟨#[49]⟩] := wds_of (by decide)
theorem exW8 : wdsL ⟨#[32, 32, 111, 98, 115, 32, 65, 32, 49]⟩ 0 = [⟨#[111, 98, 115]⟩, ⟨#[65]⟩, ⟨#[49]⟩] := wds_of (by decide)
theorem exW9 : wdsL ⟨#[32, 32, 99, 111, 110, 115, 116, 32, 53]⟩ 0 = [⟨#[99, 111, 110, 115, 116]⟩, ⟨#[53]⟩] := wds_of (by decide)
theorem exW10 : wdsL ⟨#[32, 32, 109, 117, 108]⟩ 0 = [⟨#[109, 117, 108]⟩] := wds_of (by decide)
theorem exW11 : wdsL ⟨#[32, 32, 102, 108, 111, 119, 32, 69, 85, 82]⟩ 0 = [⟨#[102, 108, 111, 119]⟩, ⟨#[69, 85, 82]⟩] := wds_of (by decide)
theorem exW12 : wdsL ⟨#[32, 32, 101, 110, 100]⟩ 0 = [⟨#[101, 110, 100]⟩] := wds_of (by decide)
theorem noLf_of {a : ByteArray} (h : ∀ c ∈ a.data.toList, c ≠ 10) : NoLf a := by
  intro i hi e
  rw [yb_lt hi] at e
  have m : a[i] ∈ a.data.toList := by
    show a.data[i] ∈ a.data.toList
    exact Array.getElem_mem_toList _
  exact h _ m (by apply UInt8.toNat_inj.1; simpa using (by omega : a[i].toNat = 10))
theorem exLn_noLf : ∀ a ∈ exLn, NoLf a := by
  have : ∀ a ∈ exLn, ∀ c ∈ a.data.toList, c ≠ 10 := by decide
  exact fun a ha => noLf_of (this a ha)
theorem lfT_list (a r : ByteArray) : (lfT a r).data.toList = a.data.toList ++ 10 :: r.data.toList := by
  unfold lfT
  rw [ByteArray.data_append, ByteArray.data_append]
  simp
theorem lfJ_list : ∀ (l : List ByteArray) (r : ByteArray), (lfJ l r).data.toList = (l.flatMap fun a => a.data.toList ++ [10]) ++ r.data.toList
  | [], r => by simp [lfJ]
  | a :: l, r => by
    show (lfT a (lfJ l r)).data.toList = _
    rw [lfT_list, lfJ_list l r]
    simp
theorem bytes_list {a b : ByteArray} (h : a.data.toList = b.data.toList) : a = b := ByteArray.ext (Array.toList_inj.1 h)
theorem exT_lf : exT = lfJ exLn ⟨#[]⟩ := by
  apply bytes_list
  rw [lfJ_list]
  rfl
theorem exT_lns : lnsR exT = exLn := by
  rw [exT_lf, lnsR_lfJ _ _ exLn_noLf, lnsR_nil (by decide), List.append_nil]

theorem exS0 : apLine (0, (⟨[], [], [], 0, 0, 0, 0, []⟩ : Ap)) ⟨#[110, 97, 109, 101, 115]⟩ [⟨#[65]⟩] = some (1, (⟨[⟨#[65]⟩], [], [], 0, 0, 0, 0, []⟩ : Ap)) := by kernel_rfl
theorem exS1 : apLine (1, (⟨[⟨#[65]⟩], [], [], 0, 0, 0, 0, []⟩ : Ap)) ⟨#[99, 117, 114, 115]⟩ [⟨#[69, 85, 82]⟩] = some (2, (⟨[⟨#[65]⟩], [⟨#[69, 85, 82]⟩], [], 0, 0, 0, 0, []⟩ : Ap)) := by kernel_rfl
theorem exS2 : apLine (2, (⟨[⟨#[65]⟩], [⟨#[69, 85, 82]⟩], [], 0, 0, 0, 0, []⟩ : Ap)) ⟨#[112, 111, 111, 108]⟩ [⟨#[53]⟩] = some (3, (⟨[⟨#[65]⟩], [⟨#[69, 85, 82]⟩], [5], 0, 0, 0, 0, []⟩ : Ap)) := by kernel_rfl
theorem exS3 : apLine (3, (⟨[⟨#[65]⟩], [⟨#[69, 85, 82]⟩], [5], 0, 0, 0, 0, []⟩ : Ap)) ⟨#[104, 111, 114, 105, 122, 111, 110]⟩ [⟨#[49]⟩] = some (4, (⟨[⟨#[65]⟩], [⟨#[69, 85, 82]⟩], [5], 1, 0, 0, 0, []⟩ : Ap)) := by kernel_rfl
theorem exS4 : apLine (4, (⟨[⟨#[65]⟩], [⟨#[69, 85, 82]⟩], [5], 1, 0, 0, 0, []⟩ : Ap)) ⟨#[99, 101, 108, 108, 115]⟩ [⟨#[48]⟩] = some (5, (⟨[⟨#[65]⟩], [⟨#[69, 85, 82]⟩], [5], 1, 0, 0, 0, []⟩ : Ap)) := by kernel_rfl
theorem exS5 : apLine (5, (⟨[⟨#[65]⟩], [⟨#[69, 85, 82]⟩], [5], 1, 0, 0, 0, []⟩ : Ap)) ⟨#[115, 108, 111, 116, 115]⟩ [⟨#[48]⟩] = some (6, (⟨[⟨#[65]⟩], [⟨#[69, 85, 82]⟩], [5], 1, 0, 0, 0, []⟩ : Ap)) := by kernel_rfl
theorem exS6 : apLine (6, (⟨[⟨#[65]⟩], [⟨#[69, 85, 82]⟩], [5], 1, 0, 0, 0, []⟩ : Ap)) ⟨#[115, 116, 97, 99, 107]⟩ [⟨#[50]⟩] = some (7, (⟨[⟨#[65]⟩], [⟨#[69, 85, 82]⟩], [5], 1, 0, 0, 2, []⟩ : Ap)) := by kernel_rfl
theorem exS7 : apLine (7, (⟨[⟨#[65]⟩], [⟨#[69, 85, 82]⟩], [5], 1, 0, 0, 2, []⟩ : Ap)) ⟨#[100, 97, 121]⟩ [⟨#[49]⟩] = some (7, (⟨[⟨#[65]⟩], [⟨#[69, 85, 82]⟩], [5], 1, 0, 0, 2, [(1, [])]⟩ : Ap)) := by kernel_rfl
theorem exS8 : apLine (7, (⟨[⟨#[65]⟩], [⟨#[69, 85, 82]⟩], [5], 1, 0, 0, 2, [(1, [])]⟩ : Ap)) ⟨#[111, 98, 115]⟩ [⟨#[65]⟩, ⟨#[49]⟩] = some (7, (⟨[⟨#[65]⟩], [⟨#[69, 85, 82]⟩], [5], 1, 0, 0, 2, [(1, [⟨3, 0, 1⟩])]⟩ : Ap)) := by kernel_rfl
theorem exS9 : apLine (7, (⟨[⟨#[65]⟩], [⟨#[69, 85, 82]⟩], [5], 1, 0, 0, 2, [(1, [⟨3, 0, 1⟩])]⟩ : Ap)) ⟨#[99, 111, 110, 115, 116]⟩ [⟨#[53]⟩] = some (7, (⟨[⟨#[65]⟩], [⟨#[69, 85, 82]⟩], [5], 1, 0, 0, 2, [(1, [⟨3, 0, 1⟩, ⟨1, 0, 0⟩])]⟩ : Ap)) := by kernel_rfl
theorem exS10 : apLine (7, (⟨[⟨#[65]⟩], [⟨#[69, 85, 82]⟩], [5], 1, 0, 0, 2, [(1, [⟨3, 0, 1⟩, ⟨1, 0, 0⟩])]⟩ : Ap)) ⟨#[109, 117, 108]⟩ [] = some (7, (⟨[⟨#[65]⟩], [⟨#[69, 85, 82]⟩], [5], 1, 0, 0, 2, [(1, [⟨3, 0, 1⟩, ⟨1, 0, 0⟩, ⟨11, 0, 0⟩])]⟩ : Ap)) := by kernel_rfl
theorem exS11 : apLine (7, (⟨[⟨#[65]⟩], [⟨#[69, 85, 82]⟩], [5], 1, 0, 0, 2, [(1, [⟨3, 0, 1⟩, ⟨1, 0, 0⟩, ⟨11, 0, 0⟩])]⟩ : Ap)) ⟨#[102, 108, 111, 119]⟩ [⟨#[69, 85, 82]⟩] = some (7, (⟨[⟨#[65]⟩], [⟨#[69, 85, 82]⟩], [5], 1, 0, 0, 2, [(1, [⟨3, 0, 1⟩, ⟨1, 0, 0⟩, ⟨11, 0, 0⟩, ⟨28, 0, 0⟩])]⟩ : Ap)) := by kernel_rfl
theorem exS12 : apLine (7, (⟨[⟨#[65]⟩], [⟨#[69, 85, 82]⟩], [5], 1, 0, 0, 2, [(1, [⟨3, 0, 1⟩, ⟨1, 0, 0⟩, ⟨11, 0, 0⟩, ⟨28, 0, 0⟩])]⟩ : Ap)) ⟨#[101, 110, 100]⟩ [] = some (7, (⟨[⟨#[65]⟩], [⟨#[69, 85, 82]⟩], [5], 1, 0, 0, 2, [(1, [⟨3, 0, 1⟩, ⟨1, 0, 0⟩, ⟨11, 0, 0⟩, ⟨28, 0, 0⟩, ⟨0, 0, 0⟩])]⟩ : Ap)) := by kernel_rfl
theorem exW13 : wdsL ⟨#[32, 32, 101, 110, 100, 115]⟩ 0 = [⟨#[101, 110, 100, 115]⟩] := wds_of (by decide)
theorem exS13 : apLine (7, (⟨[⟨#[65]⟩], [⟨#[69, 85, 82]⟩], [5], 1, 0, 0, 2, [(1, [⟨3, 0, 1⟩, ⟨1, 0, 0⟩, ⟨11, 0, 0⟩, ⟨28, 0, 0⟩])]⟩ : Ap)) ⟨#[101, 110, 100, 115]⟩ [] = none := by kernel_rfl
def exL2 : List ByteArray := [⟨#[110, 97, 109, 101, 115, 32, 65]⟩, ⟨#[99, 117, 114, 115, 32, 69, 85, 82]⟩, ⟨#[112, 111, 111, 108, 32, 53]⟩, ⟨#[104, 111, 114, 105, 122, 111, 110, 32, 49]⟩, ⟨#[99, 101, 108, 108, 115, 32, 48]⟩, ⟨#[115, 108, 111, 116, 115, 32, 48]⟩, ⟨#[115, 116, 97, 99, 107, 32, 50]⟩, ⟨#[100, 97, 121, 32, 49]⟩, ⟨#[32, 32, 111, 98, 115, 32, 65, 32, 49]⟩, ⟨#[32, 32, 99, 111, 110, 115, 116, 32, 53]⟩, ⟨#[32, 32, 109, 117, 108]⟩, ⟨#[32, 32, 102, 108, 111, 119, 32, 69, 85, 82]⟩, ⟨#[32, 32, 101, 110, 100, 115]⟩]
def exT2 : ByteArray := ⟨#[110, 97, 109, 101, 115, 32, 65, 10, 99, 117, 114, 115, 32, 69, 85, 82, 10, 112, 111, 111, 108, 32, 53, 10, 104, 111, 114, 105, 122, 111, 110, 32, 49, 10, 99, 101, 108, 108, 115, 32, 48, 10, 115, 108, 111, 116, 115, 32, 48, 10, 115, 116, 97, 99, 107, 32, 50, 10, 100, 97, 121, 32, 49, 10, 32, 32, 111, 98, 115, 32, 65, 32, 49, 10, 32, 32, 99, 111, 110, 115, 116, 32, 53, 10, 32, 32, 109, 117, 108, 10, 32, 32, 102, 108, 111, 119, 32, 69, 85, 82, 10, 32, 32, 101, 110, 100, 115, 10]⟩
theorem exL2_noLf : ∀ a ∈ exL2, NoLf a := by
  have : ∀ a ∈ exL2, ∀ c ∈ a.data.toList, c ≠ 10 := by decide
  exact fun a ha => noLf_of (this a ha)
theorem exT2_lns : lnsR exT2 = exL2 := by
  have e : exT2 = lfJ exL2 ⟨#[]⟩ := by
    apply bytes_list
    rw [lfJ_list]
    rfl
  rw [e, lnsR_lfJ _ _ exL2_noLf, lnsR_nil (by decide), List.append_nil]
theorem exAll : apAll exLn 0 (0, Ap.zero) = .ok (13, (7, exA)) := by
  unfold exLn Ap.zero
  simp only [apAll, exW0, exW1, exW2, exW3, exW4, exW5, exW6, exW7, exW8, exW9, exW10, exW11, exW12, exS0, exS1, exS2, exS3, exS4, exS5, exS6, exS7, exS8, exS9, exS10, exS11, exS12]
  rfl
theorem exAll2 : apAll exL2 0 (0, Ap.zero) = .error 13 := by
  unfold exL2 Ap.zero
  simp only [apAll, exW0, exW1, exW2, exW3, exW4, exW5, exW6, exW7, exW8, exW9, exW10, exW11, exW13, exS0, exS1, exS2, exS3, exS4, exS5, exS6, exS7, exS8, exS9, exS10, exS11, exS13]
theorem exCan : canP exA.pg := by
  have one : ∀ i, i < 1 → i = 0 := by omega
  refine ⟨by decide, ⟨by decide, by kernel_rfl, fun i h => ?_, by decide, by kernel_rfl, fun i h => ?_, by decide, fun i h => ?_⟩, ⟨fun i hi => ?_, by decide⟩, fun i hi => ?_, by kernel_rfl⟩
  · simp [Ap.pg, exA] at h
  · simp [Ap.pg, exA] at h
  · simp [Ap.pg, exA] at h
  · obtain rfl := one i hi
    exact ⟨by decide, by decide⟩
  · obtain rfl := one i hi
    refine ⟨by decide, fun n hn => ?_⟩
    have hn5 : n < 5 := hn
    rcases (show n = 0 ∨ n = 1 ∨ n = 2 ∨ n = 3 ∨ n = 4 by omega) with rfl | rfl | rfl | rfl | rfl
    all_goals
      refine ⟨by decide, by first | decide | (unfold In.okP; decide), by first | decide | (unfold inB; decide) | (unfold inB; simp [Ap.pg, exA])⟩
theorem exOut : outA exT = (exA, 0, 0) := by
  unfold outA
  rw [if_neg (by decide), exT_lns, exAll]
  simp only
  rw [if_pos (by decide), if_pos exCan]
theorem exOut2 : outA exT2 = (Ap.zero, 13, 131) := by
  unfold outA
  rw [if_neg (by decide), exT2_lns, exAll2]
  rfl
theorem exE : exT.extract 0 103 ++ ⟨#[101, 110, 100, 115, 10]⟩ = exT2 := by
  apply bytes_list
  rw [ByteArray.data_append, ByteArray.data_extract]
  decide
end Go.Proofs.YtkjmkhmjaknfhaaGreatDoor

namespace Go.Proofs.YtkjmkhmjaknfhaaGreatDoor
open Go.RowKit
set_option linter.unusedVariables false
set_option linter.unusedSimpArgs false

/-- The first lines, each with its feed. -/
def txF (ls : List ByteArray) (k : Nat) : List UInt8 := (ls.take k).flatMap fun a => a.data.toList ++ [10]
theorem txF_step {ls : List ByteArray} {k : Nat} (h : k < ls.length) : txF ls (k + 1) = txF ls k ++ ls[k].data.toList ++ [10] := by
  unfold txF
  rw [List.take_succ_eq_append_getElem h, List.flatMap_append]
  simp
theorem txF_len : ∀ (ls : List ByteArray) (k : Nat), (txF ls k).length ≤ (txF ls ls.length).length := by
  intro ls k
  unfold txF
  rw [List.take_length]
  conv => rhs; rw [← List.take_append_drop k ls]
  rw [List.flatMap_append, List.length_append]
  exact Nat.le_add_right _ _
theorem lnsR_tot : ∀ (n : Nat) (t : ByteArray), t.size = n → (txF (lnsR t) (lnsR t).length).length ≤ t.size + 1 := by
  intro n
  induction n using Nat.strongRecOn with
  | _ n ih =>
    intro t hn
    unfold txF at ih ⊢
    rw [List.take_length]
    by_cases h : 0 < t.size
    · have e : (t.extract (fy lfA t 0 + 1) t.size).size = t.size - (fy lfA t 0 + 1) := by rw [ByteArray.size_extract]; omega
      have z := ih _ (by omega) (t.extract (fy lfA t 0 + 1) t.size) rfl
      rw [List.take_length, e] at z
      rw [lnsR_cons h, List.flatMap_cons, List.length_append, List.length_append]
      have l0 : (t.extract 0 (fy lfA t 0)).data.toList.length = (t.extract 0 (fy lfA t 0)).size := Array.length_toList
      have l1 : (t.extract 0 (fy lfA t 0)).size = fy lfA t 0 := by
        rw [ByteArray.size_extract]
        have := fy_le (p := lfA) (s := t) (i := 0) (Nat.zero_le _)
        omega
      rw [l0, l1]
      have hle := fy_le (p := lfA) (s := t) (i := 0) (Nat.zero_le _)
      simp only [List.length_cons, List.length_nil]
      by_cases q : fy lfA t 0 + 1 ≤ t.size
      · omega
      · have e0 : (t.extract (fy lfA t 0 + 1) t.size).size = 0 := by omega
        rw [lnsR_nil (by omega)] at z ⊢
        simp
        omega
    · rw [lnsR_nil (by omega)]; simp
end Go.Proofs.YtkjmkhmjaknfhaaGreatDoor

namespace Go.Proofs.YtkjmkhmjaknfhaaGreatDoor
open Go.RowKit
set_option linter.unusedVariables false
set_option linter.unusedSimpArgs false

def cmL : ByteArray := ⟨#[32, 59, 32, 97, 32, 99, 111, 109, 109, 101, 110, 116, 58, 32, 115, 116, 97, 99, 107, 32, 57, 32]⟩
def tbL : ByteArray := ⟨#[9]⟩
theorem cmL_wds : wdsL cmL 0 = [] := wds_of (by decide)
theorem tbL_wds : wdsL tbL 0 = [] := wds_of (by decide)
/-- The number that a line goes by. -/
def kOf (how : List Int) (i : Nat) : Nat := if how = [] then 0 else (if how.getD (i % how.length) 0 < 0 then (-(how.getD (i % how.length) 0 + 1)).toNat else (how.getD (i % how.length) 0).toNat)
/-- A line, and what it has become. -/
def grp (how : List Int) (i : Nat) (a : ByteArray) : InsG := ⟨(if kOf how i % 3 = 0 then [cmL] else []) ++ (if kOf how i % 5 = 0 then [tbL] else []), a, ⟨(spR (kOf how i) a).toArray⟩⟩
def gsL (how : List Int) (ls : List ByteArray) : List InsG := ls.mapIdx fun i a => grp how i a
theorem gs_len (how : List Int) (ls : List ByteArray) : (gsL how ls).length = ls.length := by simp [gsL]
theorem gs_get (how : List Int) (ls : List ByteArray) (i : Nat) (h : i < ls.length) : (gsL how ls)[i]'(by rw [gs_len]; exact h) = grp how i ls[i] := by simp [gsL]
theorem gs_ok (how : List Int) (ls : List ByteArray) : ∀ g ∈ gsL how ls, g.ok := by
  intro g hg
  obtain ⟨i, hi, rfl⟩ := List.getElem_of_mem hg
  rw [gs_len] at hi
  rw [gs_get how ls i hi]
  refine ⟨fun x hx => ?_, spR_wds _ _⟩
  unfold grp at hx
  simp only [List.mem_append] at hx
  rcases hx with hx | hx
  · split at hx
    · rw [List.mem_singleton.1 hx]; exact cmL_wds
    · cases hx
  · split at hx
    · rw [List.mem_singleton.1 hx]; exact tbL_wds
    · cases hx
theorem gs_old (how : List Int) (ls : List ByteArray) : (gsL how ls).map (·.old) = ls := by
  apply List.ext_getElem
  · simp [gs_len]
  · intro i h1 h2
    rw [List.getElem_map, gs_get how ls i h2]
    rfl
/-- The first groups' bytes. -/
def grpT (g : InsG) : List UInt8 := g.ls.flatMap fun a => a.data.toList ++ [10]
def txG (gs : List InsG) (i : Nat) : List UInt8 := (gs.take i).flatMap grpT
theorem txG_step (gs : List InsG) (i : Nat) (h : i < gs.length) : txG gs (i + 1) = txG gs i ++ grpT gs[i] := by
  unfold txG
  rw [List.take_succ_eq_append_getElem h, List.flatMap_append]
  simp
theorem grpT_eq (how : List Int) (i : Nat) (a : ByteArray) : grpT (grp how i a) = (if kOf how i % 3 = 0 then cmL.data.toList ++ [10] else []) ++ (if kOf how i % 5 = 0 then tbL.data.toList ++ [10] else []) ++ (spR (kOf how i) a ++ [10]) := by
  unfold grpT grp InsG.ls
  by_cases h1 : kOf how i % 3 = 0 <;> by_cases h2 : kOf how i % 5 = 0 <;> simp [h1, h2]
theorem grpT_len (how : List Int) (i : Nat) (a : ByteArray) : (grpT (grp how i a)).length ≤ 4 * a.size + 32 := by
  rw [grpT_eq, List.length_append, List.length_append, List.length_append]
  have := spR_len (kOf how i) a
  have c1 : (if kOf how i % 3 = 0 then cmL.data.toList ++ [10] else []).length ≤ 23 := by split <;> decide
  have c2 : (if kOf how i % 5 = 0 then tbL.data.toList ++ [10] else []).length ≤ 2 := by split <;> decide
  simp only [List.length_cons, List.length_nil]
  omega
theorem txG_len (how : List Int) (ls : List ByteArray) : ∀ i, i ≤ ls.length → (txG (gsL how ls) i).length ≤ 4 * (txF ls i).length + 32 * i
  | 0, _ => by simp [txG]
  | i + 1, h => by
    have z := txG_len how ls i (by omega)
    have hi : i < ls.length := by omega
    rw [txG_step _ i (by rw [gs_len]; exact hi), gs_get how ls i hi, txF_step hi, List.length_append, List.length_append, List.length_append]
    have := grpT_len how i ls[i]
    have e : ls[i].data.toList.length = ls[i].size := Array.length_toList
    simp only [List.length_cons, List.length_nil]
    omega
/-- What the reader tells of the new text. -/
def toldG (gs : List InsG) (L n : Nat) : Nat := if L < n then cntG gs + 1 else cntG (gs.take n)
theorem loose_out {s : ByteArray} (how : List Int) (hz : s.size ≤ 131072) : ∃ n : Nat, (outA s).2.1 = (n : Int) ∧ n ≤ (lnsR s).length + 1 ∧ outA ⟨(txG (gsL how (lnsR s)) (lnsR s).length).toArray⟩ = ((outA s).1, ((toldG (gsL how (lnsR s)) (lnsR s).length n : Nat) : Int), (outA s).2.2) := by
  have hl := gs_len how (lnsR s)
  have e : (⟨(txG (gsL how (lnsR s)) (lnsR s).length).toArray⟩ : ByteArray) = lfJ ((gsL how (lnsR s)).flatMap InsG.ls) ⟨#[]⟩ := by
    apply bytes_list
    rw [lfJ_list]
    unfold txG
    rw [← hl, List.take_length]
    show (gsL how (lnsR s)).flatMap grpT = _ ++ []
    rw [List.append_nil, List.flatMap_assoc]
    rfl
  have sz : (⟨(txG (gsL how (lnsR s)) (lnsR s).length).toArray⟩ : ByteArray).size ≤ 16777216 := by
    have a1 := txG_len how (lnsR s) (lnsR s).length (Nat.le_refl _)
    have a2 := lnsR_tot _ s rfl
    have a3 := lnsR_len _ s rfl
    show (txG (gsL how (lnsR s)) (lnsR s).length).toArray.size ≤ _
    rw [List.size_toArray]
    omega
  have nl : ∀ a ∈ (gsL how (lnsR s)).flatMap InsG.ls, NoLf a := by
    intro a ha
    obtain ⟨g, hg, ha⟩ := List.mem_flatMap.1 ha
    obtain ⟨i, hi, rfl⟩ := List.getElem_of_mem hg
    rw [hl] at hi
    rw [gs_get how _ i hi] at ha
    unfold grp InsG.ls at ha
    simp only [List.mem_append, List.mem_singleton] at ha
    apply noLf_of
    rcases ha with (ha | ha) | ha
    · split at ha
      · rw [List.mem_singleton.1 ha]; decide
      · cases ha
    · split at ha
      · rw [List.mem_singleton.1 ha]; decide
      · cases ha
    · subst ha
      have h0 := lnsR_noLf _ s rfl _ (List.getElem_mem hi)
      refine spR_lf _ _ (fun c hc e => ?_)
      obtain ⟨j, hj, rfl⟩ := List.getElem_of_mem hc
      have hj' : j < (lnsR s)[i].size := hj
      refine h0 j hj' ?_
      rw [yb_lt hj']
      have : (lnsR s)[i][j] = (10 : UInt8) := e
      rw [this]; rfl
  obtain ⟨i1, i2⟩ := apAll_ins (gsL how (lnsR s)) 0 0 (0, Ap.zero) (gs_ok how _)
  rw [gs_old] at i1 i2
  have E2 : outA ⟨(txG (gsL how (lnsR s)) (lnsR s).length).toArray⟩ = match apAll ((gsL how (lnsR s)).flatMap InsG.ls) 0 (0, Ap.zero) with
      | .error n => (Ap.zero, (n : Int), 131)
      | .ok (n, st) => if mayC st.1 8 = true then (if canP st.2.pg then (st.2, 0, 0) else (Ap.zero, 0, 121)) else (Ap.zero, ((n + 1 : Nat) : Int), 131) := by
    unfold outA
    have en : lnsR (ByteArray.mk #[]) = [] := lnsR_nil (by decide)
    rw [if_neg (by omega), e, lnsR_lfJ _ _ nl, en, List.append_nil]
    first | done | rfl
  have E1 : outA s = match apAll (lnsR s) 0 (0, Ap.zero) with
      | .error n => (Ap.zero, (n : Int), 131)
      | .ok (n, st) => if mayC st.1 8 = true then (if canP st.2.pg then (st.2, 0, 0) else (Ap.zero, 0, 121)) else (Ap.zero, ((n + 1 : Nat) : Int), 131) := by
    unfold outA
    rw [if_neg (by omega)]
    first | done | rfl
  rw [E2, E1]
  cases hA : apAll (lnsR s) 0 (0, Ap.zero) with
  | error n =>
    obtain ⟨a, b, c⟩ := i1 n hA
    rw [c]
    refine ⟨n, rfl, by rw [hl] at b; omega, ?_⟩
    unfold toldG
    rw [if_neg (by rw [hl] at b; omega), Nat.sub_zero, Nat.zero_add]
  | ok r =>
    obtain ⟨n, st⟩ := r
    obtain ⟨a, c⟩ := i2 n st hA
    rw [c]
    simp only
    rw [hl] at a
    by_cases hm : mayC st.1 8 = true
    · rw [if_pos hm, if_pos hm]
      by_cases hc : canP st.2.pg
      · rw [if_pos hc]
        try rw [if_pos hc]
        exact ⟨0, rfl, by omega, by unfold toldG; rw [if_neg (by omega)]; rfl⟩
      · rw [if_neg hc]
        try rw [if_neg hc]
        exact ⟨0, rfl, by omega, by unfold toldG; rw [if_neg (by omega)]; rfl⟩
    · rw [if_neg hm, if_neg hm]
      refine ⟨n + 1, rfl, by omega, ?_⟩
      unfold toldG
      rw [if_pos (by omega), Nat.zero_add]
end Go.Proofs.YtkjmkhmjaknfhaaGreatDoor

namespace Go.Proofs.YtkjmkhmjaknfhaaGreatDoor
open Go.RowKit
set_option linter.unusedVariables false
set_option linter.unusedSimpArgs false
theorem str_bytes (s : ByteArray) : Lib.strCells s = Lib.byteCells s.data.toList := by
  unfold Lib.strCells Lib.byteCells
  first | rfl | simp
set_option maxHeartbeats 2000000 in
set_option maxRecDepth 100000 in
theorem bdText_any {B b : Nat} {l : List UInt8} {w : World} (h : Bd B b l w) (s : ByteArray) (hl : l.length + s.size ≤ 140737488355328) (hB : B ≤ w.heap.size) :
    Calls Tryz.prog 45 #[.pointer (some ⟨b, 0, none⟩), .string s] w fun e w' => e = .returned (.tuple #[.int .i64 (s.size : Int), .nilIface]) ∧ BdU B b (l ++ s.data.toList) w' ∧ Below B w w' ∧ OK8 b w w' ∧ w.heap.size ≤ w'.heap.size := by
  obtain ⟨i0, hi, hz0, hz1, hz2⟩ := info_parts info8b
  have KC := Lib.hid (bdCheck_any h)
  clear h
  go_enter Tryz.func45, Tryz.ntmps45
  go_wp2_with (first
    | (go_at_call 77; refine KC.out.mono ?_; rintro e w1 ⟨rfl, ⟨hb, v, hbk, hown, hne⟩, b1, o1, z1⟩; have c0 : w1.cell? ⟨b, 0, none⟩ = some (.pointer (some ⟨b, 0, none⟩)) := (by simp [World.cell?, hbk]); have c1 : w1.cell? ⟨b, 1, none⟩ = some v := (by simp [World.cell?, hbk]); have BK := Lib.hid hbk; have OW := Lib.hid hown; have NE := Lib.hid hne; have B1 := Lib.hid b1; have O1 := Lib.hid o1; have Z1 := Lib.hid z1; have HB := Lib.hid hb; clear hbk hown hne b1 o1 z1 hb)
    | (at_builtin; refine Lib.wpList_append_own_string _ rfl _ _ 37 9 rfl B 5 i0 Tryz.underlying37 Tryz.underlying9 hi hz0 hz1 hz2 _ _ _ rfl OW.out s rfl (by rw [Lib.byteCells_length]; unfold maxLen; omega) (by rw [Lib.byteCells_length]; omega) (Nat.le_trans hB Z1.out) ?_; intro v2 w2 k1 k2 k3; have lb : b < w1.heap.size := (Array.getElem?_eq_some_iff.1 BK.out).1; have BK2 := Lib.hid (show w2.heap[b]? = some (.cells #[.pointer (some ⟨b, 0, none⟩), v] 84 (0, 0)) from (k2.block b lb (fun e => NE.out e.symm)).trans BK.out); have d0 : w2.cell? ⟨b, 0, none⟩ = some (.pointer (some ⟨b, 0, none⟩)) := (by have := BK2.out; simp [World.cell?, this]); have d1 : w2.cell? ⟨b, 1, none⟩ = some v := (by have := BK2.out; simp [World.cell?, this]); have f1 : w2.frozen? ⟨b, 1, none⟩ = false := (by have := BK2.out; simp [World.frozen?, this]); obtain ⟨ao, n2, c2, rfl⟩ : ∃ ao n' cap, v2 = .slice ao n' cap := (by rcases k1.2 with ⟨q, _⟩ | ⟨g, cap, cur, q, _⟩ <;> exact ⟨_, _, _, q⟩); have O2 := Lib.hid k1; have B2 := Lib.hid (B1.out.grown k2 (Nat.le_trans hB Z1.out) (fun k e => (OW.out.lt k e).1)); have X2 := Lib.hid (ok8_gr O1.out k2 (fun k e => row_kind OW.out k e)); have Z2 := Lib.hid (Nat.le_trans Z1.out k2.size); clear k1 k2 k3 c0 c1 lb))
  go_ret2
  refine ⟨rfl, Lib.BuilderAt.put HB.out BK2.out ?_ (by decide), B2.out.setCell (p := ⟨b, 1, none⟩) HB.out _, X2.out.setCell ⟨b, 1, none⟩ rfl _, ?_⟩
  · have := O2.out
    rw [str_bytes] at this
    have e1 : s.data.toList.length = s.size := Array.length_toList
    have e2 : Lib.byteCells (l ++ s.data.toList) = Lib.byteCells l ++ Lib.byteCells s.data.toList := by simp [Lib.byteCells]
    rw [e2, List.length_append, Lib.byteCells_length, Lib.byteCells_length, e1]
    rw [Lib.byteCells_length] at this
    exact this
  · have := Z2.out
    simpa using this
theorem bd_of {B b : Nat} {l : List UInt8} {w : World} (h : BdU B b l w) : Bd B b l w := .inr h
theorem Bd.lt {B b : Nat} {l : List UInt8} {w : World} (h : Bd B b l w) : b < w.heap.size ∧ B ≤ b ∧ ∃ cs, w.heap[b]? = some (.cells cs 84 (0, 0)) := by
  rcases h with h | h
  · obtain ⟨h1, v, h2, _⟩ := h; exact ⟨(Array.getElem?_eq_some_iff.1 h2).1, h1, _, h2⟩
  · obtain ⟨h1, v, h2, _⟩ := h; exact ⟨(Array.getElem?_eq_some_iff.1 h2).1, h1, _, h2⟩
theorem Bd.later {B b : Nat} {l : List UInt8} {w w' : World} (h : Bd B b l w) (k : Below w.heap.size w w') : Bd B b l w' := by
  have go : ∀ p, Lib.BuilderAt 84 5 B b p (Lib.byteCells l) w → Lib.BuilderAt 84 5 B b p (Lib.byteCells l) w' := fun p h => by
    obtain ⟨h1, v, h2, h3, h4⟩ := h
    exact ⟨h1, v, (k.block b (Array.getElem?_eq_some_iff.1 h2).1).trans h2, row_farP h3 (gr_below k none) (fun k q e => by cases e), h4⟩
  exact h.imp (go _) (go _)
theorem ok8_bel {b : Nat} {w w' : World} (k : Below w.heap.size w w') : OK8 b w w' := fun j o ho _ _ => (k.block j (Array.getElem?_eq_some_iff.1 ho).1).trans ho
/-- What a call that writes into a builder leaves. -/
structure BdR (B b : Nat) (l : List UInt8) (w w' : World) : Prop where
  bd : Bd B b l w'
  bel : Below B w w'
  ok : OK8 b w w'
  sz : w.heap.size ≤ w'.heap.size
theorem BdR.trans {B b : Nat} {l l' : List UInt8} {w w' w'' : World} (h : BdR B b l w w') (k : BdR B b l' w' w'') : BdR B b l' w w'' := ⟨k.bd, h.bel.trans k.bel, h.ok.trans k.ok, Nat.le_trans h.sz k.sz⟩
theorem BdR.later {B b : Nat} {l : List UInt8} {w w' w'' : World} (h : BdR B b l w w') (hB : B ≤ w'.heap.size) (k : Below w'.heap.size w' w'') : BdR B b l w w'' := ⟨h.bd.later k, h.bel.trans (k.mono hB), h.ok.trans (ok8_bel k), Nat.le_trans h.sz k.size⟩
theorem BdR.start {B b : Nat} {l : List UInt8} {w : World} (h : Bd B b l w) : BdR B b l w w := ⟨h, Below.refl _ _, Lib.OthersKept.refl _ _ _, Nat.le_refl _⟩
theorem BdR.hB {B b : Nat} {l : List UInt8} {w w' : World} (h : BdR B b l w w') : B ≤ w'.heap.size := by have := h.bd.lt; omega
/-- A list of words, where the world holds it: below B, or in a row of texts. -/
def WL (B : Nat) (W : World) (a : Option Addr) (n : Nat) (ws : List ByteArray) : Prop :=
  ws.length = n ∧ (n = 0 ∨ ∃ g o, a = some ⟨g, o, none⟩ ∧ g < W.heap.size ∧ (g < B ∨ ∃ cs fz, W.heap[g]? = some (.cells cs 9 fz)) ∧ ∀ j x, ws[j]? = some x → W.cell? ⟨g, o + j, none⟩ = some (.string x))
theorem cell_block {w w' : World} {g k : Nat} (h : w'.heap[g]? = w.heap[g]?) : w'.cell? ⟨g, k, none⟩ = w.cell? ⟨g, k, none⟩ := by unfold World.cell?; simp only [h]
theorem WL.keep {B b : Nat} {l l' : List UInt8} {w w' : World} {a : Option Addr} {n : Nat} {ws : List ByteArray} (h : WL B w a n ws) (hb : Bd B b l w) (k : BdR B b l' w w') : WL B w' a n ws := by
  refine ⟨h.1, h.2.imp id ?_⟩
  rintro ⟨g, o, e, h1, h2, h3⟩
  have hg : w'.heap[g]? = w.heap[g]? := by
    rcases h2 with q | ⟨cs, fz, q⟩
    · exact k.bel.block g q
    · rw [q]
      refine k.ok g _ q (fun e => ?_) (fun c f e => ?_)
      · injection e with e
        subst e
        obtain ⟨cs', hc⟩ := hb.lt.2.2
        rw [q] at hc
        injection hc with hc
        injection hc with _ hc _
        revert hc; decide
      · injection e with _ e _
        revert e; decide
  refine ⟨g, o, e, Nat.lt_of_lt_of_le h1 k.sz, h2.imp id (fun ⟨cs, fz, q⟩ => ⟨cs, fz, hg.trans q⟩), fun j x hj => (cell_block hg).trans (h3 j x hj)⟩
theorem WL.later {B : Nat} {w w' : World} {a : Option Addr} {n : Nat} {ws : List ByteArray} (h : WL B w a n ws) (k : Below w.heap.size w w') : WL B w' a n ws := by
  refine ⟨h.1, h.2.imp id ?_⟩
  rintro ⟨g, o, e, h1, h2, h3⟩
  have hg := k.block g h1
  exact ⟨g, o, e, Nat.lt_of_lt_of_le h1 k.size, h2.imp id (fun ⟨cs, fz, q⟩ => ⟨cs, fz, hg.trans q⟩), fun j x hj => (cell_block hg).trans (h3 j x hj)⟩
theorem WL.size {B : Nat} {w : World} {a : Option Addr} {n : Nat} {ws : List ByteArray} (h : WL B w a n ws) : ws.length = n := h.1
/-- Words joined, as bytes. -/
def jnL (ws : List ByteArray) : List UInt8 := Lib.join (ws.map (·.data.toList)) [32]
theorem joinW_any {B : Nat} {w : World} {a : Option Addr} {n c : Nat} {ws : List ByteArray} (h : WL B w a n ws) (hc : n ≤ c) (hn : n ≤ 140737488355328) (hz : (jnL ws).length ≤ 140737488355328) :
    Calls Tryz.prog 29 #[.slice a n c, .string ⟨#[32]⟩] w fun e w' => e = .returned (.string ⟨(jnL ws).toArray⟩) ∧ Below w.heap.size w w' := by
  obtain ⟨h1, h2⟩ := h
  rcases h2 with q | ⟨g, o, rfl, q1, _, q3⟩
  · subst q
    have e : ws = [] := List.length_eq_zero_iff.1 h1
    subst e
    refine (Tryz.strings_Join_none a c ⟨#[32]⟩ w).mono ?_
    rintro e w' ⟨rfl, rfl⟩
    exact ⟨by simp [jnL, Lib.join_nil], Below.refl _ _⟩
  · subst h1
    exact Tryz.strings_Join g o c ws ⟨#[32]⟩ w q3 q1 hn hc hz
set_option maxHeartbeats 2000000 in
set_option maxRecDepth 100000 in
theorem writeWords_any {B b : Nat} {l : List UInt8} {w : World} (h : Bd B b l w) {a : Option Addr} {n c : Nat} {ws : List ByteArray} (hw : WL B w a n ws) (hc : n ≤ c) (hz : l.length + (jnL ws).length + 1 ≤ 140737488355328) (hn : n ≤ 140737488355328) :
    Calls Tryz.prog 46 #[.pointer (some ⟨b, 0, none⟩), .slice a n c] w fun e w' => e = .returned (.tuple #[]) ∧ BdR B b (l ++ jnL ws ++ [10]) w w' := by
  have hB : B ≤ w.heap.size := by have := h.lt; omega
  have KJ := Lib.hid (joinW_any hw hc hn (by omega))
  have R0 := Lib.hid (BdR.start h)
  have sz : (⟨(jnL ws).toArray⟩ : ByteArray).size = (jnL ws).length := by simp [ByteArray.size]
  have KT := Lib.hid (fun W (q : Bd B b l W) (z : B ≤ W.heap.size) => bdText_any q ⟨(jnL ws).toArray⟩ (by rw [sz]; omega) z)
  have KB := Lib.hid (fun W (q : Bd B b (l ++ jnL ws) W) (z : B ≤ W.heap.size) => bdByte_any q 10 (by simp; omega) z)
  clear hw h sz hz hn
  generalize jnL ws = js at *
  simp only at KT
  go_enter Tryz.func46, Tryz.ntmps46
  go_wp2_with (first
    | (go_at_call 29; refine KJ.out.mono ?_; rintro e w1 ⟨rfl, b1⟩; have R1 := Lib.hid (R0.out.later hB b1); clear b1)
    | (go_at_call 45; refine (KT.out _ R1.out.bd R1.out.hB).mono ?_; rintro e w2 ⟨rfl, u2, b2, o2, z2⟩; have R2 := Lib.hid (R1.out.trans ⟨bd_of u2, b2, o2, z2⟩); clear u2 b2 o2 z2)
    | (go_at_call 76; refine (KB.out _ R2.out.bd R2.out.hB).mono ?_; rintro e w3 ⟨rfl, u2, b2, o2, z2⟩; have R3 := Lib.hid (R2.out.trans ⟨bd_of u2, b2, o2, z2⟩); clear u2 b2 o2 z2))
  go_end0
  exact ⟨rfl, R3.out⟩
end Go.Proofs.YtkjmkhmjaknfhaaGreatDoor
