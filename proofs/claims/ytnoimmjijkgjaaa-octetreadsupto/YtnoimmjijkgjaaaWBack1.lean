/-
  ITEMS: their bytes; the walk of reads.
-/
import Derived.Test.YtnoimmjijkgjaaaWOct7
namespace Go.Proofs.Ytnoimmjijkgjaaa
open Go.RowKit
set_option linter.unusedVariables false
set_option linter.unusedSimpArgs false

/-- What kind an item is of. -/
def kd (k : Int) : Nat := if bits .and .i64 k 3 = 0 then 0 else if bits .and .i64 k 3 = 1 then 1 else 2
theorem kd0 {k : Int} (h : kd k = 0) : bits .and .i64 k 3 = 0 := by unfold kd at h; split at h; assumption; split at h <;> omega
theorem kd1 {k : Int} (h : kd k = 1) : bits .and .i64 k 3 = 1 := by unfold kd at h; split at h; omega; split at h; assumption; omega
theorem kd2 {k : Int} (h : kd k = 2) : (bits .and .i64 k 3 == 0) = false ∧ (bits .and .i64 k 3 == 1) = false := by
  unfold kd at h; split at h; omega; split at h; omega; simp; exact ⟨by assumption, by assumption⟩
theorem kd_or (k : Int) : kd k = 0 ∨ kd k = 1 ∨ kd k = 2 := by unfold kd; split; omega; split <;> omega
/-- An item's bytes. -/
def itB (f : It4) : List Int := if kd f.k = 0 then vl f.x.toNat else if kd f.k = 1 then vl (zz f.y) else tx f.s
theorem it_x {f : It4} (h : f.wf) : ∃ x : Nat, f.x = (x : Int) ∧ x < 18446744073709551616 := u64_nat' h.2.1
theorem it_y {f : It4} (h : f.wf) : -9223372036854775808 ≤ f.y ∧ f.y ≤ 9223372036854775807 := by simpa [Lit.wf, IntKind.min, IntKind.max, IntKind.bits, IntKind.signed] using h.2.2.1
theorem itB_byte (f : It4) : ∀ c ∈ itB f, 0 ≤ c ∧ c ≤ 255 := by
  unfold itB
  split
  · exact vl_byte _
  · split
    · exact vl_byte _
    · intro c hc
      rcases List.mem_append.1 hc with q | q
      · exact vl_byte _ c q
      · exact sb_byte _ c q
theorem itB_pos (f : It4) : 1 ≤ (itB f).length := by
  unfold itB
  split
  · exact vl_pos _
  · split
    · exact vl_pos _
    · have := vl_pos f.s.size; simp [tx]; omega
theorem itB_len {f : It4} (h : f.wf) (hs : f.s.size ≤ 1048576) : (itB f).length ≤ 1048586 := by
  unfold itB
  split
  · obtain ⟨x, e, hx⟩ := it_x h
    rw [e]; have := vl_len10 hx; simp; omega
  · split
    · have := vl_len10 (zz_lt (it_y h)); omega
    · have := vl_len10 (x := f.s.size) (by omega)
      simp [tx, sb_len]; omega
/-- The box that an item is handed in. -/
def BoxI (W : World) (q : Nat) (f : It4) : Prop := W.cell? ⟨q, 0, none⟩ = some (.int .i64 f.k) ∧ W.cell? ⟨q, 1, none⟩ = some (.int .u64 f.x) ∧ W.cell? ⟨q, 2, none⟩ = some (.int .i64 f.y) ∧ W.cell? ⟨q, 3, none⟩ = some (.string f.s)
theorem str_self (s : ByteArray) : (s.data.toList == s.data.toList) = true := by simp
theorem rb_alloc {w : World} {B p : Nat} {a : Option Addr} {n cap : Nat} {xs : List Int} {k : Nat} (h : RB w B p a n cap xs k) (o : Obj) : RB (w.alloc o) B p a n cap xs k := h.later (World.grownBy_alloc w o none)
theorem gr_alloc {p : Nat} {w w' : World} {o : Obj} (h : Gr p (w.alloc o) w') (hp : p < w.heap.size) : Gr p w w' := gr_trans (World.grownBy_alloc w o (some p)) h
theorem box_gr {w w' : World} {p : Nat} {o : Obj} (h : Gr p (w.alloc o) w') (hp : p < w.heap.size) (j : Nat) : w'.cell? ⟨w.heap.size, j, none⟩ = (w.alloc o).cell? ⟨w.heap.size, j, none⟩ :=
  World.cell?_of_block (a := ⟨w.heap.size, j, none⟩) (h.block w.heap.size (by simp) (fun e => by injection e with e; omega))

end Go.Proofs.Ytnoimmjijkgjaaa
