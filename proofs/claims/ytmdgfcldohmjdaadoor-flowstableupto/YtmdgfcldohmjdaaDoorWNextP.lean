/-
  THE STEP OF A RANGE OVER A MAP OF SUMS BY DAY AND CURRENCY.
-/
import Derived.Test.YtmdgfcldohmjdaaDoorPlainSumsN
import Derived.Test.YtmdgfcldohmjdaaDoorWTold
import Derived.Test.YtmdgfcldohmjdaaDoorWAdd
import Derived.Maps.RangeWalk
import Derived.Maps.OwnSet
namespace Go.Proofs.YtmdgfcldohmjdaaDoor
open Go.RowKit Go.Maps
set_option linter.unusedVariables false
set_option linter.unusedSimpArgs false

theorem zeroI (w : World) : (zeroValue 3).run Tryd.prog w = .ok (.int .i64 0) w := by kernel_rfl
theorem wf_of {x : Int} (h : inR x) : (Lit.int .i64 x).wf = true := WalkArith.wf_i64 (by unfold inR at h; omega)
theorem agg_pair {x x' : DC} (h : Value.agg #[.int .i64 x.1, .string x.2] = Value.agg #[.int .i64 x'.1, .string x'.2]) : x = x' := by
  simp at h
  exact Prod.ext h.1 h.2
theorem wp_next_p {ops : Array Oper} {rest : List Oper} {o : Oper} {a : Act} {Q : Exit → Act → World → Prop} (w : World) (hg : o.guard = none) (it : Operand) (hop : o.op = Op.next it false)
    (b r n : Nat) (D : DataW Unit) (left : Lit → Bool) (cnt : Nat) (hit : a.eval it = .pointer (some ⟨r, 0, none⟩)) (h : w.ranges Tryd.prog 58 (plainElem Tryd.prog 3) b r n D left cnt)
    (hDone : cnt = 0 → (∀ kl, left kl = false) → wpList Tryd.prog ops Q rest (a.put o.dst (.tuple #[.bool false])) w)
    (hMore : ∀ (x : DC) (c : Int) (w' : World) (cnt' : Nat), wfK x → left (litK x) = true → (∀ zd, D.atKey (litK x) zd = .lit (.int .i64 c)) → w'.ranges Tryd.prog 58 (plainElem Tryd.prog 3) b r n D (fun z => left z && !z.sameKey (litK x)) cnt' → cnt' < cnt →
      w.grownBy w' (some r) → w'.heap.size = w.heap.size → (Instr.entry (.pointer (some ⟨r, 0, none⟩))).run Tryd.prog w' = .ok (.tuple #[.agg #[.int .i64 x.1, .string x.2], .int .i64 c]) w' → wpList Tryd.prog ops Q rest (a.put o.dst (.tuple #[.bool true, .agg #[.int .i64 x.1, .string x.2], .int .i64 c])) w') :
    wpList Tryd.prog ops Q (o :: rest) a w :=
  wpList_next_ranges w hg it hop 58 lawP (plainElem Tryd.prog 3) (fun x : DC => Value.agg #[.int .i64 x.1, .string x.2]) (Value.int .i64) (fun key kl hkey => by obtain ⟨x, rfl, _⟩ := keyP_inv hkey; exact ⟨x, rfl⟩) (fun v y hv => by obtain ⟨c, rfl, _⟩ := plainElem_int_inv Tryd.underlying3 hv; exact ⟨c, rfl⟩)
    b r n D left cnt hit h hDone (fun x c kl y w' cnt' hkey hlk hv hat hrg hlt hgr hsz hen => by
      obtain ⟨x', ex, rfl, hwk⟩ := keyP_inv hkey
      have ex' : x = x' := agg_pair ex
      subst ex'
      obtain ⟨c', ec, rfl, hwc⟩ := plainElem_int_inv Tryd.underlying3 hv
      cases ec
      exact hMore x c w' cnt' hwk hlk hat hrg hlt hgr hsz hen)
theorem netKeyW (d a : Int) (c : ByteArray) (w : World) :
    Calls Tryd.prog 24 #[.agg #[.int .i64 d, .string c, .int .i64 a]] w fun e w' => e = .returned (.agg #[.int .i64 d, .string c]) ∧ ∃ o1 o2, w' = (w.alloc o1).alloc o2 := by
  go_enter Tryd.func24, Tryd.ntmps24
  go_wp2
  exact bodyPost_ret (v := .agg #[.int .i64 d, .string c]) (by simp [results, Tryd.results24, go_sem]) rfl ⟨rfl, _, _, rfl⟩
theorem netToldW (d s : Int) (c : ByteArray) (w : World) :
    Calls Tryd.prog 25 #[.agg #[.int .i64 d, .string c], .int .i64 s] w fun e w' => e = .returned (.agg #[.int .i64 d, .string c, .int .i64 s]) ∧ ∃ o1 o2, w' = (w.alloc o1).alloc o2 := by
  go_enter Tryd.func25, Tryd.ntmps25
  go_wp2
  exact bodyPost_ret (v := .agg #[.int .i64 d, .string c, .int .i64 s]) (by simp [results, Tryd.results25, go_sem]) rfl ⟨rfl, _, _, rfl⟩
end Go.Proofs.YtmdgfcldohmjdaaDoor
