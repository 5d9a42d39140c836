/-
  WALKS: the words of numbers and cells.
-/
import Derived.Test.YthkeoeobpdminaaDoorWTRValid
import Derived.Test.YthkeoeobpdminaaDoorPlainText
import Derived.Lib.AppendStr
import Derived.Lib.AppendIntMem
import Derived.Lib.OthersKept
import Derived.Lib.ItoaLen
import Derived.Laws.IdiomStrings
import Derived.Laws.AppendOwn
import Derived.Laws.OwnMore
namespace Go.Proofs.YthkeoeobpdminaaDoor
open Go.RowKit
set_option linter.unusedVariables false
set_option linter.unusedSimpArgs false

theorem dec_ne (u : Nat) : 1 ≤ (Lib.decDigits u).length := by
  rw [Lib.decDigits_length]
  unfold Lib.nDigits
  split <;> omega
theorem word_eq (v : Int) (u : Nat) (hu : absI v = u) : decS (decide (v < 0)) 0 (Lib.decDigits u) = Lib.itoa v := by
  have e : pointed 0 (padTo 0 (Lib.decDigits u)) = Lib.decDigits u := by
    have := dec_ne u
    unfold pointed padTo
    rw [if_pos rfl, show 0 + 1 - (Lib.decDigits u).length = 0 by omega]; rfl
  unfold decS
  rw [e]
  unfold Lib.itoa
  by_cases h : v < 0
  · rw [decide_eq_true h, if_pos rfl, if_pos h, show v.natAbs = u by rw [absI_neg h] at hu; omega]
  · rw [decide_eq_false h, if_neg (by simp), if_neg h, show v.toNat = u by rw [absI_pos h] at hu; omega]
theorem numText0 (v : Int) (hv : inR v) (w : World) (ht : Pows w) :
    Calls Tryd.prog 16 #[.int .i64 v, .int .i64 0] w fun e w' => e = .returned (.tuple #[.string ⟨(Lib.itoa v).toArray⟩, .int .i64 0]) ∧ Below w.heap.size w w' := by
  obtain ⟨u, hu⟩ : ∃ u : Nat, absI v = u := ⟨(absI v).toNat, by have := absI_bd v hv; omega⟩
  have := text_in v hv u hu 0 (by omega) w ht
  rw [word_eq v u hu] at this
  exact this
theorem refText0 (v : Int) (hv : inR v) (w : World) :
    Calls Tryd.prog 32 #[.int .i64 v, .int .i64 0] w fun e w' => e = .returned (.tuple #[.string ⟨(Lib.itoa v).toArray⟩, .int .i64 0]) ∧ Below w.heap.size w w' := by
  obtain ⟨u, hu⟩ : ∃ u : Nat, absI v = u := ⟨(absI v).toNat, by have := absI_bd v hv; omega⟩
  refine (refText_in v hv 0 (by omega) w).mono ?_
  rintro e w' ⟨ds, rfl, hb, h1, h2, h3⟩
  rw [← texts_one h1 h2 (h3.trans hu), word_eq v u hu]
  exact ⟨rfl, hb⟩
/-- A cell's word. -/
def wordC (c : Cl) : List UInt8 := if c.h then Lib.itoa c.v else [45]
theorem wordC_len {c : Cl} (h : (Lit.int .i64 c.v).wf = true) : (wordC c).length ≤ 21 := by
  unfold wordC
  split
  · have d0 : -9223372036854775808 ≤ c.v ∧ c.v ≤ 9223372036854775807 := by simpa [Lit.wf, IntKind.min, IntKind.max, IntKind.bits, IntKind.signed] using h
    exact Lib.itoa_length_le c.v d0.1 d0.2
  · simp
theorem cellWord_any (h : Bool) (v : Int) (hv : inR v) (w : World) (ht : Lib.TabBelow Tryd.prog w.heap.size w "internal/strconv.uint64pow10" .u64 Lib.pow10Tab) :
    Calls Tryd.prog 31 #[.agg #[.bool h, .int .i64 v]] w fun e w' => e = .returned (.string ⟨(wordC ⟨h, v⟩).toArray⟩) ∧ Below w.heap.size w w' := by
  have B0 := Lib.hid ((Below.refl w.heap.size w).alloc (Nat.le_refl _) (.cells #[.bool h, .int .i64 v] 35))
  cases h with
  | false =>
    go_enter Tryd.func31, Tryd.ntmps31
    go_wp2
    go_ret
    exact ⟨rfl, B0.out⟩
  | true =>
    have K := Lib.hid (numText0 v hv _ (ht _ B0.out))
    have e : wordC ⟨true, v⟩ = Lib.itoa v := rfl
    rw [e]
    clear e ht
    generalize Lib.itoa v = s at *
    go_enter Tryd.func31, Tryd.ntmps31
    go_wp2_with (go_at_call 16; refine K.out.mono ?_; rintro e w1 ⟨rfl, h1⟩; have B1 := Lib.hid (B0.out.trans (h1.mono B0.out.size)); clear h1)
    go_ret
    exact ⟨rfl, B1.out⟩

/-- The text of a table. -/
def nameW (s : ByteArray) : List UInt8 := 32 :: s.data.toList
def cellW (c : Cl) : List UInt8 := 32 :: wordC c
def headT (ss : List ByteArray) (k : Nat) : List UInt8 := [100, 97, 121] ++ (ss.take k).flatMap nameW
def rowT (d : Nat) (cs : List Cl) (k : Nat) : List UInt8 := Lib.itoa (d : Int) ++ (cs.take k).flatMap cellW
def lineT (d : Nat) (cs : List Cl) : List UInt8 := rowT d cs cs.length ++ [10]
def rowsT (rs : List (List Cl)) (k : Nat) : List UInt8 := (List.range k).flatMap fun d => lineT d (rs.getD d [])
def textT (ss : List ByteArray) (rs : List (List Cl)) (k : Nat) : List UInt8 := headT ss ss.length ++ [10] ++ rowsT rs k
theorem flat_take {α : Type} [Inhabited α] (f : α → List UInt8) (l : List α) (k : Nat) (hk : k < l.length) : (l.take (k + 1)).flatMap f = (l.take k).flatMap f ++ f (l.getD k default) := by
  have e : l[k]? = some (l.getD k default) := by rw [List.getElem?_eq_getElem hk]; simp [List.getD, hk]
  rw [List.take_add_one, e]; simp
theorem headT_step {ss : List ByteArray} {k : Nat} (hk : k < ss.length) : headT ss (k + 1) = headT ss k ++ nameW (ss.getD k default) := by
  unfold headT; rw [flat_take _ _ _ hk, List.append_assoc]
theorem rowT_step {d : Nat} {cs : List Cl} {k : Nat} (hk : k < cs.length) : rowT d cs (k + 1) = rowT d cs k ++ cellW (cs.getD k default) := by
  unfold rowT; rw [flat_take _ _ _ hk, List.append_assoc]
theorem rowsT_step (rs : List (List Cl)) (k : Nat) : rowsT rs (k + 1) = rowsT rs k ++ lineT k (rs.getD k []) := by
  unfold rowsT; rw [List.range_succ]; simp
theorem textT_step (ss : List ByteArray) (rs : List (List Cl)) (k : Nat) : textT ss rs (k + 1) = textT ss rs k ++ lineT k (rs.getD k []) := by
  unfold textT; rw [rowsT_step, ← List.append_assoc]
theorem textT_mono (ss : List ByteArray) (rs : List (List Cl)) : ∀ (d k : Nat), (textT ss rs k).length ≤ (textT ss rs (k + d)).length
  | 0, k => Nat.le_refl _
  | d + 1, k => by
    have := textT_mono ss rs d k
    rw [← Nat.add_assoc, textT_step, List.length_append]; omega
theorem flat_len {α : Type} (f : α → List UInt8) (m : Nat) : ∀ (l : List α), (∀ x ∈ l, (f x).length ≤ m) → (l.flatMap f).length ≤ l.length * m
  | [], _ => by simp
  | x :: l, h => by
    have h1 := flat_len f m l (fun y hy => h y (List.mem_cons_of_mem _ hy))
    have h2 := h x (List.mem_cons_self)
    rw [List.flatMap_cons, List.length_append, List.length_cons, Nat.succ_mul]; omega
theorem headT_len {ss : List ByteArray} {k : Nat} (hk : k ≤ 64) (h : ∀ s ∈ ss, s.size ≤ 31) : (headT ss k).length ≤ 2051 := by
  unfold headT
  have h1 := flat_len nameW 32 (ss.take k) (fun s hs => by
    have := h s (List.mem_of_mem_take hs)
    have e : s.data.toList.length = s.size := Array.length_toList
    simp [nameW]; omega)
  have h2 : (ss.take k).length ≤ 64 := by simp; omega
  rw [List.length_append]
  simp only [List.length_cons, List.length_nil]
  omega
theorem rowT_len {d : Nat} {cs : List Cl} {k : Nat} (hk : k ≤ 64) (hd : d ≤ 5000) (h : ∀ c ∈ cs, (Lit.int .i64 c.v).wf = true) : (rowT d cs k).length ≤ 1430 := by
  unfold rowT
  have h1 := flat_len cellW 22 (cs.take k) (fun c hc => by
    have := wordC_len (h c (List.mem_of_mem_take hc))
    simp [cellW]; omega)
  have h2 : (cs.take k).length ≤ 64 := by simp; omega
  have h3 := Lib.itoa_length_le (d : Int) (by omega) (by omega)
  rw [List.length_append]
  omega
theorem own_day (w : World) : (w.alloc (.cells #[.int .u8 100, .int .u8 97, .int .u8 121] 5)).ownsRow w.heap.size 5 1 (.slice (some ⟨w.heap.size, 0, none⟩) 3 3) 3 (Lib.byteCells [100, 97, 121]) :=
  ⟨rfl, .inr ⟨w.heap.size, 3, #[.int .u8 100, .int .u8 97, .int .u8 121], rfl, Nat.le_refl _, World.alloc_heap_new w _, Nat.le_refl _, by unfold maxLen; omega, rfl, rfl⟩⟩
theorem info8 : (Tryd.prog.info? 5).map (fun i => (i.zero, i.size, i.bytes)) = some (some (.int .u8 0), 1, 1) := by kernel_rfl
/-- An append of one byte. -/
theorem wp_byte {ops : Array Oper} {rest : List Oper} {o : Oper} {a : Act} {Q : Exit → Act → World → Prop} (w : World) (c : Int) (hgd : o.guard = none) (s x : Operand)
    (ho : o.op = .call { callee := .builtin .append, args := #[s, x], argTypes := #[53, 53] }) (base : Nat) (v : Value) (n : Nat) (xs : List Value) (hs : a.eval s = v)
    (hx : a.eval x = .slice (some ⟨w.heap.size, 0, none⟩) 1 1) (hown : w.ownsRow base 5 1 v n xs) (hl : n ≤ 4398046511000) (hb : base ≤ w.heap.size)
    (h : ∀ v' w', w'.ownsRow base 5 1 v' (n + 1) (xs ++ [.int .u8 c]) → (w.alloc (.cells #[.int .u8 c] 5)).grownBy w' v.ownBlock → wpList Tryd.prog ops Q rest (a.put o.dst v') w') :
    wpList Tryd.prog ops Q (o :: rest) a (w.alloc (.cells #[.int .u8 c] 5)) := by
  obtain ⟨i0, hi, hz0, hz1, hz2⟩ := info_parts info8
  refine wpList_append_own _ hgd s x 53 ho base 5 i0 (.int .u8 0) 1 1 Tryd.underlying53 hi hz0 hz1 hz2 rfl (by decide) v _ _ hs (hown.alloc _) ⟨w.heap.size, 0, none⟩ 1 1 [.int .u8 c] hx rfl ?_ ?_ (by unfold maxLen; omega) (by omega) (by simp; omega) ?_
  · intro j u hj
    match j, hj with
    | 0, hj => simp at hj; subst hj; simp [Addr.add]
  · intro u hu; simp at hu; subst hu; rfl
  · intro v' w' h1 h2 _
    exact h v' w' h1 h2
theorem conv_bytesT {w : World} {B : Nat} {v : Value} {bs : List UInt8} {n : Nat} (hn : n = bs.length) (hne : bs ≠ []) (h : w.ownsRow B 5 1 v n (Lib.byteCells bs)) : ∃ g cap, v = .slice (some ⟨g, 0, none⟩) n cap ∧ (convert 53 9 v).run Tryd.prog w = .ok (.string ⟨bs.toArray⟩) w := by
  subst hn
  have hh := h
  obtain ⟨h1, h2⟩ := h
  rcases h2 with ⟨h3, h2⟩ | ⟨g, cap, cur, rfl, hB, hg, hn, hm, hs, ht⟩
  · exact absurd (List.length_eq_zero_iff.1 h2) hne
  · refine ⟨g, cap, rfl, run_convert_bytes_back (P := Tryd.prog) w 53 9 5 ⟨g, 0, none⟩ cap bs (by kernel_rfl) (by kernel_rfl) (by kernel_rfl) (fun j hj => ?_)⟩
    rw [Lib.add_plain, Nat.zero_add, hh.cellAt j (by omega)]
    simp [Lib.byteCells, hj]
/-- What Print answers. -/
def PrT (ss : List ByteArray) (rs : List (List Cl)) (e : Ending) : Prop :=
  (validE ss rs ≠ 0 ∧ e = .returned (.tuple #[.string ⟨#[]⟩, .int .i64 (validE ss rs)])) ∨
  (validE ss rs = 0 ∧ 1048576 < (textT ss rs rs.length).length ∧ e = .returned (.tuple #[.string ⟨#[]⟩, .int .i64 6])) ∨
  (validE ss rs = 0 ∧ (textT ss rs rs.length).length ≤ 1048576 ∧ e = .returned (.tuple #[.string ⟨(textT ss rs rs.length).toArray⟩, .int .i64 0]))
theorem prT_one {ss : List ByteArray} {rs : List (List Cl)} {e e' : Ending} (h : PrT ss rs e) (h' : PrT ss rs e') : e = e' := by
  rcases h with ⟨a, b⟩ | ⟨a, b, c⟩ | ⟨a, b, c⟩ <;> rcases h' with ⟨a', b'⟩ | ⟨a', b', c'⟩ | ⟨a', b', c'⟩ <;> first
    | exact absurd a' a
    | exact absurd a a'
    | omega
    | rw [b, b']
    | rw [c, c']
theorem valid_out {ss : List ByteArray} {rs : List (List Cl)} (h : validE ss rs = 0) : ss.length ≤ 64 ∧ rs.length ≤ 4096 ∧ (∀ s ∈ ss, s.size ≤ 31) ∧ ∀ r ∈ rs, r.length = ss.length := by
  unfold validE at h
  split at h
  · omega
  · rename_i h1
    split at h
    · omega
    · rename_i h2
      split at h
      · omega
      · rename_i h3
        refine ⟨by omega, by omega, fun s hs => ?_, fun r hr => ?_⟩
        · simp only [Bool.or_eq_true, Bool.not_eq_true'] at h3
          have : ss.all nameB = true := by
            cases q : ss.all nameB with
            | true => rfl
            | false => exact absurd (.inl q) h3
          have := List.all_eq_true.1 this s hs
          unfold nameB at this
          simp only [Bool.and_eq_true, decide_eq_true_eq] at this
          exact this.1.2
        · refine Classical.byContradiction fun hc => h1 ?_
          rw [List.any_eq_true]; exact ⟨r, hr, decide_eq_true hc⟩
end Go.Proofs.YthkeoeobpdminaaDoor
