/-
  WALKS: AppendText (the program's); joined, Varint, Zigzag, AppendUint, AppendInt, AppendText (the document's).
-/
import Derived.Test.YtdbjdieegocdfaaDoorWHand
import Derived.Lib.AppendStr
namespace Go.Proofs.YtdbjdieegocdfaaDoor
open Go.RowKit
set_option linter.unusedVariables false
set_option linter.unusedSimpArgs false

/-- The bytes of a text. -/
def sb (s : ByteArray) : List Int := s.data.toList.map fun b => (b.toNat : Int)
theorem sb_cells (s : ByteArray) : bcs (sb s) = Lib.strCells s := by simp [bcs, sb, Lib.strCells]
theorem sb_len (s : ByteArray) : (sb s).length = s.size := by rw [← bcs_len, sb_cells, Lib.strCells_length]
theorem sb_byte (s : ByteArray) : ∀ c ∈ sb s, 0 ≤ c ∧ c ≤ 255 := by
  intro c hc
  obtain ⟨b, _, rfl⟩ := List.mem_map.1 hc
  have := b.toNat_lt
  omega
/-- 'append(own, text...)' to a row that has a byte. -/
theorem wp_joinS {ops : Array Oper} {rest : List Oper} {o : Oper} {a : Act} {Q : Exit → Act → World → Prop} (w : World) (hgd : o.guard = none) (s x : Operand)
    (ho : o.op = .call { callee := .builtin .append, args := #[s, x], argTypes := #[25, 9] }) (B : Nat) (v : Value) (n : Nat) (xs : List Int) (hs : a.eval s = v)
    (t : ByteArray) (hx : a.eval x = .string t) (hown : Own w B v n xs) (hn : 0 < n) (hl : n + t.size ≤ 140737488355328) (hb : B ≤ w.heap.size)
    (h : ∀ v' w', Ext B w v n xs w' v' (n + t.size) (xs ++ sb t) → wpList Tryd.prog ops Q rest (a.put o.dst v') w') :
    wpList Tryd.prog ops Q (o :: rest) a w := by
  obtain ⟨i0, hi, hz0, hz1, hz2⟩ := info_parts info8
  obtain ⟨v', w', hr, h2, h3, _⟩ := Lib.run_append_own_string (P := Tryd.prog) w B 25 9 o.type 5 i0 Tryd.underlying25 Tryd.underlying9 hi hz0 hz1 hz2 v n (bcs xs) hown t (by unfold maxLen; omega) hl hb
  have E : Ext B w v n xs w' v' (n + t.size) (xs ++ sb t) := by
    have hown' := hown
    rcases hown.2 with ⟨rfl, rfl⟩ | ⟨g, cap, cur, rfl, hbg, hg, hnc, hcm, hcs, htake⟩
    · omega
    · refine ⟨by show w'.ownsRow _ _ _ _ _ (bcs (xs ++ sb t)); rw [bcs_app, sb_cells]; exact h2, h3, ?_, ?_, hown'.lt⟩
      · by_cases hroom : n + t.size ≤ cap
        · rw [Lib.run_append_room_string (P := Tryd.prog) w 25 9 o.type 5 i0 Tryd.underlying25 Tryd.underlying9 hi hz1 g n cap cur hg t hroom (by omega)] at hr
          injection hr with hr1 hr2
          subst hr2
          refine ⟨hown'.1, .inr ⟨g, cap, _, rfl, hbg, setRow_heap w g cur _ 5 _ hg, hnc, hcm, ?_, ?_⟩⟩
          · simp only [List.size_toArray, List.length_append, List.length_take, List.length_drop, Array.length_toList, Lib.strCells_length]
            omega
          · simp only [List.append_assoc, Nat.mul_one] at htake ⊢
            rw [htake]
            have : (bcs xs).length = n := by have := hown'.1; omega
            rw [← this]
            exact List.take_left
        · have holds : ∀ j u, (bcs xs)[j]? = some u → w.cell? ((⟨g, 0, none⟩ : Addr).add j) = some u := hown'.cells (g := g) rfl
          rw [Lib.run_append_grow_string (P := Tryd.prog) w 25 9 o.type 5 i0 _ Tryd.underlying25 Tryd.underlying9 hi hz0 ⟨g, 0, none⟩ n cap (bcs xs) (by rw [hz1]; exact hown'.1) holds t (by omega) (by omega) (growslice_fits (by omega) (by rw [hz2]; omega))] at hr
          injection hr with hr1 hr2
          subst hr2
          exact hown'.kept (row := none) ⟨rfl, rfl, rfl, by simp, fun k hk _ => Below.heap_alloc w.drew _ k hk⟩ (by simp [Value.ownBlock])
      · by_cases hroom : n + t.size ≤ cap
        · rw [Lib.run_append_room_string (P := Tryd.prog) w 25 9 o.type 5 i0 Tryd.underlying25 Tryd.underlying9 hi hz1 g n cap cur hg t hroom (by omega)] at hr
          injection hr with hr1 hr2
          subst hr1
          exact .inl rfl
        · have holds : ∀ j u, (bcs xs)[j]? = some u → w.cell? ((⟨g, 0, none⟩ : Addr).add j) = some u := hown'.cells (g := g) rfl
          rw [Lib.run_append_grow_string (P := Tryd.prog) w 25 9 o.type 5 i0 _ Tryd.underlying25 Tryd.underlying9 hi hz0 ⟨g, 0, none⟩ n cap (bcs xs) (by rw [hz1]; exact hown'.1) holds t (by omega) (by omega) (growslice_fits (by omega) (by rw [hz2]; omega))] at hr
          injection hr with hr1 hr2
          subst hr1
          exact .inr ⟨w.heap.size, rfl, Nat.le_refl _⟩
  refine wpList_plain hgd fun K hK => ?_
  unfold Oper.wp execOp
  simp only [ho, resolve, invoke, builtin, Sem.run_bind, Sem.run_pure, Result.andThen_ok, List.map_toArray, List.map_cons, List.map_nil, hs, hx, hr]
  exact hK _ _ (h v' w' E)

/-- A text as bytes. -/
def tx (s : ByteArray) : List Int := vl s.size ++ sb s
theorem Ext.cast {B : Nat} {w w' : World} {v v' : Value} {n m m' : Nat} {xs ys ys' : List Int} (h : Ext B w v n xs w' v' m ys) (hm : m = m') (hy : ys = ys') : Ext B w v n xs w' v' m' ys' := by subst hm hy; exact h

/-- A slice of bytes, wherever it lies. -/
def Sl (w : World) (a : Option Addr) (n cap : Nat) (xs : List Int) : Prop := BL w a n xs ∧ (a = none → n = 0 ∧ cap = 0) ∧ n ≤ cap
theorem Sl.later {w w' : World} {a : Option Addr} {n cap : Nat} {xs : List Int} (h : Sl w a n cap xs) (b : Below w.heap.size w w') : Sl w' a n cap xs := ⟨h.1.later b, h.2⟩
theorem own_sl {w : World} {B : Nat} {v : Value} {n : Nat} {xs : List Int} (h : Own w B v n xs) (hb : ∀ c ∈ xs, 0 ≤ c ∧ c ≤ 255) (hn : n ≤ 140737488355328) : ∃ a cap, v = .slice a n cap ∧ Sl w a n cap xs := by
  obtain ⟨a, cap, rfl⟩ := own_form h
  refine ⟨a, cap, rfl, (own_bl h hb hn).1, fun e => ?_, (own_bl h hb hn).2.2⟩
  subst e
  rcases h.2 with ⟨e, h0⟩ | ⟨g, c, cur, e, _⟩
  · injection e with _ e1 e2; exact ⟨h0, e2⟩
  · cases e

theorem make_room (n : Nat) (hn : n ≤ 281474976710656) (W : World) : (Instr.makeSlice 25 (.int .i64 0) (.int .i64 (n : Int))).run Tryd.prog W = .ok (.slice (some ⟨W.heap.size, 0, none⟩) 0 n) (W.alloc (.cells (bcs (List.replicate n 0)).toArray 5)) := by
  obtain ⟨i0, hi, hz0, hz1, hz2⟩ := info_parts info8
  have := run_make (P := Tryd.prog) W 25 5 i0 _ Tryd.underlying25 hi hz0 .i64 .i64 0 n (by omega) (by omega) (by rw [hz2]; omega) (by omega)
  rw [hz1] at this
  have e : madeCells (Value.cells (.int .u8 0)) n = (bcs (List.replicate n 0)).toArray := by
    apply Array.ext'
    have := toList_madeCells_one (.int .u8 0) n
    simpa [bcs, Value.cells] using this
  simpa [e] using this
theorem room_own (W : World) (n : Nat) (hn : n ≤ 281474976710656) (B : Nat) (hB : B ≤ W.heap.size) : Own (W.alloc (.cells (bcs (List.replicate n 0)).toArray 5)) B (.slice (some ⟨W.heap.size, 0, none⟩) 0 n) 0 [] := by
  refine ⟨rfl, .inr ⟨W.heap.size, n, (bcs (List.replicate n 0)).toArray, rfl, hB, ?_, Nat.zero_le _, by unfold maxLen; omega, by simp [bcs], by simp [bcs]⟩⟩
  show (W.heap.push _)[W.heap.size]? = _
  simp

set_option maxRecDepth 100000 in
set_option maxHeartbeats 1000000 in
theorem joined_any (a b : Option Addr) (n m c d : Nat) (xs ys : List Int) (w : World) (h : Sl w a n c xs) (k : Sl w b m d ys) (hs : n + m ≤ 140737488355328) :
    Calls Tryd.prog 31 #[.slice a n c, .slice b m d] w fun e w' => ∃ v', e = .returned v' ∧ Own w' w.heap.size v' (n + m) (xs ++ ys) ∧ Below w.heap.size w w' := by
  have HA := Lib.hid h
  have HK := Lib.hid k
  have mk := make_room (n + m) (by omega)
  simp only [Int.natCast_add] at mk
  have aw : IntKind.i64.wrap ((n : Int) + m) = (n : Int) + m := by simp [IntKind.wrap, IntKind.bits, IntKind.signed]; omega
  have O0 := Lib.hid (room_own w (n + m) (by omega) w.heap.size (Nat.le_refl _))
  have B0 := Lib.hid ((Below.refl w.heap.size w).alloc (Nat.le_refl _) (.cells (bcs (List.replicate (n + m) 0)).toArray 5))
  clear h k
  go_enter Tryd.func31, Tryd.ntmps31
  go_wp2_with (first
    | (at_builtin; have qq := E1; refine wp_joinB _ rfl _ _ rfl w.heap.size _ _ _ rfl _ _ _ _ rfl E1.out.own (HK.out.later B1.out).1 HK.out.2.1 (by omega) B1.out.size ?_; intro v2 w2 h2; have B2 := Lib.hid (B1.out.trans (h2.below B1.out.size)); have O2 := Lib.hid h2.own; clear h2)
    | (at_builtin; refine wp_joinB _ rfl _ _ rfl w.heap.size _ _ _ rfl _ _ _ _ rfl O0.out (HA.out.later B0.out).1 HA.out.2.1 (by omega) B0.out.size ?_; intro v1 w1 h1; have E1 := Lib.hid h1; have B1 := Lib.hid (B0.out.trans (h1.below B0.out.size)); clear h1))
  go_ret
  exact ⟨_, rfl, by have := O2.out; simpa using this, B2.out⟩

set_option maxRecDepth 100000 in
set_option maxHeartbeats 2000000 in
theorem varintR_any (x : Nat) (w : World) (hx : x < 18446744073709551616) :
    Calls Tryd.prog 15 #[.int .u64 (x : Int)] w fun e w' => ∃ v', e = .returned v' ∧ Own w' w.heap.size v' (vl x).length (vl x) ∧ Below w.heap.size w w' := by
  have LEN := Lib.hid (vl_len10 hx)
  go_enter Tryd.func15, Tryd.ntmps15
  go_wp2
  go_loopw [0, 3] (fun b a wr => ∃ (y : Nat) (ys : List Int), b = .int .u64 (y : Int) ∧ y ≤ x ∧ RowKit.Hid (ys ++ vl y = vl x) ∧ Own wr w.heap.size a ys.length ys ∧ Below w.heap.size w wr) (fun b _ _ => (intOf b).natAbs)
  case atStart => exact ⟨x, [], rfl, Nat.le_refl _, rfl, own_nil _ _, Below.refl _ _⟩
  case round =>
    rename World => wr
    obtain ⟨y, ys, rfl, hy, hV, hO, hB⟩ := hrel
    have OO := Lib.hid hO
    have BB := Lib.hid hB
    have YL := Lib.hid (p := ys.length ≤ 10) (by have := congrArg List.length hV.out; have := LEN.out; simp at *; omega)
    clear hO hB
    by_cases h : y < 128
    · have g1 : (y : Int) < 128 := by omega
      have c1 : IntKind.u8.wrap (y : Int) = (y : Int) := by simp [IntKind.wrap, IntKind.bits, IntKind.signed]; omega
      have VY := Lib.hid (p := ys ++ [(y : Int)] = vl x) (by rw [← vl_one h]; exact hV.out)
      go_wp2_with (at_builtin; refine wp_byteK _ _ rfl _ _ rfl w.heap.size _ _ _ rfl rfl OO.out (by have := YL.out; omega) BB.out.size ?_; intro v1 w1 h1; have O1 := Lib.hid h1.own; have B1 := Lib.hid (BB.out.trans (h1.below BB.out.size)); clear h1)
      go_ret
      refine ⟨_, rfl, ?_, B1.out⟩
      have := O1.out
      rw [VY.out] at this
      have e : ys.length + 1 = (vl x).length := by rw [← VY.out]; simp
      rw [e] at this
      exact this
    · have g1 : ¬ (y : Int) < 128 := by omega
      obtain ⟨r, hr⟩ : ∃ r : Nat, y % 128 = r := ⟨_, rfl⟩
      obtain ⟨q, hq⟩ : ∃ q : Nat, y / 128 = q := ⟨_, rfl⟩
      have r1 : Int.tmod (y : Int) 128 = (r : Int) := by rw [Int.tmod_eq_emod_of_nonneg (by omega)]; omega
      have r2 : (y : Int) % 128 = (r : Int) := by omega
      have q1 : Int.tdiv (y : Int) 128 = (q : Int) := by rw [Int.tdiv_eq_ediv_of_nonneg (by omega)]; omega
      have q2 : (y : Int) / 128 = (q : Int) := by omega
      have s1 : IntKind.u64.wrap ((r : Int) + 128) = (r : Int) + 128 := by simp [IntKind.wrap, IntKind.bits, IntKind.signed]; omega
      have c1 : IntKind.u8.wrap ((r : Int) + 128) = (r : Int) + 128 := by simp [IntKind.wrap, IntKind.bits, IntKind.signed]; omega
      have VY := Lib.hid (p := (ys ++ [(r : Int) + 128]) ++ vl q = vl x) (by have := hV.out; rw [vl_more (by omega), hr, hq] at this; simpa using this)
      have Q1 := Lib.hid (show q < y by omega)
      have R8 : r < 128 := by omega
      clear hr hq
      go_wp2_with (at_builtin; refine wp_byteK _ _ rfl _ _ rfl w.heap.size _ _ _ rfl rfl OO.out (by have := YL.out; omega) BB.out.size ?_; intro v1 w1 h1; have O1 := Lib.hid h1.own; have B1 := Lib.hid (BB.out.trans (h1.below BB.out.size)); clear h1)
      go_roundw
      case rel => exact ⟨q, ys ++ [(r : Int) + 128], by first | rfl | (simp; omega), by have := Q1.out; omega, VY.out, by have := O1.out; simpa using this, B1.out⟩
      case measure => have := Q1.out; simp [intOf]; omega
end Go.Proofs.YtdbjdieegocdfaaDoor
