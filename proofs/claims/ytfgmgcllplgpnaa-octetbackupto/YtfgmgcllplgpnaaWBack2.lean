/-
  WALK: written.
-/
import Derived.Test.YtfgmgcllplgpnaaWBack1
namespace Go.Proofs.Ytfgmgcllplgpnaa
open Go.RowKit
set_option linter.unusedVariables false
set_option linter.unusedSimpArgs false

/-- All items' bytes. -/
def allB (fs : List It4) : List Int := fs.flatMap itB
theorem allB_app (xs ys : List It4) : allB (xs ++ ys) = allB xs ++ allB ys := by simp [allB]
theorem allB_take {fs : List It4} {k : Nat} (hk : k < fs.length) : allB (fs.take (k + 1)) = allB (fs.take k) ++ itB (fs.getD k default) := by
  have e : fs[k]? = some (fs.getD k default) := by rw [List.getElem?_eq_getElem hk]; simp [List.getD, hk]
  unfold allB
  rw [List.take_add_one, e]
  simp
theorem allB_split (fs : List It4) (k : Nat) : allB fs = allB (fs.take k) ++ allB (fs.drop k) := by rw [← allB_app, List.take_append_drop]
theorem allB_drop {fs : List It4} {k : Nat} (hk : k < fs.length) : allB (fs.drop k) = itB (fs.getD k default) ++ allB (fs.drop (k + 1)) := by
  rw [List.drop_eq_getElem_cons hk]
  show itB _ ++ allB _ = _
  congr 2
  simp [List.getD, hk]
theorem allB_byte (fs : List It4) : ∀ c ∈ allB fs, 0 ≤ c ∧ c ≤ 255 := by
  intro c hc
  obtain ⟨f, _, h⟩ := List.mem_flatMap.1 hc
  exact itB_byte f c h
theorem allB_len : ∀ (fs : List It4), (∀ f ∈ fs, f.wf ∧ f.s.size ≤ 1048576) → (allB fs).length ≤ fs.length * 1048586
  | [], _ => by simp [allB]
  | f :: fs, h => by
    have := allB_len fs (fun g hg => h g (by simp [hg]))
    have h1 := itB_len (h f (by simp)).1 (h f (by simp)).2
    have e : allB (f :: fs) = itB f ++ allB fs := rfl
    rw [e, List.length_append, List.length_cons]
    omega
/-- Where the first k items end. -/
def pos (fs : List It4) (k : Nat) : Nat := (allB (fs.take k)).length
theorem pos_next {fs : List It4} {k : Nat} (hk : k < fs.length) : pos fs (k + 1) = pos fs k + (itB (fs.getD k default)).length := by unfold pos; rw [allB_take hk, List.length_append]
theorem pos_le (fs : List It4) (k : Nat) : pos fs k ≤ (allB fs).length := by unfold pos; rw [allB_split fs k]; simp
def endsL (fs : List It4) (k : Nat) : List Int := (List.range k).map fun i => (pos fs (i + 1) : Int)
theorem endsL_next (fs : List It4) (k : Nat) : endsL fs (k + 1) = endsL fs k ++ [(pos fs (k + 1) : Int)] := by unfold endsL; rw [List.range_succ]; simp
/-- What stands at the place of the item k. -/
theorem at_item {fs : List It4} {k : Nat} (hk : k < fs.length) : (allB fs).drop (pos fs k) = itB (fs.getD k default) ++ allB (fs.drop (k + 1)) := by
  unfold pos
  rw [allB_split fs k, List.drop_left, allB_drop hk]

/-- An own row of ints. -/
def ics (xs : List Int) : List Value := xs.map (Value.int .i64)
abbrev OwnI (w : World) (B : Nat) (v : Value) (n : Nat) (xs : List Int) : Prop := w.ownsRow B 3 1 v n (ics xs)
theorem infoI : (Try.prog.info? 3).map (fun i => (i.zero, i.size, i.bytes)) = some (some (.int .i64 0), 1, 8) := by kernel_rfl
theorem wp_intO {ops : Array Oper} {rest : List Oper} {o : Oper} {a : Act} {Q : Exit → Act → World → Prop} (w : World) (c : Int) (hgd : o.guard = none) (s x : Operand)
    (ho : o.op = .call { callee := .builtin .append, args := #[s, x], argTypes := #[49, 49] }) (B : Nat) (v : Value) (n : Nat) (xs : List Int) (hs : a.eval s = v)
    (hx : a.eval x = .slice (some ⟨w.heap.size, 0, none⟩) 1 1) (hown : OwnI w B v n xs) (hl : n ≤ 10000000000000) (hb : B ≤ w.heap.size)
    (h : ∀ v' w', OwnI w' B v' (n + 1) (xs ++ [c]) → w.grownBy w' v.ownBlock → wpList Try.prog ops Q rest (a.put o.dst v') w') :
    wpList Try.prog ops Q (o :: rest) a (w.alloc (.cells #[.int .i64 c] 3)) := by
  obtain ⟨i0, hi, hz0, hz1, hz2⟩ := info_parts infoI
  refine wpList_append_own _ hgd s x 49 ho B 3 i0 (.int .i64 0) 1 8 Try.underlying49 hi hz0 hz1 hz2 rfl (by decide) v _ _ hs (hown.alloc _) ⟨w.heap.size, 0, none⟩ 1 1 [.int .i64 c] hx rfl ?_ ?_ (by unfold maxLen; omega) (by omega) (by simp; omega) ?_
  · intro j u hj
    match j, hj with
    | 0, hj => simp at hj; subst hj; simp [Addr.add]
  · intro u hu; simp at hu; subst hu; rfl
  · intro v' w' h1 h2 _
    refine h v' w' (by show w'.ownsRow _ _ _ _ _ (ics (xs ++ [c])); simpa [ics] using h1) ⟨h2.os, h2.tape, h2.output, Nat.le_trans (by simp) h2.size, fun k hk hr => ?_⟩
    rw [h2.block k (Nat.lt_of_lt_of_le hk (by simp)) hr]
    exact Below.heap_alloc w _ k hk
/-- Rows of bytes and of ints lie apart. -/
theorem apartBI {w : World} {B B' : Nat} {v v' : Value} {n n' : Nat} {xs ys : List Int} (h : Own w B v n xs) (k : OwnI w B' v' n' ys) : v'.ownBlock = none ∨ v'.ownBlock ≠ v.ownBlock := by
  rcases k.2 with ⟨rfl, _⟩ | ⟨g, c, cur, rfl, _, hg, _⟩
  · exact .inl rfl
  · right
    rcases h.2 with ⟨rfl, _⟩ | ⟨g', c', cur', rfl, _, hg', _⟩
    · simp [Value.ownBlock]
    · simp [Value.ownBlock]
      rintro rfl
      rw [hg] at hg'
      injection hg' with hg'
      injection hg' with _ hg' _
      revert hg'; decide
theorem apartIB {w : World} {B B' : Nat} {v v' : Value} {n n' : Nat} {xs ys : List Int} (h : Own w B v n xs) (k : OwnI w B' v' n' ys) : v.ownBlock = none ∨ v.ownBlock ≠ v'.ownBlock := by
  rcases apartBI h k with q | q
  · rcases hv : v.ownBlock with _ | g
    · exact .inl rfl
    · right; rw [q]; simp
  · right; exact fun e => q e.symm

/-- A list of items, where the world holds it. -/
def ItC (w : World) (b o : Nat) (f : It4) : Prop := w.cell? ⟨b, o, none⟩ = some (.int .i64 f.k) ∧ w.cell? ⟨b, o + 1, none⟩ = some (.int .u64 f.x) ∧ w.cell? ⟨b, o + 2, none⟩ = some (.int .i64 f.y) ∧ w.cell? ⟨b, o + 3, none⟩ = some (.string f.s)
theorem ItC.later {w w' : World} {B b o : Nat} {f : It4} (h : ItC w b o f) (hb : Below B w w') (hB : b < B) : ItC w' b o f :=
  ⟨(hb.cell (p := ⟨b, o, none⟩) hB).trans h.1, (hb.cell (p := ⟨b, o + 1, none⟩) hB).trans h.2.1, (hb.cell (p := ⟨b, o + 2, none⟩) hB).trans h.2.2.1, (hb.cell (p := ⟨b, o + 3, none⟩) hB).trans h.2.2.2⟩
def IL (w : World) (a : Option Addr) (n : Nat) (fs : List It4) : Prop :=
  fs.length = n ∧ n ≤ 1048576 ∧ (∀ f ∈ fs, f.wf ∧ f.s.size ≤ 1048576) ∧ (n = 0 ∨ ∃ b o, a = some ⟨b, o, none⟩ ∧ b < w.heap.size ∧ ∀ i, i < n → ItC w b (o + i * 4) (fs.getD i default))
theorem IL.later {w w' : World} {a : Option Addr} {n : Nat} {fs : List It4} (h : IL w a n fs) (b : Below w.heap.size w w') : IL w' a n fs := by
  obtain ⟨h1, h2, h3, h4⟩ := h
  refine ⟨h1, h2, h3, ?_⟩
  rcases h4 with h4 | ⟨x, o, rfl, hx, hc⟩
  · exact .inl h4
  · exact .inr ⟨x, o, rfl, Nat.lt_of_lt_of_le hx b.size, fun i hi => (hc i hi).later b hx⟩
theorem il_of {w : World} {a : Option Addr} {len cap : Nat} {fs : List It4} (hn : len ≤ 1048576) (hs : ∀ f ∈ fs, f.s.size ≤ 1048576) (h : IsIts w a len cap fs) : IL w a len fs := by
  rcases h with ⟨rfl, rfl, rfl, rfl⟩ | ⟨x, rfl, h1, h2, h3, h4, h5⟩
  · exact ⟨rfl, by omega, by simp, .inl rfl⟩
  · refine ⟨h3, hn, fun f hf => ⟨h4 f hf, hs f hf⟩, ?_⟩
    by_cases h0 : len = 0
    · exact .inl h0
    · obtain ⟨b, o, s⟩ := x
      have hc := (h5 0 (by omega)).1
      have hs : s = none := by simpa [Addr.add] using World.cell?_spot hc
      subst hs
      refine .inr ⟨b, o, rfl, ?_, fun i hi => ?_⟩
      · have : (w.cell? ⟨b, o, none⟩).isSome = true := by
          have e : (⟨b, o, none⟩ : Addr).add (0 * 4) = ⟨b, o, none⟩ := by simp [Addr.add]
          rw [e] at hc; rw [hc]; rfl
        by_cases hlt : b < w.heap.size
        · exact hlt
        · exfalso
          have hn : w.heap[b]? = none := by simp; omega
          simp [World.cell?, hn] at this
      · obtain ⟨q1, q2, q3, q4⟩ := h5 i hi
        rw [Go.Addr.add_lit] at q1 q2 q3 q4
        exact ⟨q1, by rw [Nat.add_assoc]; exact q2, by rw [Nat.add_assoc]; exact q3, by rw [Nat.add_assoc]; exact q4⟩

theorem appendUint_to (v : Value) (B n : Nat) (xs : List Int) (x : Nat) (m : Nat) (ys : List Int) (w : World) (ho : Own w B v n xs) (hn : n ≤ 140737488354000) (hB : B ≤ w.heap.size) (hx : x < 18446744073709551616) (hm : m = n + (vl x).length) (hy : ys = xs ++ vl x) :
    Calls Try.prog 13 #[v, .int .u64 (x : Int)] w fun e w' => ∃ v', e = .returned v' ∧ Ext B w v n xs w' v' m ys := by
  subst hm hy
  exact appendUint_any v B n xs x w ho hn hB hx
theorem appendInt_to (v : Value) (B n : Nat) (xs : List Int) (x : Int) (m : Nat) (ys : List Int) (w : World) (ho : Own w B v n xs) (hn : n ≤ 140737488354000) (hB : B ≤ w.heap.size) (hx : -9223372036854775808 ≤ x ∧ x ≤ 9223372036854775807) (hm : m = n + (vl (zz x)).length) (hy : ys = xs ++ vl (zz x)) :
    Calls Try.prog 15 #[v, .int .i64 x] w fun e w' => ∃ v', e = .returned v' ∧ Ext B w v n xs w' v' m ys := by
  subst hm hy
  exact appendInt_any v B n xs x w ho hn hB hx
theorem appendText_to (v : Value) (B n : Nat) (xs : List Int) (x : ByteArray) (m : Nat) (ys : List Int) (w : World) (ho : Own w B v n xs) (hn : n + x.size ≤ 140737488354000) (hB : B ≤ w.heap.size)  (hm : m = n + (tx x).length) (hy : ys = xs ++ tx x) :
    Calls Try.prog 23 #[v, .string x] w fun e w' => ∃ v', e = .returned v' ∧ Ext B w v n xs w' v' m ys := by
  subst hm hy
  exact appendText_any v B n xs x w ho hn hB
/-- What written answers. -/
def WrE (fs : List It4) (n B : Nat) (e : Ending) (w' : World) : Prop := ∃ v ve, e = .returned (.tuple #[v, ve]) ∧ Own w' B v (allB fs).length (allB fs) ∧ OwnI w' B ve n (endsL fs n)

set_option maxRecDepth 100000 in
set_option maxHeartbeats 4000000 in
theorem written_any (a : Option Addr) (n cap : Nat) (fs : List It4) (w : World) (h : IL w a n fs) :
    Calls Try.prog 25 #[.slice a n cap] w fun e w' => WrE fs n w.heap.size e w' ∧ Below w.heap.size w w' := by
  obtain ⟨h1, h2, h3, h4⟩ := h
  have H1 := Lib.hid h1
  have H3 := Lib.hid h3
  have HA := Lib.hid (p := 0 < n → ∃ b o, a = some ⟨b, o, none⟩ ∧ b < w.heap.size ∧ ∀ i, i < n → ItC w b (o + i * 4) (fs.getD i default)) (fun h0 => by
    rcases h4 with h4 | h4
    · omega
    · exact h4)
  have LB := Lib.hid (p := ∀ k, pos fs k ≤ 1099522113536) (fun k => by
    have := pos_le fs k
    have := allB_len fs h3
    rw [h1] at this
    have : n * 1048586 ≤ 1048576 * 1048586 := Nat.mul_le_mul_right _ h2
    omega)
  clear h1 h3 h4
  go_enter Try.func25, Try.ntmps25
  go_wp2
  go_loopw [4, 5, 6] (fun v ve t wr => ∃ k : Nat, k ≤ n ∧ t = .int .i64 (k : Int) ∧ Own wr w.heap.size v (pos fs k) (allB (fs.take k)) ∧ OwnI wr w.heap.size ve k (endsL fs k) ∧ Below w.heap.size w wr) (fun _ _ t _ => n - (intOf t).toNat)
  case atStart => exact ⟨0, by omega, rfl, own_nil _ _, ⟨rfl, .inl ⟨rfl, rfl⟩⟩, Below.refl _ _⟩
  case round =>
    rename World => wr
    obtain ⟨k, hk, rfl, hO, hI, hB⟩ := hrel
    have OO := Lib.hid hO
    have II := Lib.hid hI
    have BB := Lib.hid hB
    by_cases hlt : k < n
    · obtain ⟨b, o, rfl, hb, hc⟩ := HA.out (by omega)
      obtain ⟨c0, c1, c2, c3⟩ := (hc k hlt).later hB hb
      have kc : (k : Int) < (n : Int) := by omega
      have WK := Lib.hid (H3.out (fs.getD k default) (by simp [List.getD, show k < fs.length by rw [H1.out]; omega]))
      have PN := Lib.hid (pos_next (fs := fs) (k := k) (by rw [H1.out]; omega))
      have AN := Lib.hid (allB_take (fs := fs) (k := k) (by rw [H1.out]; omega))
      have EN := Lib.hid (endsL_next fs k)
      have L0 := LB.out k
      have L1 := LB.out (k + 1)
      generalize hf : fs.getD k default = f at *
      generalize hp0 : pos fs k = p0 at *
      generalize hp1 : pos fs (k + 1) = p1 at *
      generalize allB (fs.take k) = bs at *
      generalize hb1 : allB (fs.take (k + 1)) = bs1 at *
      have HP1 := Lib.hid hp1
      have HB1 := Lib.hid hb1
      clear hO hI hB hc hf hp0 hp1 hb1
      rcases kd_or f.k with q | q | q
      · obtain ⟨x, ex, hxl⟩ := it_x WK.out.1
        have e0 := kd0 q
        have eB : itB f = vl x := by unfold itB; rw [if_pos q, ex]; simp
        have K := Lib.hid (fun v W (g : Own W w.heap.size v p0 bs) (gB : w.heap.size ≤ W.heap.size) => appendUint_to v w.heap.size p0 bs x p1 bs1 W g (by omega) gB hxl (by rw [PN.out, eB]) (by rw [AN.out, eB]))
        rw [ex] at c1
        clear eB
        go_wp2_with (first
          | (at_builtin; refine wp_intO _ _ rfl _ _ rfl w.heap.size _ _ _ rfl rfl I1.out (by omega) B1.out.size ?_; intro v2 w2 h1 h2; have O2 := Lib.hid (E1.out.own.kept h2 (apartIB E1.out.own I1.out)); have I2 := Lib.hid h1; have B2 := Lib.hid (B1.out.trans ((Below.refl _ _).grown h2 B1.out.size (fun k e => (I1.out.lt k e).1))); clear h1 h2)
          | (go_at_call 13; refine (K.out _ _ OO.out BB.out.size).mono ?_; rintro e w1 ⟨v1, rfl, h1⟩; obtain ⟨a1, cp1, rfl⟩ := own_form h1.own; have E1 := Lib.hid h1; have I1 := Lib.hid (II.out.kept h1.grown (apartBI OO.out II.out)); have B1 := Lib.hid (BB.out.trans (h1.below BB.out.size)); clear h1))
        go_roundw
        case rel => exact ⟨k + 1, by omega, by go_num, by rw [HP1.out, HB1.out]; exact O2.out, by have q := I2.out; rw [← EN.out] at q; exact q, B2.out⟩
        case measure => simp [intOf]; omega
      · have hy := it_y WK.out.1
        have e0 := kd1 q
        have eB : itB f = vl (zz f.y) := by unfold itB; rw [if_neg (by omega), if_pos q]
        have K := Lib.hid (fun v W (g : Own W w.heap.size v p0 bs) (gB : w.heap.size ≤ W.heap.size) => appendInt_to v w.heap.size p0 bs f.y p1 bs1 W g (by omega) gB hy (by rw [PN.out, eB]) (by rw [AN.out, eB]))
        clear eB
        go_wp2_with (first
          | (at_builtin; refine wp_intO _ _ rfl _ _ rfl w.heap.size _ _ _ rfl rfl I1.out (by omega) B1.out.size ?_; intro v2 w2 h1 h2; have O2 := Lib.hid (E1.out.own.kept h2 (apartIB E1.out.own I1.out)); have I2 := Lib.hid h1; have B2 := Lib.hid (B1.out.trans ((Below.refl _ _).grown h2 B1.out.size (fun k e => (I1.out.lt k e).1))); clear h1 h2)
          | (go_at_call 15; refine (K.out _ _ OO.out BB.out.size).mono ?_; rintro e w1 ⟨v1, rfl, h1⟩; obtain ⟨a1, cp1, rfl⟩ := own_form h1.own; have E1 := Lib.hid h1; have I1 := Lib.hid (II.out.kept h1.grown (apartBI OO.out II.out)); have B1 := Lib.hid (BB.out.trans (h1.below BB.out.size)); clear h1))
        go_roundw
        case rel => exact ⟨k + 1, by omega, by go_num, by rw [HP1.out, HB1.out]; exact O2.out, by have q := I2.out; rw [← EN.out] at q; exact q, B2.out⟩
        case measure => simp [intOf]; omega
      · obtain ⟨e1, e2⟩ := kd2 q
        have eB : itB f = tx f.s := by unfold itB; rw [if_neg (by omega), if_neg (by omega)]
        have K := Lib.hid (fun v W (g : Own W w.heap.size v p0 bs) (gB : w.heap.size ≤ W.heap.size) => appendText_to v w.heap.size p0 bs f.s p1 bs1 W g (by have := WK.out.2; omega) gB (by rw [PN.out, eB]) (by rw [AN.out, eB]))
        clear eB
        go_wp2_with (first
          | (at_builtin; refine wp_intO _ _ rfl _ _ rfl w.heap.size _ _ _ rfl rfl I1.out (by omega) B1.out.size ?_; intro v2 w2 h1 h2; have O2 := Lib.hid (E1.out.own.kept h2 (apartIB E1.out.own I1.out)); have I2 := Lib.hid h1; have B2 := Lib.hid (B1.out.trans ((Below.refl _ _).grown h2 B1.out.size (fun k e => (I1.out.lt k e).1))); clear h1 h2)
          | (go_at_call 23; refine (K.out _ _ OO.out BB.out.size).mono ?_; rintro e w1 ⟨v1, rfl, h1⟩; obtain ⟨a1, cp1, rfl⟩ := own_form h1.own; have E1 := Lib.hid h1; have I1 := Lib.hid (II.out.kept h1.grown (apartBI OO.out II.out)); have B1 := Lib.hid (BB.out.trans (h1.below BB.out.size)); clear h1))
        go_roundw
        case rel => exact ⟨k + 1, by omega, by go_num, by rw [HP1.out, HB1.out]; exact O2.out, by have q := I2.out; rw [← EN.out] at q; exact q, B2.out⟩
        case measure => simp [intOf]; omega
    · obtain rfl : k = n := by omega
      have FT := Lib.hid (p := fs.take k = fs) (List.take_of_length_le (by rw [H1.out]; omega))
      clear hO hI hB
      go_wp2
      go_ret2
      refine ⟨⟨_, _, rfl, ?_, II.out⟩, BB.out⟩
      have o := OO.out
      unfold pos at o
      rw [FT.out] at o
      exact o
end Go.Proofs.Ytfgmgcllplgpnaa
