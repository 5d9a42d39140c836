/-
  WALKS: plain, good; joins of rows of instructions.
-/
import Derived.Test.YtklbbfmpgijhbaaDoorWCodeF
namespace Go.Proofs.YtklbbfmpgijhbaaDoor
open Go.RowKit
set_option linter.unusedVariables false
set_option linter.unusedSimpArgs false

theorem own_li {w : World} {B : Nat} {v : Value} {l : List In} (h : OwI w B v l) (hl : l.length ≤ 5864062014805) : ∃ a cap, v = .slice a l.length cap ∧ LI w a l.length l ∧ (a = none → l.length = 0 ∧ cap = 0) ∧ l.length ≤ cap := by
  obtain ⟨h1, h2⟩ := h
  rcases h2 with ⟨rfl, h2⟩ | ⟨g, cap, cur, rfl, hB, hg, hn, hm, hs, ht⟩
  · exact ⟨none, 0, by rw [h2], ⟨rfl, hl, .inl h2⟩, fun _ => ⟨h2, rfl⟩, by omega⟩
  · refine ⟨_, cap, rfl, ⟨rfl, hl, .inr ⟨g, 0, rfl, (Array.getElem?_eq_some_iff.1 hg).1, fun i hi => ?_⟩⟩, (fun e => by cases e), hn⟩
    have key : ∀ j, j < 3 → w.cell? ⟨g, i * 3 + j, none⟩ = (l.getD i default).cells[j]? := fun j hj => by
      have e : w.cell? ⟨g, i * 3 + j, none⟩ = cur[i * 3 + j]? := by simp [World.cell?, hg]
      rw [e, ← ics_at l i hi j hj, ← ht, List.getElem?_take_of_lt (by omega)]
      simp
    rw [Nat.zero_add]
    exact ⟨key 0 (by omega), key 1 (by omega), key 2 (by omega)⟩
theorem own_litI (w : World) (B : Nat) (hB : B ≤ w.heap.size) (l : List In) (hl : l.length ≤ 1000) (C : Array Value) (hC : C = (ics l).toArray) : OwI (w.alloc (.cells C 33)) B (.slice (some ⟨w.heap.size, 0, none⟩) l.length l.length) l := by
  subst hC
  refine ⟨ics_len l, .inr ⟨w.heap.size, l.length, (ics l).toArray, rfl, hB, heap_new w _, Nat.le_refl _, by unfold maxLen; omega, by simp [ics_len], ?_⟩⟩
  rw [List.take_of_length_le]
  simp [ics_len]
/-- 'append(own, list...)'. -/
theorem wp_joinI {ops : Array Oper} {rest : List Oper} {o : Oper} {a : Act} {Q : Exit → Act → World → Prop} (w : World) (hgd : o.guard = none) (s x : Operand)
    (ho : o.op = .call { callee := .builtin .append, args := #[s, x], argTypes := #[39, 39] }) (B : Nat) (v : Value) (l : List In) (hs : a.eval s = v)
    (ad : Option Addr) (m c : Nat) (l2 : List In) (hx : a.eval x = .slice ad m c) (hown : OwI w B v l) (hli : LI w ad m l2) (h0 : ad = none → m = 0 ∧ c = 0) (hl : l.length + m ≤ 5864062014805) (hb : B ≤ w.heap.size)
    (h : ∀ v' w', OwI w' B v' (l ++ l2) → w.grownBy w' v.ownBlock → wpList Tryd.prog ops Q rest (a.put o.dst v') w') :
    wpList Tryd.prog ops Q (o :: rest) a w := by
  obtain ⟨i0, hi, hz0, hz1, hz2⟩ := info_parts infoI
  have hlen := hli.1
  rcases ad with _ | ad
  · obtain ⟨rfl, rfl⟩ := h0 rfl
    have : l2 = [] := List.length_eq_zero_iff.1 hlen
    subst this
    refine wpList_append_own_none hgd s x 39 ho B 33 i0 3 Tryd.underlying39 hi v _ (ics l) hs hown hx ?_
    exact h v w (by simpa using hown) ⟨rfl, rfl, rfl, Nat.le_refl _, fun _ _ _ => rfl⟩
  · refine wpList_append_own _ hgd s x 39 ho B 33 i0 _ 3 24 Tryd.underlying39 hi hz0 hz1 hz2 rfl (by decide) v _ _ hs hown ad m c (ics l2) hx (by rw [ics_len, hlen]) ?_ ?_ (by unfold maxLen; omega) (by omega) hb ?_
    · intro j u hj
      have hjl : j < l2.length * 3 := by have := (List.getElem?_eq_some_iff.1 hj).1; rw [ics_len] at this; exact this
      rcases hli.2.2 with q | ⟨b, o', e, hb', hc⟩
      · omega
      · injection e with e
        subst e
        rw [Go.Addr.add_lit]
        obtain ⟨i, k, hk, hi3, rfl⟩ : ∃ i k, i < l2.length ∧ k < 3 ∧ j = i * 3 + k := ⟨j / 3, j % 3, by omega, by omega, by omega⟩
        have h3 := ics_at l2 i hk k hi3
        rw [hj] at h3
        obtain ⟨c0, c1, c2⟩ := hc i (by omega)
        rw [h3, ← Nat.add_assoc]
        have hh : k = 0 ∨ k = 1 ∨ k = 2 := by omega
        rcases hh with rfl | rfl | rfl
        · exact c0
        · exact c1
        · exact c2
    · intro u hu
      obtain ⟨r, _, hr⟩ := List.mem_flatMap.1 hu
      simp [In.cells] at hr
      rcases hr with rfl | rfl | rfl <;> rfl
    · intro v' w' h1 h2 _
      refine h v' w' ?_ h2
      unfold OwI
      rw [List.length_append, ics_app, hlen]
      exact h1
def plL : List In := [⟨1, 16383, 0⟩, ⟨3, 63, 3660⟩, ⟨18, 4, 0⟩, ⟨27, 262143, 0⟩, ⟨28, 4095, 0⟩, ⟨5, 32767, 0⟩, ⟨0, 0, 0⟩]
theorem plL_ok : ∀ i ∈ plL, i.okP := by
  intro i hi
  simp only [plL, List.mem_cons, List.not_mem_nil, or_false] at hi
  rcases hi with rfl | rfl | rfl | rfl | rfl | rfl | rfl <;> (unfold In.okP; decide)
structure OwE (w : World) (l : List In) (e : Ending) (w' : World) : Prop where
  say : ∃ v', e = .returned v' ∧ OwI w' w.heap.size v' l
  bel : Below w.heap.size w w'
theorem plain_any (w : World) : Calls Tryd.prog 29 #[] w fun e w' => OwE w plL e w' := by
  have O := Lib.hid (own_litI w w.heap.size (Nat.le_refl _) plL (by decide) _ rfl)
  have B := Lib.hid ((Below.refl w.heap.size w).alloc (Nat.le_refl _) (.cells (ics plL).toArray 33))
  go_enter Tryd.func29, Tryd.ntmps29
  go_wp2
  go_ret
  exact ⟨⟨_, rfl, O.out⟩, B.out⟩
def gdL (l : List In) : List In := l.filter (fun i => decide i.okP)
theorem gdL_ok (l : List In) : ∀ i ∈ gdL l, i.okP := fun i hi => of_decide_eq_true (List.mem_filter.1 hi).2
theorem gdL_yes {l : List In} {i : In} (h : i.okP) : gdL (l ++ [i]) = gdL l ++ [i] := by simp [gdL, h]
theorem gdL_no {l : List In} {i : In} (h : ¬ i.okP) : gdL (l ++ [i]) = gdL l := by simp [gdL, h]
theorem gdL_len (l : List In) : (gdL l).length ≤ l.length := List.length_filter_le _ _
set_option maxRecDepth 100000 in
set_option maxHeartbeats 2000000 in
theorem good_any (a : Option Addr) (n cap : Nat) (l : List In) (w : World) (h : LI w a n l) (hR : Rws w) :
    Calls Tryd.prog 30 #[.slice a n cap] w fun e w' => OwE w (gdL l) e w' := by
  obtain ⟨h1, h2, h3⟩ := h
  have HA := Lib.hid (p := ∀ W, Below w.heap.size w W → ∀ j, j < n → ∃ b o, a = some ⟨b, o, none⟩ ∧ NC W b (o + j * 3) (l.getD j default)) (fun W bw j hj => by
    rcases h3 with h3 | ⟨b, o, e, hb, hc⟩
    · omega
    · exact ⟨b, o, e, (hc j hj).later bw hb⟩)
  have RR := Lib.hid hR
  have HL := Lib.hid h1
  have KV := Lib.hid (fun (i : In) W (q : Rws W) => valid_any i.o i.a i.b W q)
  clear h1 h3 hR
  go_enter Tryd.func30, Tryd.ntmps30
  go_wp2
  go_loopw [3, 4] (fun b t wr => ∃ j : Nat, j ≤ n ∧ t = .int .i64 (j : Int) ∧ OwI wr w.heap.size b (gdL (l.take j)) ∧ Below w.heap.size w wr) (fun _ t _ => n - (intOf t).toNat)
  case atStart => exact ⟨0, by omega, rfl, by simpa [gdL] using owi_nil _ _, Below.refl _ _⟩
  case round =>
    rename World => wr
    obtain ⟨j, hj, rfl, hO, hB⟩ := hrel
    have OO := Lib.hid hO
    have BB := Lib.hid hB
    clear hO hB
    by_cases hlt : j < n
    · have jc : (j : Int) < (n : Int) := by omega
      obtain ⟨b, o, rfl, c0, c1, c2⟩ := HA.out wr BB.out j hlt
      have SN := Lib.hid (take_snoc (l := l) (j := j) (by rw [HL.out]; exact hlt))
      have LN := Lib.hid (p := (gdL (l.take j)).length ≤ 5864062014804) (by have := gdL_len (l.take j); simp at this; omega)
      have HAj := Lib.hid (p := ∀ W, Below w.heap.size w W → NC W b (o + j * 3) (l.getD j default)) (fun W q => by
        obtain ⟨b', o', e, hc⟩ := HA.out W q j hlt
        injection e with e
        injection e with e1 e2
        subst e1 e2
        exact hc)
      by_cases hv : (l.getD j default).okP
      · have NX := Lib.hid (p := gdL (l.take (j + 1)) = gdL (l.take j) ++ [l.getD j default]) (by rw [SN.out]; exact gdL_yes hv)
        have KVj := Lib.hid (KV.out (l.getD j default) _ (RR.out.below BB.out))
        have VZ := Lib.hid (okV_pos hv)
        generalize hgi : l.getD j default = i at *
        clear hgi hv SN
        obtain ⟨io, ia, ib⟩ := i
        rw [VZ.out] at KVj
        simp only at KVj c0 c1 c2
        clear HA
        go_wp2_with (first
          | (go_at_call 19; refine KVj.out.mono ?_; rintro e w1 ⟨rfl, h1⟩; have B1 := Lib.hid (BB.out.trans (h1.mono BB.out.size)); have O1 := Lib.hid (OO.out.kept (below_gr h1 none) (by cases (Value.ownBlock _) <;> simp)); obtain ⟨d0, d1, d2⟩ := HAj.out w1 B1.out; clear h1)
          | (at_builtin; refine wp_instr _ ⟨io, ia, ib⟩ rfl _ _ rfl w.heap.size _ _ rfl _ rfl rfl O1.out LN.out B1.out.size _ rfl ?_; intro v4 w4 o4 g4; have O4 := Lib.hid o4; have G4 := Lib.hid ((B1.out.alloc B1.out.size _).grown g4 (by have := B1.out.size; simp; omega) (fun k e => (O1.out.lt k e).1)); clear o4 g4))
        go_roundw
        case rel => exact ⟨j + 1, by omega, by go_num, by rw [NX.out]; exact O4.out, G4.out⟩
        case measure => simp [intOf]; omega
      · have NX := Lib.hid (p := gdL (l.take (j + 1)) = gdL (l.take j)) (by rw [SN.out]; exact gdL_no hv)
        have KVj := Lib.hid (KV.out (l.getD j default) _ (RR.out.below BB.out))
        have VZ := Lib.hid (okV_neg hv)
        generalize hgi : l.getD j default = i at *
        clear hgi hv SN
        obtain ⟨io, ia, ib⟩ := i
        rw [VZ.out] at KVj
        simp only at KVj c0 c1 c2
        clear HA
        go_wp2_with (first
          | (go_at_call 19; refine KVj.out.mono ?_; rintro e w1 ⟨rfl, h1⟩; have B1 := Lib.hid (BB.out.trans (h1.mono BB.out.size)); have O1 := Lib.hid (OO.out.kept (below_gr h1 none) (by cases (Value.ownBlock _) <;> simp)); clear h1))
        go_roundw
        case rel => exact ⟨j + 1, by omega, by go_num, by rw [NX.out]; exact O1.out, B1.out⟩
        case measure => simp [intOf]; omega
    · obtain rfl : j = n := by omega
      have q0 := OO.out
      rw [List.take_of_length_le (by rw [HL.out]; exact Nat.le_refl _)] at q0
      have OX := Lib.hid q0
      clear q0
      go_wp2
      go_ret
      exact ⟨⟨_, rfl, OX.out⟩, BB.out⟩
end Go.Proofs.YtklbbfmpgijhbaaDoor
