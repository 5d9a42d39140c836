/-
  WALK: put into a book that is not late, and what it writes.
-/
import Derived.Test.YtnoimmjijkgjaaaWBk1
namespace Go.Proofs.Ytnoimmjijkgjaaa
open Go.RowKit
set_option linter.unusedVariables false
set_option linter.unusedSimpArgs false

theorem rep_set {ys : List Int} {k m : Nat} {μ : Int} (hl : ys.length = m) (hk : k < m) : (List.replicate k μ ++ ys.drop k).set k μ = List.replicate (k + 1) μ ++ ys.drop (k + 1) := by
  rw [List.set_append, if_neg (by simp)]
  simp only [List.length_replicate, Nat.sub_self]
  rw [List.drop_eq_getElem_cons (by omega : k < ys.length), List.set_cons_zero, List.replicate_succ', List.append_assoc]
  rfl
theorem rep_end {ys : List Int} {m : Nat} {μ : Int} (hl : ys.length = m) : List.replicate m μ ++ ys.drop m = List.replicate m μ := by
  rw [List.drop_eq_nil_of_le (by omega), List.append_nil]
theorem rep_byte {m : Nat} {μ : Int} (h : 0 ≤ μ ∧ μ ≤ 255) : ∀ c ∈ List.replicate m μ, 0 ≤ c ∧ c ≤ 255 := by
  intro c hc; rw [(List.mem_replicate.1 hc).2]; exact h
theorem reps_byte {m i : Nat} {μ ν : Int} (h : 0 ≤ μ ∧ μ ≤ 255) (h' : 0 ≤ ν ∧ ν ≤ 255) : ∀ c ∈ List.replicate m μ ++ List.replicate i ν, 0 ≤ c ∧ c ≤ 255 := by
  intro c hc
  rcases List.mem_append.1 hc with hc | hc
  · exact rep_byte h c hc
  · exact rep_byte h' c hc
theorem own_a0 {w : World} {B : Nat} {a : Option Addr} {n cap : Nat} {xs : List Int} (h : Own w B (.slice a n cap) n xs) : ∀ b o, a = some ⟨b, o, none⟩ → o = 0 ∧ b < w.heap.size := by
  intro b o ha
  rcases h.2 with ⟨e, h0⟩ | ⟨g, c, cur, e, _, hg, _⟩
  · injection e with e1; rw [ha] at e1; cases e1
  · injection e with e1
    rw [ha] at e1
    injection e1 with e1
    injection e1 with e1 e2
    subst e1 e2
    exact ⟨rfl, (Array.getElem?_eq_some_iff.1 hg).1⟩
/-- The list itself, while what is grown from it grows. -/
theorem bt_ext {wq w3 : World} {Bl N : Nat} {a : Option Addr} {m cp n n' : Nat} {v v3 : Value} {ls zq zs : List Int} (T : BT wq a m ls) (E : Ext Bl wq v n zq w3 v3 n' zs) (hv : v.ownBlock = Value.ownBlock (.slice a m cp) ∨ ∃ x, v.ownBlock = some x ∧ N ≤ x) (ha : ∀ b o, a = some ⟨b, o, none⟩ → o = 0 ∧ b < N) (hz : zq.take m = ls) (hn : m ≤ n) (hb : ∀ c ∈ zq, 0 ≤ c ∧ c ≤ 255) (hN : n ≤ 140737488355328) : BT w3 a m ls := by
  by_cases h0 : m = 0
  · exact ⟨⟨T.1.1, T.1.2.1, T.1.2.2.1, .inl h0⟩, .inl h0⟩
  · obtain ⟨b, o, cs, fz, e, hbk⟩ := T.2.resolve_left h0
    obtain ⟨ho, hbN⟩ := ha b o e
    subst ho e
    rcases hv with r | ⟨x, r, hx⟩
    · obtain ⟨av, cv, rfl⟩ := own_form E.old
      have e1 : av = some ⟨b, 0, none⟩ := by
        rcases E.old.2 with ⟨e, h0⟩ | ⟨g, c, cur, e, _⟩
        · omega
        · injection e with e1
          subst e1
          simp [Value.ownBlock] at r
          rw [r]
      subst e1
      rw [← hz]
      exact (own_bt E.old hb hN).upTo m hn
    · exact T.kept E.grown.size (fun b' o' cs' fz' _ e' hb' => by
        injection e' with e'
        injection e' with e1 e2
        subst e1
        exact E.grown.block b (Array.getElem?_eq_some_iff.1 hb').1 (fun e => by rw [r] at e; injection e with e; omega))

set_option maxRecDepth 100000 in
set_option maxHeartbeats 4000000 in
theorem put_e (B q c : Nat) (ws : List Value) (L : Value) (a : Option Addr) (m cp Bl : Nat) (ys : List Int) (μ : Nat) (w : World) (h : EB w B q L c ws) (ho : Own w Bl (.slice a m cp) m ys) (hc : c ≤ 1000000000) (hm : m ≤ 140737488354000) (hB : B ≤ w.heap.size) (hBl : Bl ≤ w.heap.size) (hμ : 1 + c / 2 % 120 = μ) :
    Calls Try.prog 23 #[.pointer (some ⟨q, 2, none⟩), .slice a m cp] w fun e w' => e = .returned (.tuple #[]) ∧ ∃ L' a4 c4, PutE w w' B q L (.slice a m cp) (c + 2) (ws ++ [.slice a m cp] ++ [.slice a4 (m + 90) c4]) L' ∧ BT w' a m (List.replicate m (μ : Int)) ∧ BT w' a4 (m + 90) (List.replicate m (μ : Int) ++ List.replicate 90 ((μ : Int) + 121)) ∧ (Value.ownBlock (.slice a4 (m + 90) c4) = Value.ownBlock (.slice a m cp) ∨ ∃ x, Value.ownBlock (.slice a4 (m + 90) c4) = some x ∧ w.heap.size ≤ x) := by
  have P0 := Lib.hid (p := PutE w w B q L (.slice a m cp) c ws L) ⟨h, Keep.refl _ _, .inl rfl, fun _ _ => rfl⟩
  have O0 := Lib.hid ho
  have A0 := Lib.hid (own_a0 ho)
  have YL := Lib.hid (p := ys.length = m) (by have := ho.1; rw [bcs_len] at this; omega)
  have c2 := h.l
  have c3 := h.late
  have hL := h.own
  obtain ⟨aL, cL, rfl⟩ : ∃ aL cL, L = .slice aL c cL := by
    rcases hL.2 with ⟨q, q0⟩ | ⟨g, cc, cur, q, _⟩
    · exact ⟨none, 0, by rw [q, q0]⟩
    · exact ⟨_, cc, q⟩
  have t1 : Int.tdiv (c : Int) 2 = ((c / 2 : Nat) : Int) := by rw [Int.tdiv_eq_ediv_of_nonneg (by omega)]; omega
  have t2 : Int.tmod ((c / 2 : Nat) : Int) 120 = ((c / 2 % 120 : Nat) : Int) := by rw [Int.tmod_eq_emod_of_nonneg (by omega)]; omega
  have t1' : (c : Int) / 2 = ((c / 2 : Nat) : Int) := by omega
  have t2' : ((c / 2 : Nat) : Int) % 120 = ((c / 2 % 120 : Nat) : Int) := by omega
  have t3 : IntKind.i64.wrap (1 + ((c / 2 % 120 : Nat) : Int)) = (μ : Int) := by simp [IntKind.wrap, IntKind.bits, IntKind.signed]; omega
  have t4 : IntKind.u8.wrap (μ : Int) = (μ : Int) := by simp [IntKind.wrap, IntKind.bits, IntKind.signed]; omega
  have t5 : IntKind.u8.wrap ((μ : Int) + 121) = (μ : Int) + 121 := by simp [IntKind.wrap, IntKind.bits, IntKind.signed]; omega
  have μ0 : μ ≤ 120 := by omega
  have w1 : IntKind.i64.wrap ((c / 2 : Nat) : Int) = ((c / 2 : Nat) : Int) := by simp [IntKind.wrap, IntKind.bits, IntKind.signed]; omega
  have w2 : IntKind.i64.wrap ((c / 2 % 120 : Nat) : Int) = ((c / 2 % 120 : Nat) : Int) := by simp [IntKind.wrap, IntKind.bits, IntKind.signed]; omega
  generalize c / 2 % 120 = ν at *
  generalize c / 2 = κ at *
  have QN := Lib.hid (p := ∀ W v k zs, Own W Bl v k zs → ∀ L' c' ws', EB W B q L' c' ws' → v.ownBlock ≠ some q ∧ ∀ x, L'.ownBlock = some x → v.ownBlock ≠ some x) (fun W v k zs o L' c' ws' b => by
    obtain ⟨cs, fz, ht⟩ := b.ty
    exact ⟨row_ne o ht (by decide), rows_ne o b.own (by decide)⟩)
  clear h ho hL hμ
  go_enter Try.func23, Try.ntmps23
  go_wp2
  clear t1 t2 t1' t2' t3 w1 w2 c2 c3
  generalize hLL : Value.slice aL c cL = LL at *
  have HLL := Lib.hid hLL
  clear hLL
  go_loopw [5] (fun t wr => ∃ (k : Nat), k ≤ m ∧ t = .int .i64 (k : Int) ∧ Own wr Bl (.slice a m cp) m (List.replicate k (μ : Int) ++ ys.drop k) ∧ PutE w wr B q LL (.slice a m cp) c ws LL) (fun t _ => m - (intOf t).toNat)
  case atStart => exact ⟨0, by omega, rfl, O0.out, P0.out⟩
  case round =>
    rename World => wr
    obtain ⟨k, hk, rfl, hO, hP⟩ := hrel
    have OO := Lib.hid hO
    have PP := Lib.hid hP
    by_cases hlt : k < m
    · obtain ⟨g, rfl⟩ : ∃ g, a = some ⟨g, 0, none⟩ := by
        rcases hO.2 with ⟨e, h0⟩ | ⟨g, cc, cur, e, _⟩
        · omega
        · injection e with e; exact ⟨g, e⟩
      have kc : (k : Int) < (m : Int) := by omega
      obtain ⟨d1, d2⟩ := own_cell hO k hlt
      have SG := Lib.hid (World.ownsRow.stored hO k (.int .u8 (μ : Int))).2
      generalize (List.replicate k (μ : Int) ++ ys.drop k).getD k 0 = old at d1
      clear hO hP
      go_wp2
      go_roundw
      case rel => exact ⟨k + 1, by omega, by go_num, by rw [← rep_set YL.out hlt]; exact own_set OO.out k _, PP.out.store (v := .slice (some ⟨g, 0, none⟩) m cp) SG.out (.inl rfl) (QN.out _ _ _ _ OO.out _ _ _ PP.out.bk).1 (QN.out _ _ _ _ OO.out _ _ _ PP.out.bk).2⟩
      case measure => simp [intOf]; omega
    · obtain rfl : k = m := by omega
      rw [rep_end YL.out] at OO
      have x1 := hP.bk.l
      have SZ := Lib.hid (Nat.le_trans hB hP.keep.size)
      have SW := Lib.hid hP.keep.size
      have LR := Lib.hid hP.bk.own
      clear hO hP
      go_wp2_with (at_builtin; refine wp_listL _ _ _ _ rfl _ _ rfl B _ _ _ rfl rfl LR.out (by omega) SZ.out ?_; intro v2 w2 h1 h2 h3; obtain ⟨a2, cc2, rfl⟩ := rowL_form h1; obtain ⟨y1, y2⟩ := PP.out.at2 h2; have P2 := Lib.hid (PP.out.list h2 h1 h3 SW.out); have O2 := Lib.hid (own_listE (L2 := .slice a2 (c + 1) cc2) OO.out PP.out.bk h2); have S2 := Lib.hid (Nat.le_trans (Nat.le_trans hBl SW.out) h2.size); clear h1 h2 h3)
      go_loopw [1, 6] (fun v t wq => ∃ (i : Nat), i ≤ 90 ∧ t = .int .i64 (i : Int) ∧ Own wq Bl v (k + i) (List.replicate k (μ : Int) ++ List.replicate i ((μ : Int) + 121)) ∧ (v.ownBlock = Value.ownBlock (.slice a k cp) ∨ ∃ x, v.ownBlock = some x ∧ w.heap.size ≤ x) ∧ BT wq a k (List.replicate k (μ : Int)) ∧ PutE w wq B q LL (.slice a k cp) (c + 1) (ws ++ [.slice a k cp]) (.slice a2 (c + 1) cc2)) (fun _ t _ => 90 - (intOf t).toNat)
      case atStart => exact ⟨0, by omega, rfl, by simpa using O2.out, .inl rfl, own_bt O2.out (rep_byte (by omega)) (by omega), P2.out⟩
      case round =>
        rename World => wq
        obtain ⟨i, hi, rfl, hO, hV, hT, hP⟩ := hrel
        have OQ := Lib.hid hO
        have PQ := Lib.hid hP
        have VQ := Lib.hid hV
        have TQ := Lib.hid hT
        have SQ := Lib.hid hP.keep.size
        have QQ := Lib.hid (QN.out _ _ _ _ hO _ _ _ hP.bk)
        by_cases hlt : i < 90
        · have ic : (i : Int) < 90 := by omega
          clear hO hP hV hT
          go_wp2_with (at_builtin; refine wp_byteK _ _ rfl _ _ rfl Bl _ _ _ rfl rfl OQ.out (by omega) (Nat.le_trans hBl SQ.out) ?_; intro v3 w3 h1; have E3 := Lib.hid h1; clear h1)
          go_roundw
          case rel =>
            refine ⟨i + 1, by omega, by go_num, by rw [List.replicate_succ', ← List.append_assoc]; exact E3.out.own, ?_, bt_ext (cp := cp) TQ.out E3.out VQ.out A0.out (by simp) (by omega) (reps_byte (by omega) (by omega)) (by omega), PQ.out.store E3.out.grown VQ.out QQ.out.1 QQ.out.2⟩
            rcases E3.out.at_ with r | ⟨x, r, hx⟩
            · rw [r]; exact VQ.out
            · exact .inr ⟨x, r, Nat.le_trans SQ.out hx⟩
          case measure => simp [intOf]; omega
        · obtain rfl : i = 90 := by omega
          obtain ⟨a9, c9, rfl⟩ := own_form hO
          have x1 := hP.bk.l
          have S9 := Lib.hid (Nat.le_trans hB hP.keep.size)
          have LQ := Lib.hid hP.bk.own
          clear hO hP hV hT
          go_wp2_with (at_builtin; refine wp_listL _ _ _ _ rfl _ _ rfl B _ _ _ rfl rfl LQ.out (by omega) S9.out ?_; intro v4 w4 h1 h2 h3; obtain ⟨a4, cc4, rfl⟩ := rowL_form h1; obtain ⟨y1, y2⟩ := PQ.out.at2 h2; have P4 := Lib.hid (PQ.out.list h2 h1 h3 SQ.out); have T4 := Lib.hid (bt_listE (L2 := .slice a4 (c + 1 + 1) cc4) TQ.out PQ.out.bk h2); have T5 := Lib.hid (bt_listE (L2 := .slice a4 (c + 1 + 1) cc4) (own_bt OQ.out (reps_byte (by omega) (by omega)) (by omega)) PQ.out.bk h2); clear h1 h2 h3)
          go_end0
          exact ⟨rfl, _, a9, c9, by rw [HLL.out]; exact P4.out, T4.out, T5.out, VQ.out⟩
end Go.Proofs.Ytnoimmjijkgjaaa
