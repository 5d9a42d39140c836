/-
  WALKS: legs.Reads and the iterator that it gives, as a contract; the law's first.
-/
import Derived.Test.YtmhfegdjcdnneaaWX9
import Derived.Test.YtmhfegdjcdnneaaWX3
import Derived.Laws.EntriesVeiled
namespace Go.Proofs.Ytmhfegdjcdnneaa
open Go.RowKit Go.Shelf
attribute [local go_sem] Oper.semAt_some
set_option linter.unusedVariables false
set_option linter.unusedSimpArgs false

/-- The iterator as a contract over the reads of its own list. -/
def ItX (W : World) (kb : Nat) (L : List (Int × Int)) : Prop := ∀ m, 1 ≤ m → SeqStopsK Fence.wide m Try.prog 33 #[.pointer (some ⟨kb, 0, none⟩)] (fun x : { x : Int × Int // x ∈ L } => #[Value.int .i64 x.1.1, Value.int .i64 x.1.2]) (Below W.heap.size)
      (fun ys => ys.map (·.1) = L) (fun pre => pre.map (·.1) <+: L) L.length W
theorem ItX.later {W W' : World} {kb : Nat} {L : List (Int × Int)} (h : ItX W kb L) (b : Below W.heap.size W W') : ItX W' kb L := by
  intro m hm l J Jx X hX hJ hJx hY h0
  refine h m hm l J Jx X (b.trans (hX.mono b.size)) hJ hJx (fun pre x W1 hj hl => (hY pre x W1 hj hl).mono ?_) h0
  rintro e Y (⟨h1, h2, h3⟩ | h1)
  · exact .inl ⟨h1, h2, h3.mono b.size⟩
  · exact .inr h1
set_option maxHeartbeats 1000000 in
theorem itx_any {w : World} {e : Xt} {v0 v1 v2 v3 : Value} (kb : Nat) (hk : Bk w kb #[v0, v1, v2, v3] 24) (hE : XV w e [v0, v1, v2, v3]) : ItX w kb e.rds := by
  intro m hm l J Jx W hW hJ hJx hY h0
  have hkb := hk.lt
  have GR := giveReads_in l w.heap.size e.rds (fun pre W => ∃ q : List { x : Int × Int // x ∈ e.rds }, q.map (·.1) = pre ∧ J q W) (fun pre W => ∃ q : List { x : Int × Int // x ∈ e.rds }, q.map (·.1) = pre ∧ Jx q W)
    (by
      rintro m' pre x W1 ⟨q, rfl, hq⟩ hp
      have hx : x ∈ e.rds := hp.subset (by simp)
      have hlen : q.length < e.rds.length := by have := hp.length_le; simp at this; omega
      refine xyield_any rfl m' ((hY q ⟨x, hx⟩ W1 hq hlen).mono ?_)
      rintro e' W' (⟨rfl, h1, h2⟩ | ⟨rfl, h1⟩)
      · exact .inl ⟨rfl, ⟨_, by simp, h1⟩, h2⟩
      · exact .inr ⟨rfl, ⟨_, by simp, h1⟩⟩)
    (by
      rintro s W1 ⟨q, hq, hj⟩
      exact ⟨q, hq, hJ q W1 W1.drew none hj ⟨rfl, rfl, rfl, Nat.le_refl _, fun _ _ _ => rfl⟩ (fun r e => by cases e)⟩)
    (Nat.le_refl _) hE kb 0 [] W hW hkb (fun j hj => by
      rw [Nat.zero_add, hW.cell (p := ⟨kb, j, none⟩) hkb, hk.cell]
      match j, hj with
      | 0, _ => rfl
      | 1, _ => rfl
      | 2, _ => rfl
      | 3, _ => rfl) ⟨[], rfl, h0⟩ (by simp)
  have G := Lib.hid GR
  clear GR hY hJ hJx h0 hE hW
  refine callsIn_wide.2 ?_
  show Calls Try.prog 33 #[.func (.yield l) #[] #[], .pointer (some ⟨kb, 0, none⟩)] W _
  go_enter Try.func33, Try.ntmps33
  go_wp2_with fail
  go_at_call 34
  refine G.out.mono ?_
  rintro e' W1 ⟨b, rfl, h1, h2⟩
  have H1 := Lib.hid h1
  have H2 := Lib.hid h2
  clear h1 h2
  cases b with
  | true =>
    obtain ⟨⟨q, hq, hj⟩, _⟩ := H1.out rfl
    clear H1 H2
    go_wp2
    go_end0
    exact ⟨⟨_, rfl⟩, .inl ⟨q, by simpa using hq, hj⟩⟩
  | false =>
    obtain ⟨q, hq, q', hq', hj⟩ := H2.out rfl
    clear H1 H2
    go_wp2
    go_end0
    exact ⟨⟨_, rfl⟩, .inr ⟨q', by rw [hq']; simpa using hq, hj⟩⟩
set_option maxHeartbeats 1000000 in
/-- legs.Reads: an iterator over a copy of its own. -/
theorem reads_any {w0 : World} {e : Xt} {vs : List Value} (hE : XV w0 e vs) (w : World) (hB : Below w0.heap.size w0 w) (hN : e.n ≤ 1048576) :
    Calls Try.prog 11 #[.agg vs.toArray] w fun e' w' => ∃ (kb : Nat) (v0 v1 v2 v3 : Value), e' = .returned (.func (.func 33) #[] #[.pointer (some ⟨kb, 0, none⟩)]) ∧ Below w.heap.size w w' ∧ RowKit.Hid (w.heap.size ≤ kb ∧ Bk w' kb #[v0, v1, v2, v3] 24 ∧ XO w' w.heap.size w'.heap.size e [v0, v1, v2, v3]) := by
  have HE := Lib.hid hE
  have HB := Lib.hid hB
  obtain ⟨v0, v1, v2, v3, hv⟩ := hE.four
  subst hv
  obtain ⟨w2, hw2⟩ : ∃ w2, (w.alloc (.cells #[v0, v1, v2, v3] 24)).alloc (.cells #[.int .i64 0, .int .i64 0, .int .i64 0, .slice none 0 0] 24) = w2 := ⟨_, rfl⟩
  have X2 := Lib.hid (show Below w.heap.size w w2 ∧ Bk w2 w.heap.size #[v0, v1, v2, v3] 24 ∧ Bk w2 (w.heap.size + 1) #[.int .i64 0, .int .i64 0, .int .i64 0, .slice none 0 0] 24 by
    subst hw2
    refine ⟨((Below.refl _ _).alloc (Nat.le_refl _) _).alloc (by simp) _, (Bk.new w _ _).alloc _, ?_⟩
    have := Bk.new (w.alloc (.cells #[v0, v1, v2, v3] 24)) #[.int .i64 0, .int .i64 0, .int .i64 0, .slice none 0 0] 24
    rw [World.size_alloc] at this
    exact this)
  have H2 := Lib.hid hw2
  have c0 := X2.out.2.1.cell 0
  have c1 := X2.out.2.1.cell 1
  have c2 := X2.out.2.1.cell 2
  have c3 := X2.out.2.1.cell 3
  simp at c0 c1 c2 c3
  clear hE hB hw2
  go_enter Try.func11, Try.ntmps11
  go_wp2_with fail
  rw [H2.out]
  go_at_call 7
  refine (nodes_any HE.out w2 (HB.out.trans (X2.out.1.mono HB.out.size)) hN).mono ?_
  rintro e' w3 ⟨rfl, b3⟩
  have B3 := Lib.hid (X2.out.1.trans (b3.mono X2.out.1.size))
  have E3 := Lib.hid (X2.out.2.1.below b3 X2.out.2.1.lt)
  have K3 := Lib.hid (X2.out.2.2.below b3 X2.out.2.2.lt)
  have CO := Lib.hid (copyOf_any HE.out w3 w.heap.size 0 (HB.out.trans (B3.out.mono HB.out.size)) hN (fun j hj => by
    rw [Nat.zero_add, E3.out.cell]
    match j, hj with
    | 0, _ => rfl
    | 1, _ => rfl
    | 2, _ => rfl
    | 3, _ => rfl))
  have hn1 : (e.n : Int) ≤ 1048576 := by omega
  generalize e.n = N at hn1
  clear b3 c0 c1 c2 c3 hN
  go_wp2_with fail
  go_at_call 32
  refine CO.out.mono ?_
  rintro e' w4 ⟨vs', rfl, hx4, b4⟩
  obtain ⟨o', m', t', a', n', k', rfl⟩ := hx4.form
  have X4 := Lib.hid hx4
  have B4 := Lib.hid (B3.out.trans (b4.mono B3.out.size))
  have K4 := Lib.hid (K3.out.below b4 K3.out.lt)
  have Z4 := Lib.hid b4.size
  have r0 := K4.out.cell 0
  have r1 := K4.out.cell 1
  have r2 := K4.out.cell 2
  have r3 := K4.out.cell 3
  have g0 := K4.out.frozen 0
  have g1 := K4.out.frozen 1
  have g2 := K4.out.frozen 2
  have g3 := K4.out.frozen 3
  simp at r0 r1 r2 r3
  clear hx4 b4
  go_wp2
  go_ret
  have hs := B3.out.size
  have hk := K3.out.lt
  refine ⟨w.heap.size + 1, .int .i64 o', .int .i64 m', .int .i64 t', .slice a' n' k', rfl, ?_, by omega, ?_, ?_⟩
  · exact (((B4.out.setCell (p := ⟨w.heap.size + 1, 0, none⟩) (by simp) _).setCell (p := ⟨w.heap.size + 1, 1, none⟩) (by simp) _).setCell (p := ⟨w.heap.size + 1, 2, none⟩) (by simp) _).setCell (p := ⟨w.heap.size + 1, 3, none⟩) (by simp) _
  · have := (((K4.out.set 0 (.int .i64 o') (by simp)).set 1 (.int .i64 m') (by simp)).set 2 (.int .i64 t') (by simp)).set 3 (.slice a' n' k') (by simp)
    simpa using this
  · rw [World.size_setCell, World.size_setCell, World.size_setCell, World.size_setCell]
    exact (X4.out.keep (fun k h1 h2 => by rw [heap_set_other _ _ _ _ _ (by omega), heap_set_other _ _ _ _ _ (by omega), heap_set_other _ _ _ _ _ (by omega), heap_set_other _ _ _ _ _ (by omega)])).wide (by omega) (Nat.le_refl _)
end Go.Proofs.Ytmhfegdjcdnneaa
