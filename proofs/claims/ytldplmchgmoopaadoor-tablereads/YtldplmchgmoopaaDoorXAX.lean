import Derived.Test.YtldplmchgmoopaaDoorXAW
import Derived.Test.YtldplmchgmoopaaDoorXAT
import Derived.Deep.Cut
import Derived.Deep.CutRange
import Derived.Deep.DeepCutAuto
import Derived.Test.YtldplmchgmoopaaDoorXAO
namespace Go.Proofs.YtldplmchgmoopaaDoor
open Go.RowKit
set_option linter.unusedVariables false
set_option linter.unusedSimpArgs false

theorem Bk.take {W : World} {B bk : Nat} {vs : List Value} {g : Bg} {sn sn' X : List (Nat × Obj)} {mark : Int} {late : Bool} (h : Bk W B bk vs g sn mark late) (nd : (sn.map (·.1)).Nodup) (p : sn.Perm (X ++ sn')) : Bk W B bk vs g sn' mark late ∧ (sn'.map (·.1)).Nodup ∧ (∀ z ∈ X.map (·.1), BkO.Free bk vs g.fs sn' z) ∧ Hol W X := by
  have nd2 := (p.map (·.1)).nodup_iff.1 nd
  rw [List.map_append] at nd2
  have nd3 := List.nodup_append.1 nd2
  refine ⟨h.sub (fun q hq => p.symm.subset (List.mem_append.2 (.inr hq))), nd3.2.1, fun z hz => ?_, fun q hq => h.hol q (p.symm.subset (List.mem_append.2 (.inl hq)))⟩
  obtain ⟨q, hq, e⟩ := List.mem_map.1 hz
  have st := h.o.st q (p.symm.subset (List.mem_append.2 (.inl hq)))
  rw [e] at st
  exact ⟨st.2.1, st.2.2, fun r hr e2 => nd3.2.2 z hz r.1 (List.mem_map.2 ⟨r, hr, rfl⟩) e2.symm⟩
theorem perm_out {α : Type} (A X Y : List α) : (A ++ (X ++ Y)).Perm (X ++ (A ++ Y)) := by
  rw [← List.append_assoc, ← List.append_assoc]
  exact List.Perm.append_right Y List.perm_append_comm
/-- The book, and blocks that it keeps for the moment. -/
def BkS (W : World) (B bk : Nat) (late : Bool) (N : Nat) (X : List (Nat × Obj)) : Prop :=
  ∃ vs g sE SR SN SP mark, BkL W B bk vs g sE SR SN SP 0 0 0 X mark late ∧ Sz g mark (5000 * N) N ∧ (late = false → SR = [] ∧ SN = [] ∧ SP = [])
theorem BkS.below {W W' : World} {B bk : Nat} {late : Bool} {N : Nat} {X : List (Nat × Obj)} (h : BkS W B bk late N X) (b : Below W.heap.size W W') : BkS W' B bk late N X := by
  obtain ⟨vs, g, sE, SR, SN, SP, mark, h1, h2⟩ := h
  exact ⟨vs, g, sE, SR, SN, SP, mark, h1.below b, h2⟩
theorem BkS.hol {W : World} {B bk : Nat} {late : Bool} {N : Nat} {X : List (Nat × Obj)} (h : BkS W B bk late N X) : Hol W X := by
  obtain ⟨vs, g, sE, SR, SN, SP, mark, h1, h2⟩ := h
  exact h1.I.b.hol.sub (fun p hp => List.mem_append.2 (.inr (List.mem_append.2 (.inr (List.mem_append.2 (.inr (List.mem_append.2 (.inr hp))))))))
theorem BkS.lt {W : World} {B bk : Nat} {late : Bool} {N : Nat} {X : List (Nat × Obj)} (h : BkS W B bk late N X) : bk < W.heap.size := by
  obtain ⟨vs, g, sE, SR, SN, SP, mark, h1, h2⟩ := h
  exact h1.I.b.o.lt.1
/-- New blocks are kept. -/
theorem BkS.keep {W0 W : World} {B bk : Nat} {late : Bool} {N : Nat} {X : List (Nat × Obj)} (h : BkS W0 B bk late N X) (b : Below W0.heap.size W0 W) (L : List (Nat × Obj)) (hL : ∀ p ∈ L, W.heap[p.1]? = some p.2 ∧ W0.heap.size ≤ p.1) : ∃ Y, BkS W B bk late N (Y ++ X) ∧ ∀ p ∈ L, p ∈ Y := by
  obtain ⟨vs, g, sE, SR, SN, SP, mark, h1, h2⟩ := h
  have h3 := h1.below b
  obtain ⟨Y, k1, k2, k3, k4⟩ := h3.I.b.leaveS L (fun p hp => ⟨(hL p hp).1, h1.I.b.o.new (hL p hp).2⟩)
  refine ⟨Y, ⟨vs, g, sE, SR, SN, SP, mark, ⟨BkI.perm k1 (k4 h3.I.nd) ?_ h3.I.ev, h3.l⟩, h2⟩, k2⟩
  have := (perm_out (sE ++ (restS SR 0 ++ (restS SN 0 ++ restS SP 0))) Y X).symm
  simpa [List.append_assoc] using this
theorem BkL.drop {W : World} {B bk : Nat} {vs : List Value} {g : Bg} {sE : List (Nat × Obj)} {SR SN SP : List (List (Nat × Obj))} {i j k : Nat} {X Y : List (Nat × Obj)} {mark : Int} {late : Bool} (h : BkL W B bk vs g sE SR SN SP i j k (X ++ Y) mark late) : BkL W B bk vs g sE SR SN SP i j k Y mark late ∧ (∀ z ∈ X.map (·.1), BkO.Free bk vs g.fs (sE ++ (restS SR i ++ (restS SN j ++ (restS SP k ++ Y)))) z) ∧ Hol W X := by
  have p : (sE ++ (restS SR i ++ (restS SN j ++ (restS SP k ++ (X ++ Y))))).Perm (X ++ (sE ++ (restS SR i ++ (restS SN j ++ (restS SP k ++ Y))))) := by
    have := perm_out (sE ++ (restS SR i ++ (restS SN j ++ restS SP k))) X Y
    simpa [List.append_assoc] using this
  obtain ⟨b, nd, f, hl⟩ := h.I.b.take h.I.nd p
  exact ⟨⟨⟨b, nd, h.I.ev⟩, h.l⟩, f, hl⟩
theorem BkS.less {W : World} {B bk : Nat} {late : Bool} {N : Nat} {X Y : List (Nat × Obj)} (h : BkS W B bk late N (X ++ Y)) : BkS W B bk late N Y := by
  obtain ⟨vs, g, sE, SR, SN, SP, mark, h1, h2⟩ := h
  exact ⟨vs, g, sE, SR, SN, SP, mark, h1.drop.1, h2⟩
/-- The globals of the law. -/
structure Gl (B bk : Nat) (w : World) : Prop where
  ot : Ot w
  lt : 0 < B ∧ 0 ≠ bk
theorem Gl.fr {B bk : Nat} {w w' : World} (h : Gl B bk w) (f : Fr B bk w w') : Gl B bk w' := ⟨h.ot.fr f h.lt.1 h.lt.2, h.lt⟩
/-- rows. -/
theorem rows_X (B bk : Nat) (late : Bool) (N : Nat) (X Y : List (Nat × Obj)) (a : Option Addr) (n c : Nat) (qs : List Rw) (w : World) (h : BkS w B bk late N (X ++ Y)) (hN : N ≤ 40000000) (hB : B ≤ w.heap.size) (o : RwO w B (.slice a n c) qs) (f1 : ∀ z, (Value.slice a n c).ownBlock = some z → z ∈ X.map (·.1)) (f2 : ∀ q ∈ qs, ∀ z, q.a = some ⟨z, 0, none⟩ → z ∈ X.map (·.1)) (G : Gl B bk w)
    (hn : n ≤ 4096) (hq : ∀ q ∈ qs, q.cs.length ≤ 2000000 ∧ ∀ c ∈ q.cs, (Lit.int .i64 c.v).wf = true) :
    Calls Tryd.prog 20 #[.pointer (some ⟨bk, 0, none⟩), .slice a n c] w fun e w' => e = .returned (.tuple #[]) ∧ BkS w' B bk late (N + 1) Y ∧ Fr B bk w w' := by
  obtain ⟨vs, g, sE, SR, SN, SP, mark, h1, h2, h3⟩ := h
  obtain ⟨d1, d2, d3⟩ := h1.drop
  cases late with
  | false =>
    refine (rows_I B bk vs g sE _ mark (5000 * N) N a n c qs w d1.I h2 (by omega) hB o ⟨fun z e => d2 z (f1 z e), fun q hq z e => d2 z (f2 q hq z e)⟩ G.ot G.lt (by omega) (fun q hq' => (hq q hq').1)).mono ?_
    rintro e w' ⟨rfl, vs', g', sE', mark', k1, k2, k3, k4, _, k6⟩
    exact ⟨rfl, ⟨vs', g', sE', SR, SN, SP, mark', ⟨k1, d1.l.same k3 k2⟩, k4.mono (by omega) (by omega), h3⟩, k6⟩
  | true =>
    refine (rows_L B bk vs g sE SR SN SP Y mark (5000 * N) N a n c qs w d1 h2 (by omega) hB o ⟨fun z e => d2 z (f1 z e), fun q hq z e => d2 z (f2 q hq z e)⟩ hn hq).mono ?_
    rintro e w' ⟨rfl, ⟨vs', g', sE', SR', k1, k2⟩, k6⟩
    exact ⟨rfl, ⟨vs', g', sE', SR', SN, SP, mark, k1, k2.mono (by omega) (by omega), fun z => by cases z⟩, k6⟩
/-- names. -/
theorem names_X (B bk : Nat) (late : Bool) (N : Nat) (X Y : List (Nat × Obj)) (a : Option Addr) (n c : Nat) (ss : List ByteArray) (w : World) (h : BkS w B bk late N (X ++ Y)) (hN : N ≤ 40000000) (hB : B ≤ w.heap.size) (o : w.ownsRow B 9 1 (.slice a n c) n (ss.map Value.string)) (f1 : ∀ z, (Value.slice a n c).ownBlock = some z → z ∈ X.map (·.1))
    (hn : n ≤ 1000000) (hq : ∀ s ∈ ss, s.size ≤ 140737488351232) :
    Calls Tryd.prog 21 #[.pointer (some ⟨bk, 0, none⟩), .slice a n c] w fun e w' => e = .returned (.tuple #[]) ∧ BkS w' B bk late (N + 1) Y ∧ Fr B bk w w' := by
  obtain ⟨vs, g, sE, SR, SN, SP, mark, h1, h2, h3⟩ := h
  obtain ⟨d1, d2, d3⟩ := h1.drop
  cases late with
  | false =>
    refine (names_I B bk vs g sE _ mark (5000 * N) N a n c _ w d1.I h2 (by omega) hB o (fun z e => d2 z (f1 z e)) hn).mono ?_
    rintro e w' ⟨rfl, vs', g', sE', mark', k1, k2, k3, k4, _, k6⟩
    exact ⟨rfl, ⟨vs', g', sE', SR, SN, SP, mark', ⟨k1, d1.l.same k3 k2⟩, k4.mono (by omega) (by omega), h3⟩, k6⟩
  | true =>
    refine (names_L B bk vs g sE SR SN SP Y mark (5000 * N) N a n c ss w d1 h2 (by omega) hB o (fun z e => d2 z (f1 z e)) hn hq).mono ?_
    rintro e w' ⟨rfl, ⟨vs', g', sE', SN', k1, k2⟩, k6⟩
    exact ⟨rfl, ⟨vs', g', sE', SR, SN', SP, mark, k1, k2.mono (by omega) (by omega), fun z => by cases z⟩, k6⟩
/-- pairs. -/
theorem pairs_X (B bk : Nat) (late : Bool) (N : Nat) (X Y : List (Nat × Obj)) (a : Option Addr) (n c : Nat) (ps : List (ByteArray × Int)) (w : World) (h : BkS w B bk late N (X ++ Y)) (hN : N ≤ 40000000) (hB : B ≤ w.heap.size) (o : w.ownsRow B 67 2 (.slice a n c) n (prV ps)) (f1 : ∀ z, (Value.slice a n c).ownBlock = some z → z ∈ X.map (·.1))
    (hn : n ≤ 900000000000) :
    Calls Tryd.prog 23 #[.pointer (some ⟨bk, 0, none⟩), .slice a n c] w fun e w' => e = .returned (.tuple #[]) ∧ BkS w' B bk late (N + 1) Y ∧ Fr B bk w w' := by
  obtain ⟨vs, g, sE, SR, SN, SP, mark, h1, h2, h3⟩ := h
  obtain ⟨d1, d2, d3⟩ := h1.drop
  cases late with
  | false =>
    refine (pairs_I B bk vs g sE _ mark (5000 * N) N a n c ps w d1.I h2 (by omega) hB o (fun z e => d2 z (f1 z e)) (by omega)).mono ?_
    rintro e w' ⟨rfl, vs', g', sE', mark', k1, k2, k3, k4, _, k6⟩
    exact ⟨rfl, ⟨vs', g', sE', SR, SN, SP, mark', ⟨k1, d1.l.same k3 k2⟩, k4.mono (by omega) (by omega), h3⟩, k6⟩
  | true =>
    refine (pairs_L B bk vs g sE SR SN SP Y mark (5000 * N) N a n c ps w d1 h2 (by omega) hB o (fun z e => d2 z (f1 z e)) hn).mono ?_
    rintro e w' ⟨rfl, ⟨vs', g', sE', SP', k1, k2⟩, k6⟩
    exact ⟨rfl, ⟨vs', g', sE', SR, SN, SP', mark, k1, k2.mono (by omega) (by omega), fun z => by cases z⟩, k6⟩
/-- New rows are kept. -/
theorem BkS.keepR {W0 W : World} {B bk : Nat} {late : Bool} {N : Nat} {X : List (Nat × Obj)} {v : Value} {qs : List Rw} (h : BkS W0 B bk late N X) (b : Below W0.heap.size W0 W) (o : RwO W W0.heap.size v qs) (hl : ∀ q ∈ qs, q.cs.length ≤ 2000000) : ∃ Y, BkS W B bk late N (Y ++ X) ∧ (∀ z, v.ownBlock = some z → z ∈ Y.map (·.1)) ∧ (∀ q ∈ qs, ∀ z, q.a = some ⟨z, 0, none⟩ → z ∈ Y.map (·.1)) ∧ (∀ W', Hol W' Y → RwO W' W0.heap.size v qs) := by
  obtain ⟨Y, k1, k2⟩ := h.keep b (blkL W v ++ qs.flatMap (fun q => blkL W (qv q))) (fun p hp => by
    rcases List.mem_append.1 hp with r | r
    · obtain ⟨e1, e2⟩ := blkL_is o.own p r
      exact ⟨e2, (o.own.lt _ e1).1⟩
    · obtain ⟨q, hq, r⟩ := List.mem_flatMap.1 r
      obtain ⟨e1, e2⟩ := blkL_is (q_own (o.ok q hq) (hl q hq)) p r
      exact ⟨e2, ((q_own (o.ok q hq) (hl q hq)).lt _ e1).1⟩)
  refine ⟨Y, k1, fun z hz => ?_, fun q hq z hz => ?_, fun W' hW => ⟨?_, fun q hq => ?_, o.nd⟩⟩
  · obtain ⟨obj, m, e⟩ := blkL_has o.own hz
    exact List.mem_map.2 ⟨_, k2 _ (List.mem_append.2 (.inl m)), rfl⟩
  · obtain ⟨obj, m, e⟩ := blkL_has (q_own (o.ok q hq) (hl q hq)) (z := z) (by unfold qv; rw [hz]; rfl)
    exact List.mem_map.2 ⟨_, k2 _ (List.mem_append.2 (.inr (List.mem_flatMap.2 ⟨q, hq, m⟩))), rfl⟩
  · refine own_keep o.own (fun b hb => ?_)
    obtain ⟨ob, m, e⟩ := blkL_has o.own hb
    rw [e]
    exact hW _ (k2 _ (List.mem_append.2 (.inl m)))
  · obtain ⟨z, e1, e2, e3, e4, e5⟩ := o.ok q hq
    obtain ⟨obj, m, e⟩ := blkL_has (q_own (o.ok q hq) (hl q hq)) (z := z) (by unfold qv; rw [e1]; rfl)
    refine ⟨z, e1, e2, e3, e4, ?_⟩
    rw [← e5, e]
    exact hW _ (k2 _ (List.mem_append.2 (.inr (List.mem_flatMap.2 ⟨q, hq, m⟩))))
/-- A new list is kept. -/
theorem BkS.keepO {W0 W : World} {B bk : Nat} {late : Bool} {N : Nat} {X : List (Nat × Obj)} {v : Value} {E : TypeId} {s n : Nat} {xs : List Value} (h : BkS W0 B bk late N X) (b : Below W0.heap.size W0 W) (o : W.ownsRow W0.heap.size E s v n xs) : ∃ Y, BkS W B bk late N (Y ++ X) ∧ (∀ z, v.ownBlock = some z → z ∈ Y.map (·.1)) ∧ (∀ W', Hol W' Y → W'.ownsRow W0.heap.size E s v n xs) := by
  obtain ⟨Y, k1, k2⟩ := h.keep b (blkL W v) (fun p r => by
    obtain ⟨e1, e2⟩ := blkL_is o p r
    exact ⟨e2, (o.lt _ e1).1⟩)
  refine ⟨Y, k1, fun z hz => ?_, fun W' hW => own_keep o (fun b hb => ?_)⟩
  · obtain ⟨obj, m, e⟩ := blkL_has o hz
    exact List.mem_map.2 ⟨_, k2 _ m, rfl⟩
  · obtain ⟨ob, m, e⟩ := blkL_has o hb
    rw [e]
    exact hW _ (k2 _ m)
end Go.Proofs.YtldplmchgmoopaaDoor

namespace Go.Proofs.YtldplmchgmoopaaDoor
open Go.RowKit
set_option linter.unusedVariables false
set_option linter.unusedSimpArgs false

theorem i_bits {m : Int} (h : 0 ≤ m ∧ m ≤ 2000000000000000) : IntKind.i64.wrap (-1000 - m) = -1000 - m := by simp [IntKind.wrap, IntKind.bits, IntKind.signed]; omega
theorem i_one {k n : Nat} (h : k < n) (hn : n ≤ 2000000000000) : IntKind.i64.wrap ((k : Int) + 1) = (k : Int) + 1 := by simp [IntKind.wrap, IntKind.bits, IntKind.signed]; omega
theorem eql_rowz (a : Option Addr) (n c : Nat) (W : World) : (binOp .eql 50 (.slice a n c) (.slice none 0 0)).run Tryd.prog W = .ok (.bool a.isNone) W := by cases a <;> kernel_rfl
theorem drewN_below (w : World) (q : Nat) : Below w.heap.size w (w.drewN q) := ⟨rfl, rfl, rfl, Nat.le_refl _, fun _ _ => rfl⟩
set_option maxRecDepth 100000 in
set_option maxHeartbeats 16000000 in
theorem kept_any (B bk : Nat) (vs : List Value) (g : Bg) (sn : List (Nat × Obj)) (mark : Int) (late : Bool) (w : World) (h : Bk w B bk vs g sn mark late) (V : RawV w g (late = true)) (F : EvF sn g) (ot : Ot w) (hO : 0 < w.heap.size)
    (hb : g.rr.length ≤ 1000000000000 ∧ g.rn.length ≤ 1000000000000 ∧ g.rp.length ≤ 1000000000000) (hc : g.rv.length ≤ 1000000000000 ∧ g.ov.length ≤ 1000000000000 ∧ g.nv.length ≤ 1000000000000 ∧ g.pv.length ≤ 1000000000000) :
    Calls Tryd.prog 9 #[.pointer (some ⟨bk, 0, none⟩)] w fun e w' => e = .returned (.bool true) ∧ Below w.heap.size w w' := by
  have KR := Lib.hid (raw_any B bk vs g sn mark late (late = true) w h V hb)
  have HK := Lib.hid h
  have FF := Lib.hid F
  have OT := Lib.hid (p := ∀ W, Below w.heap.size w W → Ot W) (fun W b => ⟨(b.cell (p := ⟨0, 0, none⟩) hO).trans ot.1, (b.cell (p := ⟨0, 1, none⟩) hO).trans ot.2⟩)
  obtain ⟨N1, hN1⟩ : ∃ n, g.rv.length = n := ⟨_, rfl⟩
  obtain ⟨N2, hN2⟩ : ∃ n, g.ov.length = n := ⟨_, rfl⟩
  obtain ⟨N3, hN3⟩ : ∃ n, g.nv.length = n := ⟨_, rfl⟩
  obtain ⟨N4, hN4⟩ : ∃ n, g.pv.length = n := ⟨_, rfl⟩
  obtain ⟨b1, b2, b3, b4⟩ := hc
  rw [hN1] at b1
  rw [hN2] at b2
  rw [hN3] at b3
  rw [hN4] at b4
  have E1 := Lib.hid hN1
  have E2 := Lib.hid hN2
  have E3 := Lib.hid hN3
  have E4 := Lib.hid hN4
  have C12 := Lib.hid (p := ∀ q, (w.drewN q).cell? ⟨bk, 12, none⟩ = some (.bool late)) (fun q => by rw [World.cell?_drewN]; exact h.cells.2.1)
  clear h F ot V hb hN1 hN2 hN3 hN4 hO
  go_enter Tryd.func9, Tryd.ntmps9
  go_upto_region 2 with (go_at_call 22; refine KR.out.mono ?_; rintro e w1 ⟨⟨o, rfl, hL⟩, q, hq⟩; have L1 := Lib.hid hL; have D1 := Lib.hid (p := Below w.heap.size w w1) (by rw [hq]; exact drewN_below w q); have c12 : w1.cell? ⟨bk, 12, none⟩ = some (.bool late) := (by rw [hq]; exact C12.out q); clear hL hq)
  go_cut [0, 24] (fun v u wx => v = .pointer (some ⟨bk, 0, none⟩) ∧ u = .bool false ∧ RowKit.Hid (Below w.heap.size w wx))
  case first =>
    cases late with
    | false =>
      go_wp2
      go_meet
      case rel => exact ⟨rfl, rfl, D1.out⟩
    | true =>
      have e := L1.out rfl
      subst e
      go_wp2
      go_meet
      case rel => exact ⟨rfl, rfl, D1.out⟩
  case rest =>
    as_aux_lemma =>
      obtain ⟨rfl, rfl, hD⟩ := hcut
      rename World => wc
      have D1 := Lib.hid hD.out
      clear hD
      go_wp2
      go_loopw [4] (fun t ws => ∃ i : Nat, i ≤ N1 ∧ t = .int .i64 (i : Int) ∧ RowKit.Hid (Below w.heap.size w ws)) (fun t _ => N1 - (intOf t).toNat)
      case atStart => exact ⟨0, Nat.zero_le _, rfl, D1.out⟩
      case round =>
        obtain ⟨i, hi, rfl, hD⟩ := hrel
        rename World => ws
        have DS := Lib.hid hD.out
        clear hD
        by_cases hlt : i < N1
        · have kc : (i : Int) < (N1 : Int) := by omega
          have kwi := i_one hlt (by omega)
          have HI := Lib.hid hlt
          obtain ⟨n, hn⟩ : ∃ n, g.nn.getD i 0 = n := ⟨_, rfl⟩
          obtain ⟨m, hm⟩ : ∃ m, g.ms.getD i 0 = m := ⟨_, rfl⟩
          have HN := Lib.hid hn
          have HM := Lib.hid hm
          obtain ⟨_, mb, nb⟩ := FF.out.r i (by rw [E1.out]; exact hlt)
          rw [hm] at mb
          rw [hn] at nb
          have kwm := i_bits mb
          clear hn hm
          obtain ⟨z0, c0, z1, c1, z2, c2, gg, cap, e0, e1, e2, q0, q1, q2, hc⟩ := (HK.out.below DS.out).row_at FF.out E1.out HI.out HN.out HM.out

          go_wp2
          go_loopw [5] (fun t ws => ∃ j : Nat, j ≤ n + 80 ∧ t = .int .i64 (j : Int) ∧ RowKit.Hid (Below w.heap.size w ws)) (fun t _ => n + 80 - (intOf t).toNat)
          case atStart => exact ⟨0, Nat.zero_le _, rfl, DS.out⟩
          case round =>
            obtain ⟨j, hj, rfl, hD⟩ := hrel
            rename World => wt
            have DT := Lib.hid hD.out
            clear hD e0 e1 e2 q0 q1 q2
            obtain ⟨z0, c0, z1, c1, z2, c2, gg, cap, e0, e1, e2, q0, q1, q2, hc⟩ := (HK.out.below DT.out).row_at FF.out E1.out HI.out HN.out HM.out
            by_cases hjn : j < n + 80
            · have kj : (j : Int) < ((n + 80 : Nat) : Int) := by omega
              have kwj := i_one hjn (by omega)
              obtain ⟨o0, o1⟩ := OT.out _ DT.out
              clear hc
              have BA := Lib.hid (p := Below w.heap.size w (wt.alloc (.cells #[.bool true, .int .i64 99] 65))) (DT.out.alloc DT.out.size _)
              have HX := Lib.hid (World.alloc_heap_new wt (.cells #[.bool true, .int .i64 99] 65))
              obtain ⟨x0, x1, x2, x3⟩ := box_all2 HX.out
              obtain ⟨z0A, c0A, z1A, c1A, z2A, c2A, ggA, capA, e0A, e1A, e2A, q0A, q1A, q2A, hcA⟩ := (HK.out.below BA.out).row_at FF.out E1.out HI.out HN.out HM.out
              by_cases hjl : j < n
              · have kl : (j : Int) < (n : Int) := by omega
                have BC := Lib.hid (p := Below w.heap.size w (wt.alloc (.cells #[.bool true, .int .i64 (-1000 - m)] 65))) (DT.out.alloc DT.out.size _)
                have HC := Lib.hid (World.alloc_heap_new wt (.cells #[.bool true, .int .i64 (-1000 - m)] 65))
                obtain ⟨y0, y1, y2, y3⟩ := box_all2 HC.out
                obtain ⟨z0C, c0C, z1C, c1C, z2C, c2C, ggC, capC, e0C, e1C, e2C, q0C, q1C, q2C, hcC⟩ := (HK.out.below BC.out).row_at FF.out E1.out HI.out HN.out HM.out
                obtain ⟨d0, d1⟩ := hcC j hjn
                rw [if_pos hjl] at d1
                clear hcA hcC
                go_wp2
                go_region
                all_goals
                  go_wp2
                  go_roundw
                  case rel => exact ⟨j + 1, by omega, by go_num, below_eq BC.out rfl rfl rfl rfl⟩
                  case measure => simp [intOf]; omega
              · have kl : ¬ (j : Int) < (n : Int) := by omega
                obtain ⟨d0, d1⟩ := hcA j hjn
                rw [if_neg hjl] at d1
                clear hcA
                go_wp2
                go_region
                all_goals
                  go_wp2
                  go_roundw
                  case rel => exact ⟨j + 1, by omega, by go_num, below_eq BA.out rfl rfl rfl rfl⟩
                  case measure => simp [intOf]; omega
            · obtain rfl : j = n + 80 := by omega
              have kj : ¬ ((n + 80 : Nat) : Int) < ((n + 80 : Nat) : Int) := by omega
              clear hc
              go_wp2
              go_roundw
              case rel => exact ⟨i + 1, by omega, by go_num, DT.out⟩
              case measure => simp [intOf]; omega
        · obtain rfl : i = N1 := by omega
          have kc : ¬ (i : Int) < (i : Int) := by omega
          obtain ⟨x0, y0, s0⟩ := (HK.out.below DS.out).head (k := 0) (T := 50) (n := g.rv.length) (xs := g.rv) (by simp [Bg.fs])
          rw [E1.out] at s0
          go_wp2
          clear s0 kc
          have D1 := DS
          clear DS
          go_loopw [7] (fun t ws => ∃ i : Nat, i ≤ N2 ∧ t = .int .i64 (i : Int) ∧ RowKit.Hid (Below w.heap.size w ws)) (fun t _ => N2 - (intOf t).toNat)
          case atStart => exact ⟨0, Nat.zero_le _, rfl, D1.out⟩
          case round =>
            obtain ⟨i, hi, rfl, hD⟩ := hrel
            rename World => ws
            have DS := Lib.hid hD.out
            clear hD
            by_cases hlt : i < N2
            · have kc : (i : Int) < (N2 : Int) := by omega
              have kwi := i_one hlt (by omega)
              have HI := Lib.hid hlt
              obtain ⟨n, hn⟩ : ∃ n, g.fr.getD i 0 = n := ⟨_, rfl⟩
              have HN := Lib.hid hn
              obtain ⟨_, nb⟩ := FF.out.o i (by rw [E2.out]; exact hlt)
              rw [hn] at nb
              clear hn
              obtain ⟨z0, c0, z2, c2, gg, cap, e0, e2, q0, q2, hc⟩ := (HK.out.below DS.out).out_at FF.out E2.out HI.out HN.out

              go_wp2
              go_loopw [8] (fun t ws => ∃ j : Nat, j ≤ n + 20 ∧ t = .int .i64 (j : Int) ∧ RowKit.Hid (Below w.heap.size w ws)) (fun t _ => n + 20 - (intOf t).toNat)
              case atStart => exact ⟨0, Nat.zero_le _, rfl, DS.out⟩
              case round =>
                obtain ⟨j, hj, rfl, hD⟩ := hrel
                rename World => wt
                have DT := Lib.hid hD.out
                clear hD e0 e2 q0 q2
                obtain ⟨z0, c0, z2, c2, gg, cap, e0, e2, q0, q2, hc⟩ := (HK.out.below DT.out).out_at FF.out E2.out HI.out HN.out
                by_cases hjn : j < n + 20
                · have kj : (j : Int) < ((n + 20 : Nat) : Int) := by omega
                  have kwj := i_one hjn (by omega)
                  obtain ⟨ea, en, ec, d0, de⟩ := hc j hjn
                  clear hc
                  by_cases hjl : j < n
                  · have kl : (j : Int) < (n : Int) := by omega
                    have ee := de.2 hjl
                    subst ee
                    have ne := eql_rowz none en ec
                    clear de
                    go_wp2
                    go_region
                    all_goals
                      go_wp2
                      go_roundw
                      case rel => exact ⟨j + 1, by omega, by go_num, below_eq DT.out rfl rfl rfl rfl⟩
                      case measure => simp [intOf]; omega
                  · have kl : ¬ (j : Int) < (n : Int) := by omega
                    obtain ⟨b, eb⟩ : ∃ b, ea = some b := by
                      cases ea with
                      | none => exact absurd (de.1 rfl) hjl
                      | some b => exact ⟨b, rfl⟩
                    subst eb
                    have ne := eql_rowz (some b) en ec
                    clear de
                    go_wp2
                    go_region
                    all_goals
                      go_wp2
                      go_roundw
                      case rel => exact ⟨j + 1, by omega, by go_num, below_eq DT.out rfl rfl rfl rfl⟩
                      case measure => simp [intOf]; omega
                · obtain rfl : j = n + 20 := by omega
                  have kj : ¬ ((n + 20 : Nat) : Int) < ((n + 20 : Nat) : Int) := by omega
                  clear hc
                  go_wp2
                  go_roundw
                  case rel => exact ⟨i + 1, by omega, by go_num, DT.out⟩
                  case measure => simp [intOf]; omega
            · obtain rfl : i = N2 := by omega
              have kc : ¬ (i : Int) < (i : Int) := by omega
              obtain ⟨x0, y0, s0⟩ := (HK.out.below DS.out).head (k := 3) (T := 23) (n := g.ov.length) (xs := g.ov) (by simp [Bg.fs])
              rw [E2.out] at s0
              go_wp2
              clear s0 kc
              have D1 := DS
              clear DS
              go_loopw [9] (fun t ws => ∃ i : Nat, i ≤ N3 ∧ t = .int .i64 (i : Int) ∧ RowKit.Hid (Below w.heap.size w ws)) (fun t _ => N3 - (intOf t).toNat)
              case atStart => exact ⟨0, Nat.zero_le _, rfl, D1.out⟩
              case round =>
                obtain ⟨i, hi, rfl, hD⟩ := hrel
                rename World => ws
                have DS := Lib.hid hD.out
                clear hD
                by_cases hlt : i < N3
                · have kc : (i : Int) < (N3 : Int) := by omega
                  have kwi := i_one hlt (by omega)
                  have HI := Lib.hid hlt
                  obtain ⟨n, hn⟩ : ∃ n, g.lg.getD i 0 = n := ⟨_, rfl⟩
                  obtain ⟨m, hm⟩ : ∃ m, g.sy.getD i default = m := ⟨_, rfl⟩
                  have HN := Lib.hid hn
                  have HM := Lib.hid hm
                  obtain ⟨_, nb⟩ := FF.out.n i (by rw [E3.out]; exact hlt)
                  rw [hn] at nb
                  clear hn hm
                  obtain ⟨z0, c0, z1, c1, z2, c2, gg, cap, e0, e1, e2, q0, q1, q2, hc⟩ := (HK.out.below DS.out).nam_at FF.out E3.out HI.out HN.out HM.out

                  go_wp2
                  go_loopw [10] (fun t ws => ∃ j : Nat, j ≤ n + 70 ∧ t = .int .i64 (j : Int) ∧ RowKit.Hid (Below w.heap.size w ws)) (fun t _ => n + 70 - (intOf t).toNat)
                  case atStart => exact ⟨0, Nat.zero_le _, rfl, DS.out⟩
                  case round =>
                    obtain ⟨j, hj, rfl, hD⟩ := hrel
                    rename World => wt
                    have DT := Lib.hid hD.out
                    clear hD e0 e1 e2 q0 q1 q2
                    obtain ⟨z0, c0, z1, c1, z2, c2, gg, cap, e0, e1, e2, q0, q1, q2, hc⟩ := (HK.out.below DT.out).nam_at FF.out E3.out HI.out HN.out HM.out
                    by_cases hjn : j < n + 70
                    · have kj : (j : Int) < ((n + 70 : Nat) : Int) := by omega
                      have kwj := i_one hjn (by omega)
                      have d0 := hc j hjn
                      clear hc
                      by_cases hjl : j < n
                      · have kl : (j : Int) < (n : Int) := by omega
                        rw [if_pos hjl] at d0
                        go_wp2
                        go_roundw
                        case rel => exact ⟨j + 1, by omega, by go_num, DT.out⟩
                        case measure => simp [intOf]; omega
                      · have kl : ¬ (j : Int) < (n : Int) := by omega
                        rw [if_neg hjl] at d0
                        unfold othS at d0
                        go_wp2
                        go_roundw
                        case rel => exact ⟨j + 1, by omega, by go_num, DT.out⟩
                        case measure => simp [intOf]; omega
                    · obtain rfl : j = n + 70 := by omega
                      have kj : ¬ ((n + 70 : Nat) : Int) < ((n + 70 : Nat) : Int) := by omega
                      clear hc
                      go_wp2
                      go_roundw
                      case rel => exact ⟨i + 1, by omega, by go_num, DT.out⟩
                      case measure => simp [intOf]; omega
                · obtain rfl : i = N3 := by omega
                  have kc : ¬ (i : Int) < (i : Int) := by omega
                  obtain ⟨x0, y0, s0⟩ := (HK.out.below DS.out).head (k := 5) (T := 27) (n := g.nv.length) (xs := g.nv) (by simp [Bg.fs])
                  rw [E3.out] at s0
                  go_wp2
                  clear s0 kc
                  have D1 := DS
                  clear DS
                  go_loopw [12] (fun t ws => ∃ i : Nat, i ≤ N4 ∧ t = .int .i64 (i : Int) ∧ RowKit.Hid (Below w.heap.size w ws)) (fun t _ => N4 - (intOf t).toNat)
                  case atStart => exact ⟨0, Nat.zero_le _, rfl, D1.out⟩
                  case round =>
                    obtain ⟨i, hi, rfl, hD⟩ := hrel
                    rename World => ws
                    have DS := Lib.hid hD.out
                    clear hD
                    by_cases hlt : i < N4
                    · have kc : (i : Int) < (N4 : Int) := by omega
                      have kwi := i_one hlt (by omega)
                      have HI := Lib.hid hlt
                      obtain ⟨n, hn⟩ : ∃ n, g.wd.getD i 0 = n := ⟨_, rfl⟩
                      obtain ⟨m, hm⟩ : ∃ m, g.tl.getD i 0 = m := ⟨_, rfl⟩
                      have HN := Lib.hid hn
                      have HM := Lib.hid hm
                      obtain ⟨_, mb, nb⟩ := FF.out.p i (by rw [E4.out]; exact hlt)
                      rw [hm] at mb
                      rw [hn] at nb
                      have kwm := i_bits mb
                      clear hn hm
                      obtain ⟨z0, c0, z1, c1, z2, c2, gg, cap, e0, e1, e2, q0, q1, q2, hc⟩ := (HK.out.below DS.out).pai_at FF.out E4.out HI.out HN.out HM.out

                      go_wp2
                      go_loopw [13] (fun t ws => ∃ j : Nat, j ≤ n + 70 ∧ t = .int .i64 (j : Int) ∧ RowKit.Hid (Below w.heap.size w ws)) (fun t _ => n + 70 - (intOf t).toNat)
                      case atStart => exact ⟨0, Nat.zero_le _, rfl, DS.out⟩
                      case round =>
                        obtain ⟨j, hj, rfl, hD⟩ := hrel
                        rename World => wt
                        have DT := Lib.hid hD.out
                        clear hD e0 e1 e2 q0 q1 q2
                        obtain ⟨z0, c0, z1, c1, z2, c2, gg, cap, e0, e1, e2, q0, q1, q2, hc⟩ := (HK.out.below DT.out).pai_at FF.out E4.out HI.out HN.out HM.out
                        by_cases hjn : j < n + 70
                        · have kj : (j : Int) < ((n + 70 : Nat) : Int) := by omega
                          have kwj := i_one hjn (by omega)
                          clear hc
                          have BA := Lib.hid (p := Below w.heap.size w (wt.alloc (.cells #[.string ⟨#[]⟩, .int .i64 99] 67))) (DT.out.alloc DT.out.size _)
                          have HX := Lib.hid (World.alloc_heap_new wt (.cells #[.string ⟨#[]⟩, .int .i64 99] 67))
                          obtain ⟨x0, x1, x2, x3⟩ := box_all2 HX.out
                          obtain ⟨z0A, c0A, z1A, c1A, z2A, c2A, ggA, capA, e0A, e1A, e2A, q0A, q1A, q2A, hcA⟩ := (HK.out.below BA.out).pai_at FF.out E4.out HI.out HN.out HM.out
                          by_cases hjl : j < n
                          · have kl : (j : Int) < (n : Int) := by omega
                            have BC := Lib.hid (p := Below w.heap.size w (wt.alloc (.cells #[.string ⟨#[]⟩, .int .i64 (-1000 - m)] 67))) (DT.out.alloc DT.out.size _)
                            have HC := Lib.hid (World.alloc_heap_new wt (.cells #[.string ⟨#[]⟩, .int .i64 (-1000 - m)] 67))
                            obtain ⟨y0, y1, y2, y3⟩ := box_all2 HC.out
                            obtain ⟨z0C, c0C, z1C, c1C, z2C, c2C, ggC, capC, e0C, e1C, e2C, q0C, q1C, q2C, hcC⟩ := (HK.out.below BC.out).pai_at FF.out E4.out HI.out HN.out HM.out
                            obtain ⟨d0, d1⟩ := hcC j hjn
                            rw [if_pos hjl] at d1
                            clear hcA hcC
                            go_wp2
                            go_region
                            all_goals
                              go_wp2
                              go_roundw
                              case rel => exact ⟨j + 1, by omega, by go_num, below_eq BC.out rfl rfl rfl rfl⟩
                              case measure => simp [intOf]; omega
                          · have kl : ¬ (j : Int) < (n : Int) := by omega
                            obtain ⟨d0, d1⟩ := hcA j hjn
                            rw [if_neg hjl] at d1
                            clear hcA
                            go_wp2
                            go_region
                            all_goals
                              go_wp2
                              go_roundw
                              case rel => exact ⟨j + 1, by omega, by go_num, below_eq BA.out rfl rfl rfl rfl⟩
                              case measure => simp [intOf]; omega
                        · obtain rfl : j = n + 70 := by omega
                          have kj : ¬ ((n + 70 : Nat) : Int) < ((n + 70 : Nat) : Int) := by omega
                          clear hc
                          go_wp2
                          go_roundw
                          case rel => exact ⟨i + 1, by omega, by go_num, DT.out⟩
                          case measure => simp [intOf]; omega
                    · obtain rfl : i = N4 := by omega
                      have kc : ¬ (i : Int) < (i : Int) := by omega
                      obtain ⟨x0, y0, s0⟩ := (HK.out.below DS.out).head (k := 8) (T := 63) (n := g.pv.length) (xs := g.pv) (by simp [Bg.fs])
                      rw [E4.out] at s0
                      go_wp2
                      clear s0 kc
                      have D1 := DS
                      clear DS
                      go_ret
                      exact ⟨rfl, D1.out⟩
end Go.Proofs.YtldplmchgmoopaaDoor

namespace Go.Proofs.YtldplmchgmoopaaDoor
open Go.RowKit
set_option linter.unusedVariables false
set_option linter.unusedSimpArgs false

theorem BkS.permX {W : World} {B bk : Nat} {late : Bool} {N : Nat} {X X' : List (Nat × Obj)} (h : BkS W B bk late N X) (p : X.Perm X') : BkS W B bk late N X' := by
  obtain ⟨vs, g, sE, SR, SN, SP, mark, h1, h2⟩ := h
  refine ⟨vs, g, sE, SR, SN, SP, mark, ⟨BkI.perm h1.I.b h1.I.nd ?_ h1.I.ev, h1.l⟩, h2⟩
  exact List.Perm.append_left _ (List.Perm.append_left _ (List.Perm.append_left _ (List.Perm.append_left _ p)))
theorem BkS.mono {W : World} {B bk : Nat} {late : Bool} {N M : Nat} {X : List (Nat × Obj)} (h : BkS W B bk late N X) (k : N ≤ M) : BkS W B bk late M X := by
  obtain ⟨vs, g, sE, SR, SN, SP, mark, h1, h2, h3⟩ := h
  exact ⟨vs, g, sE, SR, SN, SP, mark, h1, h2.mono (by omega) k, h3⟩
/-- New blocks of two kinds are kept. -/
theorem BkS.keep2 {W0 W : World} {B bk : Nat} {late : Bool} {N : Nat} {X : List (Nat × Obj)} (h : BkS W0 B bk late N X) (b : Below W0.heap.size W0 W) (L M : List (Nat × Obj)) (hL : ∀ p ∈ L, W.heap[p.1]? = some p.2 ∧ W0.heap.size ≤ p.1) (hM : ∀ p ∈ M, W.heap[p.1]? = some p.2 ∧ W0.heap.size ≤ p.1) (ne : ∀ p ∈ L, ∀ q ∈ M, p.1 ≠ q.1) : ∃ Y Z, BkS W B bk late N (Y ++ (Z ++ X)) ∧ (∀ p ∈ L, p ∈ Y) ∧ ∀ p ∈ M, p ∈ Z := by
  obtain ⟨vs, g, sE, SR, SN, SP, mark, h1, h2⟩ := h
  have h3 := h1.below b
  obtain ⟨Z, k1, k2, k3, k4⟩ := h3.I.b.leaveS M (fun p hp => ⟨(hM p hp).1, h1.I.b.o.new (hM p hp).2⟩)
  obtain ⟨Y, m1, m2, m3, m4⟩ := k1.leaveS L (fun p hp => ⟨(hL p hp).1, by
    have f := h1.I.b.o.new (hL p hp).2
    refine ⟨f.1, f.2.1, fun q hq e => ?_⟩
    rcases List.mem_append.1 hq with r | r
    · exact ne p hp q (k3 q r) e.symm
    · exact f.2.2 q r e⟩)
  refine ⟨Y, Z, ⟨vs, g, sE, SR, SN, SP, mark, ⟨BkI.perm m1 (m4 (k4 h3.I.nd)) ?_ h3.I.ev, h3.l⟩, h2⟩, m2, k2⟩
  have := (perm_out (sE ++ (restS SR 0 ++ (restS SN 0 ++ restS SP 0))) (Y ++ Z) X).symm
  simpa [List.append_assoc] using this
theorem RawV.imp {w : World} {g : Bg} {L L' : Prop} (h : RawV w g L) (k : L' → L) : RawV w g L' := by
  refine ⟨h.lr, h.ln, h.lp, fun m hm => ?_, fun m hm => ?_, fun m hm => ?_⟩
  · obtain ⟨a, n, c, b, m', d, rs, qs, e1, e2, e3, e4, e5⟩ := h.r m hm
    exact ⟨a, n, c, b, m', d, rs, qs, e1, e2, e3, e4, fun z => e5 (k z)⟩
  · obtain ⟨a, n, c, b, m', d, rs, qs, e1, e2, e3, e4, e5⟩ := h.n m hm
    exact ⟨a, n, c, b, m', d, rs, qs, e1, e2, e3, e4, fun z => e5 (k z)⟩
  · obtain ⟨a, n, c, b, m', d, rs, qs, e1, e2, e3, e4, e5⟩ := h.p m hm
    exact ⟨a, n, c, b, m', d, rs, qs, e1, e2, e3, e4, fun z => e5 (k z)⟩
/-- kept. -/
theorem kept_S (B bk : Nat) (late : Bool) (N : Nat) (X : List (Nat × Obj)) (w : World) (h : BkS w B bk late N X) (hN : N ≤ 40000000) (G : Gl B bk w) (hB : B ≤ w.heap.size) :
    Calls Tryd.prog 9 #[.pointer (some ⟨bk, 0, none⟩)] w fun e w' => e = .returned (.bool true) ∧ Below w.heap.size w w' := by
  obtain ⟨vs, g, sE, SR, SN, SP, mark, h1, h2, h3⟩ := h
  exact kept_any B bk vs g _ mark late w h1.I.b (h1.view.imp (fun _ => ⟨rfl, rfl, rfl⟩)) (h1.I.ev.more (fun p hp => List.mem_append.2 (.inl hp))) G.ot (Nat.lt_of_lt_of_le G.lt.1 hB) ⟨by have := h2.rr; omega, by have := h2.rn; omega, by have := h2.rp; omega⟩ ⟨by have := h2.r; omega, by have := h2.o; omega, by have := h2.n; omega, by have := h2.p; omega⟩
set_option maxRecDepth 100000 in
set_option maxHeartbeats 4000000 in
theorem table_X (B bk : Nat) (late : Bool) (N : Nat) (an ar : Option Addr) (ln cn lr cr : Nat) (ns : List ByteArray) (qs : List Rw) (w0 w : World) (h : BkS w0 B bk late N []) (b : Below w0.heap.size w0 w) (hN : N ≤ 30000000) (hB : B ≤ w0.heap.size) (o1 : w.ownsRow w0.heap.size 9 1 (.slice an ln cn) ln (ns.map Value.string)) (o2 : RwO w w0.heap.size (.slice ar lr cr) qs) (G : Gl B bk w)
    (hn : ln ≤ 1000000) (hs : ∀ s ∈ ns, s.size ≤ 140737488351232) (hr : lr ≤ 4096) (hq : ∀ q ∈ qs, q.cs.length ≤ 2000000 ∧ ∀ c ∈ q.cs, (Lit.int .i64 c.v).wf = true) :
    Calls Tryd.prog 7 #[.pointer (some ⟨bk, 0, none⟩), .agg #[.slice an ln cn, .slice ar lr cr]] w fun e w' => e = .returned (.tuple #[]) ∧ BkS w' B bk late (N + 2) [] ∧ Fr B bk w w' := by
  have hl : ∀ q ∈ qs, q.cs.length ≤ 2000000 := fun q hq' => (hq q hq').1
  have hBw : B ≤ w.heap.size := Nat.le_trans hB b.size
  have tyN : ∀ p ∈ blkL w (.slice an ln cn), w.heap[p.1]? = some p.2 ∧ w0.heap.size ≤ p.1 ∧ ∃ cur, w.heap[p.1]? = some (.cells cur 9) := fun p hp => by
    obtain ⟨e1, e2⟩ := blkL_is o1 p hp
    exact ⟨e2, (o1.lt _ e1).1, own_blk o1 e1⟩
  have tyR : ∀ p ∈ blkL w (.slice ar lr cr) ++ qs.flatMap (fun q => blkL w (qv q)), w.heap[p.1]? = some p.2 ∧ w0.heap.size ≤ p.1 ∧ ((∃ cur, w.heap[p.1]? = some (.cells cur 50)) ∨ ∃ cur, w.heap[p.1]? = some (.cells cur 65)) := fun p hp => by
    rcases List.mem_append.1 hp with r | r
    · obtain ⟨e1, e2⟩ := blkL_is o2.own p r
      exact ⟨e2, (o2.own.lt _ e1).1, .inl (own_blk o2.own e1)⟩
    · obtain ⟨q, hq', r⟩ := List.mem_flatMap.1 r
      obtain ⟨e1, e2⟩ := blkL_is (q_own (o2.ok q hq') (hl q hq')) p r
      exact ⟨e2, ((q_own (o2.ok q hq') (hl q hq')).lt _ e1).1, .inr (own_blk (q_own (o2.ok q hq') (hl q hq')) e1)⟩
  obtain ⟨Y, Z, k1, k2, k3⟩ := h.keep2 b (blkL w (.slice ar lr cr) ++ qs.flatMap (fun q => blkL w (qv q))) (blkL w (.slice an ln cn)) (fun p hp => ⟨(tyR p hp).1, (tyR p hp).2.1⟩) (fun p hp => ⟨(tyN p hp).1, (tyN p hp).2.1⟩) (fun p hp q hq' e => by
    obtain ⟨_, _, cur, t1⟩ := tyN q hq'
    rcases (tyR p hp).2.2 with ⟨cu, t2⟩ | ⟨cu, t2⟩
    · exact blk_ty t2 t1 (by decide) e
    · exact blk_ty t2 t1 (by decide) e)
  obtain ⟨wb, hwb⟩ : ∃ u, w.alloc (.cells #[.slice an ln cn, .slice ar lr cr] 32) = u := ⟨_, rfl⟩
  have bb : Below w.heap.size w wb := by rw [← hwb]; exact below_al w _
  have hbx : wb.heap[w.heap.size]? = some (.cells #[.slice an ln cn, .slice ar lr cr] 32) := by rw [← hwb]; exact World.alloc_heap_new w _
  obtain ⟨V, j1, j2⟩ := k1.keep bb [(w.heap.size, .cells #[.slice an ln cn, .slice ar lr cr] 32)] (fun p hp => by
    rw [List.mem_singleton.1 hp]
    exact ⟨hbx, Nat.le_refl _⟩)
  have j3 : BkS wb B bk late N (Y ++ (V ++ Z)) := j1.permX (by
    have := perm_out V Y Z
    simpa using this)
  have O2 := RwO.mono (o2.below bb) hB
  have Gb := G.fr (Fr.below (bk := bk) bb hBw)
  have ob : ∀ q ∈ qs, ∀ z, q.a = some ⟨z, 0, none⟩ → (qv q).ownBlock = some z := fun q _ z e => by unfold qv; rw [e]; rfl
  have KR := Lib.hid (rows_X B bk late N Y (V ++ Z) ar lr cr qs wb j3 (by omega) (Nat.le_trans hBw bb.size) O2 (fun z e => by
    obtain ⟨obj, m, _⟩ := blkL_has o2.own e
    exact List.mem_map.2 ⟨_, k2 _ (List.mem_append.2 (.inl m)), rfl⟩) (fun q hq' z e => by
    obtain ⟨obj, m, _⟩ := blkL_has (q_own (o2.ok q hq') (hl q hq')) (ob q hq' z e)
    exact List.mem_map.2 ⟨_, k2 _ (List.mem_append.2 (.inr (List.mem_flatMap.2 ⟨q, hq', m⟩))), rfl⟩) Gb hr hq)
  have KN := Lib.hid (p := ∀ W, BkS W B bk late (N + 1) (V ++ Z) → Fr B bk wb W → Calls Tryd.prog 21 #[.pointer (some ⟨bk, 0, none⟩), .slice an ln cn] W fun e w' => e = .returned (.tuple #[]) ∧ BkS w' B bk late (N + 1 + 1) [] ∧ Fr B bk W w') (fun W hW fW => by
    have hol := hW.hol
    have oW : W.ownsRow w0.heap.size 9 1 (.slice an ln cn) ln (ns.map Value.string) := own_keep o1 (fun z hz => by
      obtain ⟨ob, m, e⟩ := blkL_has o1 hz
      rw [e]
      exact hol _ (List.mem_append.2 (.inr (k3 _ m))))
    exact names_X B bk late (N + 1) (V ++ Z) [] an ln cn ns W (by rw [List.append_nil]; exact hW) (by omega) (Nat.le_trans (Nat.le_trans hBw bb.size) fW.size) (own_mono oW hB) (fun z e => by
      obtain ⟨obj, m, _⟩ := blkL_has o1 e
      exact List.mem_map.2 ⟨_, List.mem_append.2 (.inr (k3 _ m)), rfl⟩) hn hs)
  have BX := Lib.hid (p := ∀ W, BkS W B bk late (N + 1) (V ++ Z) → W.cell? ⟨w.heap.size, 0, none⟩ = some (.slice an ln cn) ∧ W.cell? ⟨w.heap.size, 1, none⟩ = some (.slice ar lr cr)) (fun W hW => by
    have := box_all2 (hW.hol _ (List.mem_append.2 (.inl (j2 _ (List.mem_singleton.2 rfl)))))
    exact ⟨this.1, this.2.1⟩)
  have FB := Lib.hid (Fr.below (bk := bk) bb hBw)
  obtain ⟨x0, x1, _, _⟩ := box_all2 hbx
  clear h b o1 o2 tyN tyR k1 k2 k3 j1 j2 j3 O2 Gb ob hbx bb hs hq hl hB hBw G hN hn hr
  subst hwb
  go_enter Tryd.func7, Tryd.ntmps7
  clear x0 x1
  go_wp2_with (first
    | (go_at_call 20; refine KR.out.mono ?_; rintro e w2 ⟨rfl, hS, hF⟩; have S2 := Lib.hid hS; have F2 := Lib.hid hF; obtain ⟨y0, y1⟩ := BX.out w2 hS; clear hS hF)
    | (go_at_call 21; refine (KN.out w2 S2.out F2.out).mono ?_; rintro e w3 ⟨rfl, hS, hF⟩; have S3 := Lib.hid hS; have F3 := Lib.hid hF; clear hS hF))
  go_end0
  exact ⟨rfl, S3.out.mono (by omega), (FB.out.trans F2.out).trans F3.out⟩
end Go.Proofs.YtldplmchgmoopaaDoor

namespace Go.Proofs.YtldplmchgmoopaaDoor
open Go.RowKit
set_option linter.unusedVariables false
set_option linter.unusedSimpArgs false

/-- The book is late no more. -/
theorem Bk.unlate {W : World} {B bk : Nat} {vs : List Value} {g : Bg} {sn : List (Nat × Obj)} {mark : Int} {late : Bool} (h : Bk W B bk vs g sn mark late) (l : Bool) : Bk (W.setCell ⟨bk, 12, none⟩ (.bool l)) B bk (vs.set 12 (.bool l)) g sn mark l := by
  refine ⟨h.o.set 12 _ (fun f hf => (g.keys f hf).2), ?_, ?_⟩
  · rw [← h.mt]
    simp only [List.getD]
    rw [List.getElem?_set_ne (by omega)]
  · have : 12 < vs.length := by rw [h.o.hl]; omega
    simp [List.getD, this]
def StE (B bk : Nat) (SR SN SP : List (List (Nat × Obj))) (i j k : Nat) (N M : Nat) (w : World) : Prop := ∃ vs g sE mark, BkL w B bk vs g sE SR SN SP i j k [] mark false ∧ Sz g mark N M
theorem own_some {W : World} {B n c s : Nat} {E : TypeId} {a : Option Addr} {xs : List Value} (h : W.ownsRow B E s (.slice a n c) n xs) : n = 0 ∨ ∃ z, a = some ⟨z, 0, none⟩ := by
  rcases h.2 with ⟨e, e0⟩ | ⟨g, cap, cur, e, _⟩
  · exact .inl e0
  · injection e with e1; exact .inr ⟨g, e1⟩
theorem settle_r (B bk : Nat) (SR SN SP : List (List (Nat × Obj))) (i j k N M : Nat) (vs : List Value) (g : Bg) (sE : List (Nat × Obj)) (mark : Int) (w : World) (h : BkL w B bk vs g sE SR SN SP i j k [] mark false) (hs : Sz g mark N M) (hi : i < SR.length) (hN : N ≤ 900000000000) (hB : B ≤ w.heap.size) (G : Gl B bk w) (v : Value) (hv : g.rr.getD i default = v) :
    Calls Tryd.prog 20 #[.pointer (some ⟨bk, 0, none⟩), v] w fun e w' => e = .returned (.tuple #[]) ∧ StE B bk SR SN SP (i + 1) j k (N + 5000) M w' ∧ Fr B bk w w' := by
  obtain ⟨a, n, c, qs, B1, qs1, e1, e2, e3, e4, e5, e6, e7, e8⟩ := h.l.r i hi
  rw [hv] at e1 e5
  subst e1
  have sg := e5 (by omega)
  have p : (sE ++ (restS SR i ++ (restS SN j ++ (restS SP k ++ [])))).Perm (SR.getD i [] ++ (sE ++ (restS SR (i + 1) ++ (restS SN j ++ (restS SP k ++ []))))) := by
    rw [restS_at hi, List.append_assoc]
    exact perm_out sE (SR.getD i []) _
  obtain ⟨b, nd, fz, hol⟩ := h.I.b.take h.I.nd p
  have ro := sg.1 w hol
  refine (rows_I B bk vs g sE _ mark N M a n c qs w ⟨b, nd, h.I.ev⟩ hs hN hB ro ⟨fun z e => fz z (sg.2.1 z e), fun q hq z e => fz z (sg.2.2 q hq z e)⟩ G.ot G.lt (by omega) (fun q hq => (e4 q hq).1)).mono ?_
  rintro e w' ⟨rfl, vs', g', sE', mark', k1, k2, k3, k4, k5, k6⟩
  refine ⟨rfl, ⟨vs', g', sE', mark', ⟨k1, ?_⟩, k4.mono (by omega) (Nat.le_refl _)⟩, k6⟩
  have l := h.l.same k3 k2
  refine ⟨l.r1, l.r2, l.n1, l.n2, l.p1, l.p2, fun m hm => ?_, l.n, l.p⟩
  by_cases q : m = i
  · subst q
    rw [k3.rr, k3.wr, hv]
    exact ⟨a, n, c, qs, B1, qs1, rfl, e2, e3, e4, fun z => absurd (Nat.lt_succ_self m) z, fun _ => ⟨k5, own_some (by have := ro.own; rwa [e2] at this)⟩, fun W hW => e7 W (hW.sub k2), e8⟩
  · exact (l.r m hm).more (fun p hp => hp) (by omega)
theorem settle_n (B bk : Nat) (SR SN SP : List (List (Nat × Obj))) (i j k N M : Nat) (vs : List Value) (g : Bg) (sE : List (Nat × Obj)) (mark : Int) (w : World) (h : BkL w B bk vs g sE SR SN SP i j k [] mark false) (hs : Sz g mark N M) (hi : j < SN.length) (hN : N ≤ 900000000000) (hB : B ≤ w.heap.size) (v : Value) (hv : g.rn.getD j default = v) :
    Calls Tryd.prog 21 #[.pointer (some ⟨bk, 0, none⟩), v] w fun e w' => e = .returned (.tuple #[]) ∧ StE B bk SR SN SP i (j + 1) k (N + 5000) M w' ∧ Fr B bk w w' := by
  obtain ⟨a, n, c, ss, B1, e1, e2, e3, e4, e5, e6, e7⟩ := h.l.n j hi
  rw [hv] at e1 e5
  subst e1
  have sg := e5 (by omega)
  have p : (sE ++ (restS SR i ++ (restS SN j ++ (restS SP k ++ [])))).Perm (SN.getD j [] ++ (sE ++ (restS SR i ++ (restS SN (j + 1) ++ (restS SP k ++ []))))) := by
    rw [restS_at hi]
    have := perm_out (sE ++ restS SR i) (SN.getD j []) (restS SN (j + 1) ++ (restS SP k ++ []))
    simpa [List.append_assoc] using this
  obtain ⟨b, nd, fz, hol⟩ := h.I.b.take h.I.nd p
  have ro := sg.1 w hol
  refine (names_I B bk vs g sE _ mark N M a n c _ w ⟨b, nd, h.I.ev⟩ hs hN hB ro (fun z e => fz z (sg.2 z e)) e3).mono ?_
  rintro e w' ⟨rfl, vs', g', sE', mark', k1, k2, k3, k4, k5, k6⟩
  refine ⟨rfl, ⟨vs', g', sE', mark', ⟨k1, ?_⟩, k4.mono (by omega) (Nat.le_refl _)⟩, k6⟩
  have l := h.l.same k3 k2
  refine ⟨l.r1, l.r2, l.n1, l.n2, l.p1, l.p2, l.r, fun m hm => ?_, l.p⟩
  by_cases q : m = j
  · subst q
    rw [k3.rn, k3.wn, hv]
    exact ⟨a, n, c, ss, B1, rfl, e2, e3, e4, fun z => absurd (Nat.lt_succ_self m) z, fun _ => ⟨k5, own_some ro⟩, fun W hW => e7 W (hW.sub k2)⟩
  · exact (l.n m hm).more (fun p hp => hp) (by omega)
theorem settle_p (B bk : Nat) (SR SN SP : List (List (Nat × Obj))) (i j k N M : Nat) (vs : List Value) (g : Bg) (sE : List (Nat × Obj)) (mark : Int) (w : World) (h : BkL w B bk vs g sE SR SN SP i j k [] mark false) (hs : Sz g mark N M) (hi : k < SP.length) (hN : N ≤ 900000000000) (hB : B ≤ w.heap.size) (v : Value) (hv : g.rp.getD k default = v) :
    Calls Tryd.prog 23 #[.pointer (some ⟨bk, 0, none⟩), v] w fun e w' => e = .returned (.tuple #[]) ∧ StE B bk SR SN SP i j (k + 1) (N + 5000) M w' ∧ Fr B bk w w' := by
  obtain ⟨a, n, c, ss, B1, e1, e2, e3, e5, e6, e7⟩ := h.l.p k hi
  rw [hv] at e1 e5
  subst e1
  have sg := e5 (by omega)
  have p : (sE ++ (restS SR i ++ (restS SN j ++ (restS SP k ++ [])))).Perm (SP.getD k [] ++ (sE ++ (restS SR i ++ (restS SN j ++ (restS SP (k + 1) ++ []))))) := by
    rw [restS_at hi]
    have := perm_out (sE ++ (restS SR i ++ restS SN j)) (SP.getD k []) (restS SP (k + 1) ++ [])
    simpa [List.append_assoc] using this
  obtain ⟨b, nd, fz, hol⟩ := h.I.b.take h.I.nd p
  have ro := sg.1 w hol
  refine (pairs_I B bk vs g sE _ mark N M a n c ss w ⟨b, nd, h.I.ev⟩ hs hN hB ro (fun z e => fz z (sg.2 z e)) (by omega)).mono ?_
  rintro e w' ⟨rfl, vs', g', sE', mark', k1, k2, k3, k4, k5, k6⟩
  refine ⟨rfl, ⟨vs', g', sE', mark', ⟨k1, ?_⟩, k4.mono (by omega) (Nat.le_refl _)⟩, k6⟩
  have l := h.l.same k3 k2
  refine ⟨l.r1, l.r2, l.n1, l.n2, l.p1, l.p2, l.r, l.n, fun m hm => ?_⟩
  by_cases q : m = k
  · subst q
    rw [k3.rp, k3.wp, hv]
    exact ⟨a, n, c, ss, B1, rfl, e2, e3, fun z => absurd (Nat.lt_succ_self m) z, fun _ => ⟨k5, own_some ro⟩, fun W hW => e7 W (hW.sub k2)⟩
  · exact (l.p m hm).more (fun p hp => hp) (by omega)
/-- A field of the book, and one of its list. -/
theorem BkL.rr_at {W : World} {B bk : Nat} {vs : List Value} {g : Bg} {sE : List (Nat × Obj)} {SR SN SP : List (List (Nat × Obj))} {i j k : Nat} {X : List (Nat × Obj)} {mark : Int} {late : Bool} (h : BkL W B bk vs g sE SR SN SP i j k X mark late) : (∃ a c, W.cell? ⟨bk, 13, none⟩ = some (.slice a SR.length c) ∧ ∀ m, m < SR.length → ∃ z x n d, a = some ⟨z, 0, none⟩ ∧ W.cell? ⟨z, m, none⟩ = some (.slice x n d) ∧ g.rr.getD m default = .slice x n d) ∧ (∃ a c, W.cell? ⟨bk, 15, none⟩ = some (.slice a SN.length c) ∧ ∀ m, m < SN.length → ∃ z x n d, a = some ⟨z, 0, none⟩ ∧ W.cell? ⟨z, m, none⟩ = some (.slice x n d) ∧ g.rn.getD m default = .slice x n d) ∧ (∃ a c, W.cell? ⟨bk, 17, none⟩ = some (.slice a SP.length c) ∧ ∀ m, m < SP.length → ∃ z x n d, a = some ⟨z, 0, none⟩ ∧ W.cell? ⟨z, m, none⟩ = some (.slice x n d) ∧ g.rp.getD m default = .slice x n d) := by
  refine ⟨?_, ?_, ?_⟩
  · obtain ⟨a, c, e, q⟩ := h.I.b.at_list (k := 13) (T := 23) (xs := g.rr) (n := g.rr.length) (by simp [Bg.fs]) rfl
    rw [h.l.r1] at e q
    refine ⟨a, c, e, fun m hm => ?_⟩
    obtain ⟨x, n, d, _, _, _, e1, _⟩ := h.l.r m hm
    rcases q with q | ⟨z, ez, q⟩
    · omega
    · have := q m hm
      rw [e1] at this
      exact ⟨z, x, n, d, ez, this, e1⟩
  · obtain ⟨a, c, e, q⟩ := h.I.b.at_list (k := 15) (T := 27) (xs := g.rn) (n := g.rn.length) (by simp [Bg.fs]) rfl
    rw [h.l.n1] at e q
    refine ⟨a, c, e, fun m hm => ?_⟩
    obtain ⟨x, n, d, _, _, e1, _⟩ := h.l.n m hm
    rcases q with q | ⟨z, ez, q⟩
    · omega
    · have := q m hm
      rw [e1] at this
      exact ⟨z, x, n, d, ez, this, e1⟩
  · obtain ⟨a, c, e, q⟩ := h.I.b.at_list (k := 17) (T := 63) (xs := g.rp) (n := g.rp.length) (by simp [Bg.fs]) rfl
    rw [h.l.p1] at e q
    refine ⟨a, c, e, fun m hm => ?_⟩
    obtain ⟨x, n, d, _, _, e1, _⟩ := h.l.p m hm
    rcases q with q | ⟨z, ez, q⟩
    · omega
    · have := q m hm
      rw [e1] at this
      exact ⟨z, x, n, d, ez, this, e1⟩
set_option maxRecDepth 100000 in
set_option maxHeartbeats 8000000 in
theorem settled_any (B bk : Nat) (K : Nat) (w : World) (h : BkS w B bk true K []) (hK : K ≤ 40000000) (hB : B ≤ w.heap.size) (G : Gl B bk w) :
    Calls Tryd.prog 8 #[.pointer (some ⟨bk, 0, none⟩)] w fun e w' => e = .returned (.bool true) ∧ Fr B bk w w' := by
  obtain ⟨vs, g, sE, SR, SN, SP, mark, h1, h2, _⟩ := h
  have KR := Lib.hid (raw_any B bk vs g _ mark true (0 = 0 ∧ 0 = 0 ∧ 0 = 0) w h1.I.b h1.view ⟨by have := h2.rr; omega, by have := h2.rn; omega, by have := h2.rp; omega⟩)
  have lR : SR.length ≤ K := by have := h2.rr; rw [h1.l.r1] at this; exact this
  have lN : SN.length ≤ K := by have := h2.rn; rw [h1.l.n1] at this; exact this
  have lP : SP.length ≤ K := by have := h2.rp; rw [h1.l.p1] at this; exact this
  have ST := Lib.hid (p := ∀ q, StE B bk SR SN SP 0 0 0 (5000 * K) K ((w.drewN q).setCell ⟨bk, 12, none⟩ (.bool false)) ∧ Fr B bk w ((w.drewN q).setCell ⟨bk, 12, none⟩ (.bool false)) ∧ (w.drewN q).cell? ⟨bk, 12, none⟩ = some (.bool true) ∧ (w.drewN q).frozen? ⟨bk, 12, none⟩ = false) (fun q => by
    have hd := h1.below (drewN_below w q)
    refine ⟨⟨_, g, sE, mark, ⟨⟨hd.I.b.unlate false, hd.I.nd, hd.I.ev⟩, hd.l⟩, h2⟩, (Fr.below (drewN_below w q) hB).trans (Fr.set _), hd.I.b.cells.2.1, (hd.I.b.o.cell 12 (by omega)).2⟩)
  have GG := Lib.hid (p := ∀ W, Fr B bk w W → Gl B bk W ∧ B ≤ W.heap.size) (fun W f => ⟨G.fr f, Nat.le_trans hB f.size⟩)
  clear h1 h2 G
  go_enter Tryd.func8, Tryd.ntmps8
  go_wp2_with (go_at_call 22; refine KR.out.mono ?_; rintro e w1 ⟨⟨o, rfl, hL⟩, q, hq⟩; have ho := hL ⟨rfl, rfl, rfl⟩; subst ho; subst hq; obtain ⟨s1, s2, s3, s4⟩ := ST.out q; have S1 := Lib.hid s1; have F1 := Lib.hid s2; clear hL s1 s2)
  go_loopw [4] (fun t ws => ∃ i : Nat, i ≤ SR.length ∧ t = .int .i64 (i : Int) ∧ RowKit.Hid (StE B bk SR SN SP i 0 0 (5000 * K + 5000 * i) K ws ∧ Fr B bk w ws)) (fun t _ => SR.length - (intOf t).toNat)
  case atStart => exact ⟨0, Nat.zero_le _, rfl, S1.out, F1.out⟩
  case round =>
    obtain ⟨i, hi, rfl, hQ⟩ := hrel
    rename World => ws
    obtain ⟨⟨vs1, g1, sE1, mark1, b1, z1⟩, f1⟩ := hQ.out
    have F2 := Lib.hid f1
    have SX := Lib.hid (p := StE B bk SR SN SP i 0 0 (5000 * K + 5000 * i) K ws) ⟨vs1, g1, sE1, mark1, b1, z1⟩
    obtain ⟨⟨ha, hc, c13, A13⟩, _, _⟩ := b1.rr_at
    clear hQ
    by_cases hlt : i < SR.length
    · have kc : (i : Int) < (SR.length : Int) := by omega
      have kw : IntKind.i64.wrap ((i : Int) + 1) = (i : Int) + 1 := by simp [IntKind.wrap, IntKind.bits, IntKind.signed]; omega
      obtain ⟨z, x, n, d, rfl, d0, ev⟩ := A13 i hlt
      have KC := Lib.hid (settle_r B bk SR SN SP i 0 0 (5000 * K + 5000 * i) K vs1 g1 sE1 mark1 ws b1 z1 hlt (by omega) (GG.out _ f1).2 (GG.out _ f1).1 _ ev)
      clear A13 b1 z1 f1 ev
      go_wp2_with (go_at_call 20; refine KC.out.mono ?_; rintro e w3 ⟨rfl, hS, hF⟩; have S3 := Lib.hid hS; have F3 := Lib.hid (F2.out.trans hF); clear hS hF)
      go_roundw
      case rel => exact ⟨i + 1, by omega, by go_num, S3.out, F3.out⟩
      case measure => simp [intOf]; omega
    · obtain rfl : i = SR.length := by omega
      have kc : ¬ (SR.length : Int) < (SR.length : Int) := by omega
      clear A13 b1 z1 f1
      go_wp2
      clear c13
      go_loopw [5] (fun t ws => ∃ j : Nat, j ≤ SN.length ∧ t = .int .i64 (j : Int) ∧ RowKit.Hid (StE B bk SR SN SP SR.length j 0 (5000 * K + 5000 * SR.length + 5000 * j) K ws ∧ Fr B bk w ws)) (fun t _ => SN.length - (intOf t).toNat)
      case atStart => exact ⟨0, Nat.zero_le _, rfl, SX.out, F2.out⟩
      case round =>
        obtain ⟨j, hj, rfl, hQ⟩ := hrel
        rename World => wt
        obtain ⟨⟨vs1, g1, sE1, mark1, b1, z1⟩, f1⟩ := hQ.out
        have F4 := Lib.hid f1
        have SY := Lib.hid (p := StE B bk SR SN SP SR.length j 0 (5000 * K + 5000 * SR.length + 5000 * j) K wt) ⟨vs1, g1, sE1, mark1, b1, z1⟩
        obtain ⟨_, ⟨ha, hc, c15, A15⟩, _⟩ := b1.rr_at
        clear hQ
        by_cases hlt : j < SN.length
        · have kc : (j : Int) < (SN.length : Int) := by omega
          have kw : IntKind.i64.wrap ((j : Int) + 1) = (j : Int) + 1 := by simp [IntKind.wrap, IntKind.bits, IntKind.signed]; omega
          obtain ⟨z, x, n, d, rfl, d0, ev⟩ := A15 j hlt
          have KC := Lib.hid (settle_n B bk SR SN SP SR.length j 0 (5000 * K + 5000 * SR.length + 5000 * j) K vs1 g1 sE1 mark1 wt b1 z1 hlt (by omega) (GG.out _ f1).2 _ ev)
          clear A15 b1 z1 f1 ev
          go_wp2_with (go_at_call 21; refine KC.out.mono ?_; rintro e w3 ⟨rfl, hS, hF⟩; have S3 := Lib.hid hS; have F3 := Lib.hid (F4.out.trans hF); clear hS hF)
          go_roundw
          case rel => exact ⟨j + 1, by omega, by go_num, S3.out, F3.out⟩
          case measure => simp [intOf]; omega
        · obtain rfl : j = SN.length := by omega
          have kc : ¬ (SN.length : Int) < (SN.length : Int) := by omega
          clear A15 b1 z1 f1
          go_wp2
          clear c15
          go_loopw [6] (fun t ws => ∃ k : Nat, k ≤ SP.length ∧ t = .int .i64 (k : Int) ∧ RowKit.Hid (StE B bk SR SN SP SR.length SN.length k (5000 * K + 5000 * SR.length + 5000 * SN.length + 5000 * k) K ws ∧ Fr B bk w ws)) (fun t _ => SP.length - (intOf t).toNat)
          case atStart => exact ⟨0, Nat.zero_le _, rfl, SY.out, F4.out⟩
          case round =>
            obtain ⟨k, hk, rfl, hQ⟩ := hrel
            rename World => wu
            obtain ⟨⟨vs1, g1, sE1, mark1, b1, z1⟩, f1⟩ := hQ.out
            have F6 := Lib.hid f1
            obtain ⟨_, _, ⟨ha, hc, c17, A17⟩⟩ := b1.rr_at
            clear hQ
            by_cases hlt : k < SP.length
            · have kc : (k : Int) < (SP.length : Int) := by omega
              have kw : IntKind.i64.wrap ((k : Int) + 1) = (k : Int) + 1 := by simp [IntKind.wrap, IntKind.bits, IntKind.signed]; omega
              obtain ⟨z, x, n, d, rfl, d0, ev⟩ := A17 k hlt
              have KC := Lib.hid (settle_p B bk SR SN SP SR.length SN.length k (5000 * K + 5000 * SR.length + 5000 * SN.length + 5000 * k) K vs1 g1 sE1 mark1 wu b1 z1 hlt (by omega) (GG.out _ f1).2 _ ev)
              clear A17 b1 z1 f1 ev
              go_wp2_with (go_at_call 23; refine KC.out.mono ?_; rintro e w3 ⟨rfl, hS, hF⟩; have S3 := Lib.hid hS; have F3 := Lib.hid (F6.out.trans hF); clear hS hF)
              go_roundw
              case rel => exact ⟨k + 1, by omega, by go_num, S3.out, F3.out⟩
              case measure => simp [intOf]; omega
            · obtain rfl : k = SP.length := by omega
              have kc : ¬ (SP.length : Int) < (SP.length : Int) := by omega
              have KK := Lib.hid (kept_any B bk vs1 g1 _ mark1 false wu b1.I.b (b1.view.imp (fun z => by cases z)) (b1.I.ev.more (fun p hp => List.mem_append.2 (.inl hp))) (GG.out _ f1).1.ot (Nat.lt_of_lt_of_le (GG.out _ f1).1.lt.1 (GG.out _ f1).2) ⟨by have := z1.rr; omega, by have := z1.rn; omega, by have := z1.rp; omega⟩ ⟨by have := z1.r; omega, by have := z1.o; omega, by have := z1.n; omega, by have := z1.p; omega⟩)
              have HBu := Lib.hid (GG.out _ f1).2
              clear A17 b1 z1 f1
              go_wp2_with (go_at_call 9; refine KK.out.mono ?_; rintro e w3 ⟨rfl, hB3⟩; have F7 := Lib.hid (F6.out.trans (Fr.below hB3 HBu.out)); clear hB3)
              go_ret
              exact ⟨rfl, F7.out⟩
end Go.Proofs.YtldplmchgmoopaaDoor

namespace Go.Proofs.YtldplmchgmoopaaDoor
open Go.RowKit
set_option linter.unusedVariables false
set_option linter.unusedSimpArgs false

end Go.Proofs.YtldplmchgmoopaaDoor
