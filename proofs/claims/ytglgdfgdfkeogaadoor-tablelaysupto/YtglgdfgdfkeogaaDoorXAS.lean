import Derived.Test.YtglgdfgdfkeogaaDoorXAR
import Derived.Deep.Cut
import Derived.Deep.CutRange
import Derived.Deep.DeepCutAuto
namespace Go.Proofs.YtglgdfgdfkeogaaDoor
open Go.RowKit
set_option linter.unusedVariables false
set_option linter.unusedSimpArgs false

theorem Hol.sub {W : World} {l m : List (Nat × Obj)} (h : Hol W l) (k : ∀ p ∈ m, p ∈ l) : Hol W m := fun p hp => h p (k p hp)
theorem Bk.hol {W : World} {B bk : Nat} {vs : List Value} {g : Bg} {sn : List (Nat × Obj)} {mark : Int} {late : Bool} (h : Bk W B bk vs g sn mark late) : Hol W sn := fun p hp => (h.o.st p hp).1
theorem Bk.sub {W : World} {B bk : Nat} {vs : List Value} {g : Bg} {sn sn' : List (Nat × Obj)} {mark : Int} {late : Bool} (h : Bk W B bk vs g sn mark late) (k : ∀ p ∈ sn', p ∈ sn) : Bk W B bk vs g sn' mark late := ⟨⟨h.o.hb, h.o.hl, h.o.own, h.o.ap, fun p hp => h.o.st p (k p hp)⟩, h.mt, h.lt⟩
/-- Rows that were kept as they came (or were written over behind that), and their copy. -/
def ItR (B : Nat) (sE seg : List (Nat × Obj)) (done : Prop) (rv wv : Value) : Prop :=
  ∃ a n c qs B1 qs1, rv = .slice a n c ∧ qs.length = n ∧ n ≤ 4096 ∧ (∀ q ∈ qs, q.cs.length ≤ 2000000 ∧ ∀ c ∈ q.cs, (Lit.int .i64 c.v).wf = true) ∧ (¬ done → SgR B seg rv qs) ∧ (done → OldIt sE 49 a n (List.replicate n (.slice none 0 0)) ∧ (n = 0 ∨ ∃ z, a = some ⟨z, 0, none⟩)) ∧ (∀ W, Hol W sE → RwA W B1 wv qs1) ∧ qs1.map (·.cs) = qs.map (·.cs)
def ItN (B : Nat) (sE seg : List (Nat × Obj)) (done : Prop) (rv wv : Value) : Prop :=
  ∃ (a : Option Addr) (n c : Nat) (ss : List ByteArray) (B1 : Nat), rv = .slice a n c ∧ ss.length = n ∧ n ≤ 1000000 ∧ (∀ s ∈ ss, s.size ≤ 140737488351232) ∧ (¬ done → SgO B seg 9 1 rv n (ss.map Value.string)) ∧ (done → (∃ S : ByteArray, S.size ≤ 140737488351232 ∧ OldIt sE 9 a n (List.replicate n (.string S))) ∧ (n = 0 ∨ ∃ z, a = some ⟨z, 0, none⟩)) ∧ (∀ W, Hol W sE → W.ownsRow B1 9 1 wv n (ss.map Value.string))
def ItP (B : Nat) (sE seg : List (Nat × Obj)) (done : Prop) (rv wv : Value) : Prop :=
  ∃ (a : Option Addr) (n c : Nat) (ps : List (ByteArray × Int)) (B1 : Nat), rv = .slice a n c ∧ ps.length = n ∧ n ≤ 900000000000 ∧ (¬ done → SgO B seg 65 2 rv n (prV ps)) ∧ (done → (∃ m : Int, OldIt sE 65 a (n * 2) (prV (List.replicate n (mkP m)))) ∧ (n = 0 ∨ ∃ z, a = some ⟨z, 0, none⟩)) ∧ (∀ W, Hol W sE → W.ownsRow B1 65 2 wv n (prV ps))
theorem ItR.more {B : Nat} {sE sE' seg : List (Nat × Obj)} {d d' : Prop} {rv wv : Value} (h : ItR B sE seg d rv wv) (k : ∀ p ∈ sE, p ∈ sE') (e : d' ↔ d) : ItR B sE' seg d' rv wv := by
  obtain ⟨a, n, c, qs, B1, qs1, h1, h2, h3, h4, h5, h6, h7, h8⟩ := h
  exact ⟨a, n, c, qs, B1, qs1, h1, h2, h3, h4, fun q => h5 (fun z => q (e.2 z)), fun q => ⟨(h6 (e.1 q)).1.more k, (h6 (e.1 q)).2⟩, fun W hW => h7 W (hW.sub k), h8⟩
theorem ItN.more {B : Nat} {sE sE' seg : List (Nat × Obj)} {d d' : Prop} {rv wv : Value} (h : ItN B sE seg d rv wv) (k : ∀ p ∈ sE, p ∈ sE') (e : d' ↔ d) : ItN B sE' seg d' rv wv := by
  obtain ⟨a, n, c, ss, B1, h1, h2, h3, h4, h5, h6, h7⟩ := h
  exact ⟨a, n, c, ss, B1, h1, h2, h3, h4, fun q => h5 (fun z => q (e.2 z)), fun q => by
    obtain ⟨⟨S, s1, s2⟩, s3⟩ := h6 (e.1 q)
    exact ⟨⟨S, s1, s2.more k⟩, s3⟩, fun W hW => h7 W (hW.sub k)⟩
theorem ItP.more {B : Nat} {sE sE' seg : List (Nat × Obj)} {d d' : Prop} {rv wv : Value} (h : ItP B sE seg d rv wv) (k : ∀ p ∈ sE, p ∈ sE') (e : d' ↔ d) : ItP B sE' seg d' rv wv := by
  obtain ⟨a, n, c, ss, B1, h1, h2, h3, h5, h6, h7⟩ := h
  exact ⟨a, n, c, ss, B1, h1, h2, h3, fun q => h5 (fun z => q (e.2 z)), fun q => by
    obtain ⟨⟨S, s2⟩, s3⟩ := h6 (e.1 q)
    exact ⟨⟨S, s2.more k⟩, s3⟩, fun W hW => h7 W (hW.sub k)⟩
/-- Names of one's own, as they read. -/
theorem nl_of_own {W : World} {B n c : Nat} {a : Option Addr} {ss : List ByteArray} (h : W.ownsRow B 9 1 (.slice a n c) n (ss.map Value.string)) (hn : n ≤ 8796093021952) (hs : ∀ s ∈ ss, s.size ≤ 140737488351232) : NL W a n ss := by
  have l : ss.length = n := by have := h.1; simpa using this
  refine ⟨l, hn, hs, ?_⟩
  have h0 := h
  rcases h.2 with ⟨e, e0⟩ | ⟨g, cap, cur, e, _, q1, _⟩
  · exact .inl e0
  · injection e with e1 e2 e3
    subst e1
    exact .inr ⟨g, 0, rfl, blk_lt q1, fun i hi => by
      rw [Nat.zero_add, World.ownsRow.cellAt h0 i (by omega), List.getElem?_map, List.getElem?_eq_getElem (by omega)]
      simp [List.getD, show i < ss.length by omega]⟩
theorem pl_of_own {W : World} {B n c : Nat} {a : Option Addr} {ps : List (ByteArray × Int)} (h : W.ownsRow B 65 2 (.slice a n c) n (prV ps)) (hn : n ≤ 5864062014640) : PL W a n ps := by
  have l : ps.length = n := by have := h.1; rw [prV_len2] at this; omega
  refine ⟨l, hn, ?_⟩
  have h0 := h
  rcases h.2 with ⟨e, e0⟩ | ⟨g, cap, cur, e, _, q1, _⟩
  · exact .inl e0
  · injection e with e1 e2 e3
    subst e1
    refine .inr ⟨g, 0, rfl, blk_lt q1, fun i hi => ?_⟩
    obtain ⟨k1, k2⟩ := prV_at (l := ps) (i := i) (by omega)
    rw [Nat.zero_add]
    exact ⟨by rw [World.ownsRow.cellAt h0 (i * 2) (by omega), k1], by rw [World.ownsRow.cellAt h0 (i * 2 + 1) (by omega), k2]⟩
theorem rwo_rwa {W : World} {B : Nat} {v : Value} {qs : List Rw} (h : RwO W B v qs) (hl : ∀ q ∈ qs, q.cs.length ≤ 2000000) : RwA W B v qs :=
  ⟨h.own, fun q hq => ⟨q_own (h.ok q hq) (hl q hq), by obtain ⟨_, _, _, e, _⟩ := h.ok q hq; exact e⟩⟩
/-- A list that was written over with nil, as it reads. -/
theorem rl_nil {W : World} {sE : List (Nat × Obj)} {a : Option Addr} {n : Nat} (h : OldIt sE 49 a n (List.replicate n (.slice none 0 0))) (hz : n = 0 ∨ ∃ z, a = some ⟨z, 0, none⟩) (hW : Hol W sE) (hn : n ≤ 4096) : RL W a n (List.replicate n (⟨none, 0, 0, []⟩ : Rw)) := by
  refine ⟨by simp, by omega, fun r hr => ?_, ?_⟩
  · rw [(List.mem_replicate.1 hr).2]
    exact ⟨⟨rfl, Nat.zero_le _, (fun c hc => by cases hc), .inl rfl⟩, fun _ => ⟨rfl, rfl⟩, Nat.le_refl _, Nat.zero_le _⟩
  · rcases hz with z | ⟨z, rfl⟩
    · exact .inl z
    · obtain ⟨cur, m, t⟩ := h z rfl
      refine .inr ⟨z, 0, rfl, blk_lt (hW _ m), fun i hi => ?_⟩
      rw [Nat.zero_add]
      refine cell_take (hW _ m) t hi ?_
      simp [List.getD, hi]
theorem nl_mine {W : World} {sE : List (Nat × Obj)} {a : Option Addr} {n : Nat} {S : ByteArray} (h : OldIt sE 9 a n (List.replicate n (.string S))) (hz : n = 0 ∨ ∃ z, a = some ⟨z, 0, none⟩) (hW : Hol W sE) (hn : n ≤ 8796093021952) (hS : S.size ≤ 140737488351232) : NL W a n (List.replicate n S) := by
  refine ⟨by simp, hn, fun s hs => by rw [(List.mem_replicate.1 hs).2]; exact hS, ?_⟩
  rcases hz with z | ⟨z, rfl⟩
  · exact .inl z
  · obtain ⟨cur, m, t⟩ := h z rfl
    refine .inr ⟨z, 0, rfl, blk_lt (hW _ m), fun i hi => ?_⟩
    rw [Nat.zero_add]
    refine cell_take (hW _ m) t hi ?_
    simp [List.getD, hi]
theorem pl_mine {W : World} {sE : List (Nat × Obj)} {a : Option Addr} {n : Nat} {k : Int} (h : OldIt sE 65 a (n * 2) (prV (List.replicate n (mkP k)))) (hz : n = 0 ∨ ∃ z, a = some ⟨z, 0, none⟩) (hW : Hol W sE) (hn : n ≤ 5864062014640) : PL W a n (List.replicate n (mkP k)) := by
  refine ⟨by simp, hn, ?_⟩
  rcases hz with z | ⟨z, rfl⟩
  · exact .inl z
  · obtain ⟨cur, m, t⟩ := h z rfl
    refine .inr ⟨z, 0, rfl, blk_lt (hW _ m), fun i hi => ?_⟩
    obtain ⟨k1, k2⟩ := prV_at (l := List.replicate n (mkP k)) (i := i) (by simpa using hi)
    rw [Nat.zero_add]
    exact ⟨cell_take (hW _ m) t (by omega) k1, cell_take (hW _ m) t (by omega) k2⟩
/-- What is kept: blocks a list, so many of them taken up again. -/
structure LtF (B : Nat) (sE : List (Nat × Obj)) (SR SN SP : List (List (Nat × Obj))) (i j k : Nat) (g : Bg) : Prop where
  r1 : g.rr.length = SR.length
  r2 : g.wr.length = SR.length
  n1 : g.rn.length = SN.length
  n2 : g.wn.length = SN.length
  p1 : g.rp.length = SP.length
  p2 : g.wp.length = SP.length
  r : ∀ m, m < SR.length → ItR B sE (SR.getD m []) (m < i) (g.rr.getD m default) (g.wr.getD m default)
  n : ∀ m, m < SN.length → ItN B sE (SN.getD m []) (m < j) (g.rn.getD m default) (g.wn.getD m default)
  p : ∀ m, m < SP.length → ItP B sE (SP.getD m []) (m < k) (g.rp.getD m default) (g.wp.getD m default)
def restS (S : List (List (Nat × Obj))) (i : Nat) : List (Nat × Obj) := (S.drop i).flatten
theorem restS_at {S : List (List (Nat × Obj))} {i : Nat} (h : i < S.length) : restS S i = S.getD i [] ++ restS S (i + 1) := by
  unfold restS
  rw [List.drop_eq_getElem_cons h, List.flatten_cons]
  simp [List.getD, h]
theorem restS_has {S : List (List (Nat × Obj))} {i m : Nat} (h : m < S.length) (hi : i ≤ m) : ∀ p ∈ S.getD m [], p ∈ restS S i := by
  intro p hp
  unfold restS
  refine List.mem_flatten.2 ⟨S.getD m [], ?_, hp⟩
  rw [show S.getD m [] = S[m] by simp [List.getD, h]]
  rw [List.mem_drop_iff_getElem]
  exact ⟨m - i, by omega, by congr 1; omega⟩
theorem restS_snoc (S : List (List (Nat × Obj))) (x : List (Nat × Obj)) : restS (S ++ [x]) 0 = restS S 0 ++ x := by unfold restS; simp
structure BkL (W : World) (B bk : Nat) (vs : List Value) (g : Bg) (sE : List (Nat × Obj)) (SR SN SP : List (List (Nat × Obj))) (i j k : Nat) (X : List (Nat × Obj)) (mark : Int) (late : Bool) : Prop where
  I : BkI W B bk vs g sE (restS SR i ++ (restS SN j ++ (restS SP k ++ X))) mark late
  l : LtF B sE SR SN SP i j k g
theorem BkL.below {W W' : World} {B bk : Nat} {vs : List Value} {g : Bg} {sE : List (Nat × Obj)} {SR SN SP : List (List (Nat × Obj))} {i j k : Nat} {X : List (Nat × Obj)} {mark : Int} {late : Bool} (h : BkL W B bk vs g sE SR SN SP i j k X mark late) (b : Below W.heap.size W W') : BkL W' B bk vs g sE SR SN SP i j k X mark late := ⟨h.I.below b, h.l⟩
/-- What the lists read as. -/
theorem BkL.view {W : World} {B bk : Nat} {vs : List Value} {g : Bg} {sE : List (Nat × Obj)} {SR SN SP : List (List (Nat × Obj))} {i j k : Nat} {X : List (Nat × Obj)} {mark : Int} {late : Bool} (h : BkL W B bk vs g sE SR SN SP i j k X mark late) : RawV W g (i = 0 ∧ j = 0 ∧ k = 0) := by
  have hol := h.I.b.hol
  have he : Hol W sE := hol.sub (fun p hp => List.mem_append.2 (.inl hp))
  refine ⟨h.l.r2.trans h.l.r1.symm, h.l.n2.trans h.l.n1.symm, h.l.p2.trans h.l.p1.symm, fun m hm => ?_, fun m hm => ?_, fun m hm => ?_⟩
  · rw [h.l.r1] at hm
    obtain ⟨a, n, c, qs, B1, qs1, e1, e2, e3, e4, e5, e6, e7, e8⟩ := h.l.r m hm
    have k7 := e7 W he
    obtain ⟨b, d, eb⟩ := own_form2 k7.own
    rw [eb] at k7
    have l1 : qs1.length = n := by have := congrArg List.length e8; simp at this; omega
    have wf1 : ∀ q ∈ qs1, q.cs.length ≤ 8796093021952 ∧ ∀ c ∈ q.cs, (Lit.int .i64 c.v).wf = true := fun q hq => by
      have : q.cs ∈ qs.map (·.cs) := by rw [← e8]; exact List.mem_map.2 ⟨q, hq, rfl⟩
      obtain ⟨y, hy, ey⟩ := List.mem_map.1 this
      rw [← ey]
      exact ⟨by have := (e4 y hy).1; omega, (e4 y hy).2⟩
    obtain ⟨_, w2, _⟩ := k7.rl (by omega) (fun q hq => (wf1 q hq).1) (fun q hq => (wf1 q hq).2)
    by_cases q : m < i
    · obtain ⟨o1, o2⟩ := e6 q
      exact ⟨a, n, c, b, _, d, _, _, e1, eb, rl_nil o1 o2 he e3, w2, fun z => by omega⟩
    · have ro := (e5 q).1 W (hol.sub (fun p hp => List.mem_append.2 (.inr (List.mem_append.2 (.inl (restS_has hm (by omega) p hp))))))
      rw [e1] at ro
      obtain ⟨_, w1, _⟩ := (rwo_rwa ro (fun q hq => (e4 q hq).1)).rl (by omega) (fun q hq => by have := (e4 q hq).1; omega) (fun q hq => (e4 q hq).2)
      exact ⟨a, n, c, b, _, d, _, _, e1, eb, w1, w2, fun _ => e8.symm⟩
  · rw [h.l.n1] at hm
    obtain ⟨a, n, c, ss, B1, e1, e2, e3, e4, e5, e6, e7⟩ := h.l.n m hm
    have k7 := e7 W he
    obtain ⟨b, d, eb⟩ := own_form2 k7
    rw [eb] at k7
    have w2 := nl_of_own k7 (by omega) e4
    by_cases q : m < j
    · obtain ⟨⟨S, o0, o1⟩, o2⟩ := e6 q
      exact ⟨a, n, c, b, _, d, _, _, e1, eb, nl_mine o1 o2 he (by omega) o0, w2, fun z => by omega⟩
    · have ro := (e5 q).1 W (hol.sub (fun p hp => List.mem_append.2 (.inr (List.mem_append.2 (.inr (List.mem_append.2 (.inl (restS_has hm (by omega) p hp))))))))
      rw [e1] at ro
      exact ⟨a, n, c, b, _, d, _, _, e1, eb, nl_of_own ro (by omega) e4, w2, fun _ => rfl⟩
  · rw [h.l.p1] at hm
    obtain ⟨a, n, c, ss, B1, e1, e2, e3, e5, e6, e7⟩ := h.l.p m hm
    have k7 := e7 W he
    obtain ⟨b, d, eb⟩ := own_form2 k7
    rw [eb] at k7
    have w2 := pl_of_own k7 (by omega)
    by_cases q : m < k
    · obtain ⟨⟨S, o1⟩, o2⟩ := e6 q
      exact ⟨a, n, c, b, _, d, _, _, e1, eb, pl_mine o1 o2 he (by omega), w2, fun z => by omega⟩
    · have ro := (e5 q).1 W (hol.sub (fun p hp => List.mem_append.2 (.inr (List.mem_append.2 (.inr (List.mem_append.2 (.inr (List.mem_append.2 (.inl (restS_has hm (by omega) p hp))))))))))
      rw [e1] at ro
      exact ⟨a, n, c, b, _, d, _, _, e1, eb, pl_of_own ro (by omega), w2, fun _ => rfl⟩
end Go.Proofs.YtglgdfgdfkeogaaDoor

namespace Go.Proofs.YtglgdfgdfkeogaaDoor
open Go.RowKit
set_option linter.unusedVariables false
set_option linter.unusedSimpArgs false

theorem BkI.perm {W : World} {B bk : Nat} {vs : List Value} {g : Bg} {sn sE' sR' : List (Nat × Obj)} {mark : Int} {late : Bool} (h : Bk W B bk vs g sn mark late) (nd : (sn.map (·.1)).Nodup) (p : sn.Perm (sE' ++ sR')) (ev : EvF sE' g) : BkI W B bk vs g sE' sR' mark late :=
  ⟨h.sub (fun q hq => p.symm.subset hq), (p.map (·.1)).nodup_iff.1 nd, ev⟩
theorem perm_mid {α : Type} (was seg sE R Y : List α) : (was ++ (seg ++ (sE ++ (R ++ Y)))).Perm ((was ++ sE) ++ ((R ++ seg) ++ Y)) := by
  rw [List.append_assoc, List.append_assoc]
  refine List.Perm.append_left was ?_
  rw [← List.append_assoc, ← List.append_assoc, ← List.append_assoc, ← List.append_assoc]
  refine List.Perm.append_right Y ?_
  rw [List.append_assoc]
  exact List.perm_append_comm
theorem EvF.late {sE sE' : List (Nat × Obj)} {g g' : Bg} (h : EvF sE g) (k : ∀ p ∈ sE, p ∈ sE') (e : g' = { g with rr := g'.rr, wr := g'.wr, rn := g'.rn, wn := g'.wn, rp := g'.rp, wp := g'.wp }) : EvF sE' g' := by
  have q := h.more k
  rw [e]
  exact ⟨q.l1, q.l2, q.l3, q.l4, q.l5, q.l6, q.l7, q.r, q.o, q.n, q.p⟩
theorem LtF.same {B : Nat} {sE sE' : List (Nat × Obj)} {SR SN SP : List (List (Nat × Obj))} {i j k : Nat} {g g' : Bg} (h : LtF B sE SR SN SP i j k g) (s : SameL g g') (q : ∀ p ∈ sE, p ∈ sE') : LtF B sE' SR SN SP i j k g' := by
  refine ⟨by rw [s.rr]; exact h.r1, by rw [s.wr]; exact h.r2, by rw [s.rn]; exact h.n1, by rw [s.wn]; exact h.n2, by rw [s.rp]; exact h.p1, by rw [s.wp]; exact h.p2, fun m hm => ?_, fun m hm => ?_, fun m hm => ?_⟩
  · rw [s.rr, s.wr]; exact (h.r m hm).more q Iff.rfl
  · rw [s.rn, s.wn]; exact (h.n m hm).more q Iff.rfl
  · rw [s.rp, s.wp]; exact (h.p m hm).more q Iff.rfl
theorem RwO.mono {W : World} {B B' : Nat} {v : Value} {qs : List Rw} (h : RwO W B v qs) (hB : B' ≤ B) : RwO W B' v qs :=
  ⟨own_mono h.own hB, fun q hq => by obtain ⟨z, e1, e2, r⟩ := h.ok q hq; exact ⟨z, e1, Nat.le_trans hB e2, r⟩, h.nd⟩
/-- What is new is none of the book's. -/
theorem frR_new {W0 W : World} {B bk : Nat} {vs : List Value} {g : Bg} {sn : List (Nat × Obj)} {mark : Int} {late : Bool} {v : Value} {qs : List Rw} (h : Bk W0 B bk vs g sn mark late) (o : RwO W W0.heap.size v qs) : FrR bk vs g.fs sn v qs :=
  ⟨fun z e => h.o.new (o.own.lt z e).1, fun q hq z e => by
    obtain ⟨y, e1, e2, _⟩ := o.ok q hq
    rw [e] at e1; injection e1 with e1; injection e1 with e1; subst e1
    exact h.o.new e2⟩
theorem own_new {W0 W : World} {B bk : Nat} {vs : List Value} {g : Bg} {sn : List (Nat × Obj)} {mark : Int} {late : Bool} {v : Value} {E : TypeId} {s n : Nat} {xs : List Value} (h : Bk W0 B bk vs g sn mark late) (o : W.ownsRow W0.heap.size E s v n xs) : ∀ z, v.ownBlock = some z → BkO.Free bk vs g.fs sn z :=
  fun z e => h.o.new (o.lt z e).1
/-- The late book's rows. -/
theorem rows_L (B bk : Nat) (vs : List Value) (g : Bg) (sE : List (Nat × Obj)) (SR SN SP : List (List (Nat × Obj))) (X : List (Nat × Obj)) (mark : Int) (N M : Nat) (a : Option Addr) (n c : Nat) (qs : List Rw) (w : World) (h : BkL w B bk vs g sE SR SN SP 0 0 0 X mark true) (hs : Sz g mark N M) (hN : M ≤ 900000000000) (hB : B ≤ w.heap.size) (o : RwO w B (.slice a n c) qs) (fr : FrR bk vs g.fs (sE ++ (restS SR 0 ++ (restS SN 0 ++ (restS SP 0 ++ X)))) (.slice a n c) qs)
    (hn : n ≤ 4096) (hq : ∀ q ∈ qs, q.cs.length ≤ 2000000 ∧ ∀ c ∈ q.cs, (Lit.int .i64 c.v).wf = true) :
    Calls Tryd.prog 22 #[.pointer (some ⟨bk, 0, none⟩), .slice a n c] w fun e w' => e = .returned (.tuple #[]) ∧ (∃ vs' g' sE' SR', BkL w' B bk vs' g' sE' SR' SN SP 0 0 0 X mark true ∧ Sz g' mark N (M + 1)) ∧ Fr B bk w w' := by
  have rr := hs.rr
  have r1 := h.l.r1
  have r2 := h.l.r2
  refine (rows_late B bk vs g _ mark a n c qs w h.I.b hB o fr (by omega) (fun q hq' => (hq q hq').1) ⟨by omega, by omega⟩).mono ?_
  rintro e w' ⟨rfl, ⟨vs', v1, B1, seg, was, qs1, hb, sg, rw1, ec, nd⟩, f⟩
  refine ⟨rfl, ⟨vs', { g with rr := g.rr ++ [.slice a n c], wr := g.wr ++ [v1] }, was ++ sE, SR ++ [seg], ⟨?_, ?_⟩, ?_⟩, f⟩
  · rw [restS_snoc]
    exact BkI.perm hb (nd h.I.nd) (perm_mid _ _ _ _ _) (h.I.ev.late (fun p hp => List.mem_append.2 (.inr hp)) rfl)
  · have mb : ∀ p ∈ sE, p ∈ was ++ sE := fun p hp => List.mem_append.2 (.inr hp)
    refine ⟨by simp [r1], by simp [r2], h.l.n1, h.l.n2, h.l.p1, h.l.p2, fun m hm => ?_, fun m hm => (h.l.n m hm).more mb Iff.rfl, fun m hm => (h.l.p m hm).more mb Iff.rfl⟩
    simp only
    by_cases q : m < SR.length
    · rw [getD_app, getD_app, getD_app, if_pos q, if_pos (by omega), if_pos (by omega)]
      exact (h.l.r m q).more mb Iff.rfl
    · have e : m = SR.length := by simp at hm; omega
      rw [getD_last _ _ _ _ e, getD_last _ _ _ _ (by omega), getD_last _ _ _ _ (by omega)]
      exact ⟨a, n, c, qs, B1, qs1, rfl, (own_len o.own).symm, hn, hq, fun _ => sg, fun z => absurd z (by omega), fun W hW => rw1 W (hW.sub (fun p hp => List.mem_append.2 (.inl hp))), ec⟩
  · exact ⟨⟨hs.m.1, by have := hs.m.2; omega⟩, by have := hs.r; show g.rv.length ≤ _; omega, by have := hs.o; show g.ov.length ≤ _; omega, by have := hs.n; show g.nv.length ≤ _; omega, by have := hs.p; show g.pv.length ≤ _; omega, by simp; omega, by have := hs.rn; show g.rn.length ≤ _; omega, by have := hs.rp; show g.rp.length ≤ _; omega⟩
theorem names_L (B bk : Nat) (vs : List Value) (g : Bg) (sE : List (Nat × Obj)) (SR SN SP : List (List (Nat × Obj))) (X : List (Nat × Obj)) (mark : Int) (N M : Nat) (a : Option Addr) (n c : Nat) (ss : List ByteArray) (w : World) (h : BkL w B bk vs g sE SR SN SP 0 0 0 X mark true) (hs : Sz g mark N M) (hN : M ≤ 900000000000) (hB : B ≤ w.heap.size) (o : w.ownsRow B 9 1 (.slice a n c) n (ss.map Value.string)) (fr : ∀ z, (Value.slice a n c).ownBlock = some z → BkO.Free bk vs g.fs (sE ++ (restS SR 0 ++ (restS SN 0 ++ (restS SP 0 ++ X)))) z)
    (hn : n ≤ 1000000) (hq : ∀ s ∈ ss, s.size ≤ 140737488351232) :
    Calls Tryd.prog 33 #[.pointer (some ⟨bk, 0, none⟩), .slice a n c] w fun e w' => e = .returned (.tuple #[]) ∧ (∃ vs' g' sE' SN', BkL w' B bk vs' g' sE' SR SN' SP 0 0 0 X mark true ∧ Sz g' mark N (M + 1)) ∧ Fr B bk w w' := by
  have rr := hs.rn
  have r1 := h.l.n1
  have r2 := h.l.n2
  refine (names_late B bk vs g _ mark a n c ss w h.I.b hB o fr (by omega) ⟨by omega, by omega⟩).mono ?_
  rintro e w' ⟨rfl, ⟨vs', v1, B1, seg, was, hb, sg, sw, nd⟩, f⟩
  refine ⟨rfl, ⟨vs', { g with rn := g.rn ++ [.slice a n c], wn := g.wn ++ [v1] }, was ++ sE, SN ++ [seg], ⟨?_, ?_⟩, ?_⟩, f⟩
  · rw [restS_snoc]
    refine BkI.perm hb (nd h.I.nd) ?_ (h.I.ev.late (fun p hp => List.mem_append.2 (.inr hp)) rfl)
    have := perm_mid was seg sE (restS SR 0 ++ restS SN 0) (restS SP 0 ++ X)
    simpa [List.append_assoc] using this
  · have mb : ∀ p ∈ sE, p ∈ was ++ sE := fun p hp => List.mem_append.2 (.inr hp)
    refine ⟨h.l.r1, h.l.r2, by simp [r1], by simp [r2], h.l.p1, h.l.p2, fun m hm => (h.l.r m hm).more mb Iff.rfl, fun m hm => ?_, fun m hm => (h.l.p m hm).more mb Iff.rfl⟩
    simp only
    by_cases q : m < SN.length
    · rw [getD_app, getD_app, getD_app, if_pos q, if_pos (by omega), if_pos (by omega)]
      exact (h.l.n m q).more mb Iff.rfl
    · have e : m = SN.length := by simp at hm; omega
      rw [getD_last _ _ _ _ e, getD_last _ _ _ _ (by omega), getD_last _ _ _ _ (by omega)]
      exact ⟨a, n, c, ss, B1, rfl, by have := o.1; simpa using this, hn, hq, fun _ => sg, fun z => absurd z (by omega), fun W hW => sw.1 W (hW.sub (fun p hp => List.mem_append.2 (.inl hp)))⟩
  · exact ⟨⟨hs.m.1, by have := hs.m.2; omega⟩, by have := hs.r; show g.rv.length ≤ _; omega, by have := hs.o; show g.ov.length ≤ _; omega, by have := hs.n; show g.nv.length ≤ _; omega, by have := hs.p; show g.pv.length ≤ _; omega, by have := hs.rr; show g.rr.length ≤ _; omega, by simp; omega, by have := hs.rp; show g.rp.length ≤ _; omega⟩
theorem pairs_L (B bk : Nat) (vs : List Value) (g : Bg) (sE : List (Nat × Obj)) (SR SN SP : List (List (Nat × Obj))) (X : List (Nat × Obj)) (mark : Int) (N M : Nat) (a : Option Addr) (n c : Nat) (ps : List (ByteArray × Int)) (w : World) (h : BkL w B bk vs g sE SR SN SP 0 0 0 X mark true) (hs : Sz g mark N M) (hN : M ≤ 900000000000) (hB : B ≤ w.heap.size) (o : w.ownsRow B 65 2 (.slice a n c) n (prV ps)) (fr : ∀ z, (Value.slice a n c).ownBlock = some z → BkO.Free bk vs g.fs (sE ++ (restS SR 0 ++ (restS SN 0 ++ (restS SP 0 ++ X)))) z)
    (hn : n ≤ 900000000000) :
    Calls Tryd.prog 31 #[.pointer (some ⟨bk, 0, none⟩), .slice a n c] w fun e w' => e = .returned (.tuple #[]) ∧ (∃ vs' g' sE' SP', BkL w' B bk vs' g' sE' SR SN SP' 0 0 0 X mark true ∧ Sz g' mark N (M + 1)) ∧ Fr B bk w w' := by
  have rr := hs.rp
  have r1 := h.l.p1
  have r2 := h.l.p2
  refine (pairs_late B bk vs g _ mark a n c ps w h.I.b hB o fr (by omega) ⟨by omega, by omega⟩).mono ?_
  rintro e w' ⟨rfl, ⟨vs', v1, B1, seg, was, hb, sg, sw, nd⟩, f⟩
  refine ⟨rfl, ⟨vs', { g with rp := g.rp ++ [.slice a n c], wp := g.wp ++ [v1] }, was ++ sE, SP ++ [seg], ⟨?_, ?_⟩, ?_⟩, f⟩
  · rw [restS_snoc]
    refine BkI.perm hb (nd h.I.nd) ?_ (h.I.ev.late (fun p hp => List.mem_append.2 (.inr hp)) rfl)
    have := perm_mid was seg sE (restS SR 0 ++ restS SN 0 ++ restS SP 0) X
    simpa [List.append_assoc] using this
  · have mb : ∀ p ∈ sE, p ∈ was ++ sE := fun p hp => List.mem_append.2 (.inr hp)
    refine ⟨h.l.r1, h.l.r2, h.l.n1, h.l.n2, by simp [r1], by simp [r2], fun m hm => (h.l.r m hm).more mb Iff.rfl, fun m hm => (h.l.n m hm).more mb Iff.rfl, fun m hm => ?_⟩
    simp only
    by_cases q : m < SP.length
    · rw [getD_app, getD_app, getD_app, if_pos q, if_pos (by omega), if_pos (by omega)]
      exact (h.l.p m q).more mb Iff.rfl
    · have e : m = SP.length := by simp at hm; omega
      rw [getD_last _ _ _ _ e, getD_last _ _ _ _ (by omega), getD_last _ _ _ _ (by omega)]
      exact ⟨a, n, c, ps, B1, rfl, by have := o.1; rw [prV_len2] at this; omega, hn, fun _ => sg, fun z => absurd z (by omega), fun W hW => sw.1 W (hW.sub (fun p hp => List.mem_append.2 (.inl hp)))⟩
  · exact ⟨⟨hs.m.1, by have := hs.m.2; omega⟩, by have := hs.r; show g.rv.length ≤ _; omega, by have := hs.o; show g.ov.length ≤ _; omega, by have := hs.n; show g.nv.length ≤ _; omega, by have := hs.p; show g.pv.length ≤ _; omega, by have := hs.rr; show g.rr.length ≤ _; omega, by have := hs.rn; show g.rn.length ≤ _; omega, by simp; omega⟩
end Go.Proofs.YtglgdfgdfkeogaaDoor

namespace Go.Proofs.YtglgdfgdfkeogaaDoor
open Go.RowKit
set_option linter.unusedVariables false
set_option linter.unusedSimpArgs false

theorem Bk.take {W : World} {B bk : Nat} {vs : List Value} {g : Bg} {sn sn' X : List (Nat × Obj)} {mark : Int} {late : Bool} (h : Bk W B bk vs g sn mark late) (nd : (sn.map (·.1)).Nodup) (p : sn.Perm (X ++ sn')) : Bk W B bk vs g sn' mark late ∧ (sn'.map (·.1)).Nodup ∧ (∀ z ∈ X.map (·.1), BkO.Free bk vs g.fs sn' z) ∧ Hol W X := by
  have nd2 := (p.map (·.1)).nodup_iff.1 nd
  rw [List.map_append] at nd2
  have nd3 := List.nodup_append.1 nd2
  refine ⟨h.sub (fun q hq => p.symm.subset (List.mem_append.2 (.inr hq))), nd3.2.1, fun z hz => ?_, fun q hq => h.hol q (p.symm.subset (List.mem_append.2 (.inl hq)))⟩
  obtain ⟨q, hq, e⟩ := List.mem_map.1 hz
  have st := h.o.st q (p.symm.subset (List.mem_append.2 (.inl hq)))
  rw [e] at st
  exact ⟨st.2.1, st.2.2, fun r hr e2 => nd3.2.2 z hz r.1 (List.mem_map.2 ⟨r, hr, rfl⟩) e2.symm⟩
theorem perm_out {α : Type} (A X Y : List α) : (A ++ (X ++ Y)).Perm (X ++ (A ++ Y)) := by
  rw [← List.append_assoc, ← List.append_assoc]
  exact List.Perm.append_right Y List.perm_append_comm
/-- The book, and blocks that it keeps for the moment. -/
def BkS (W : World) (B bk : Nat) (late : Bool) (N : Nat) (X : List (Nat × Obj)) : Prop :=
  ∃ vs g sE SR SN SP mark, BkL W B bk vs g sE SR SN SP 0 0 0 X mark late ∧ Sz g mark (5000 * N) N ∧ (late = false → SR = [] ∧ SN = [] ∧ SP = [])
theorem BkS.below {W W' : World} {B bk : Nat} {late : Bool} {N : Nat} {X : List (Nat × Obj)} (h : BkS W B bk late N X) (b : Below W.heap.size W W') : BkS W' B bk late N X := by
  obtain ⟨vs, g, sE, SR, SN, SP, mark, h1, h2⟩ := h
  exact ⟨vs, g, sE, SR, SN, SP, mark, h1.below b, h2⟩
theorem BkS.hol {W : World} {B bk : Nat} {late : Bool} {N : Nat} {X : List (Nat × Obj)} (h : BkS W B bk late N X) : Hol W X := by
  obtain ⟨vs, g, sE, SR, SN, SP, mark, h1, h2⟩ := h
  exact h1.I.b.hol.sub (fun p hp => List.mem_append.2 (.inr (List.mem_append.2 (.inr (List.mem_append.2 (.inr (List.mem_append.2 (.inr hp))))))))
theorem BkS.lt {W : World} {B bk : Nat} {late : Bool} {N : Nat} {X : List (Nat × Obj)} (h : BkS W B bk late N X) : bk < W.heap.size := by
  obtain ⟨vs, g, sE, SR, SN, SP, mark, h1, h2⟩ := h
  exact h1.I.b.o.lt.1
/-- New blocks are kept. -/
theorem BkS.keep {W0 W : World} {B bk : Nat} {late : Bool} {N : Nat} {X : List (Nat × Obj)} (h : BkS W0 B bk late N X) (b : Below W0.heap.size W0 W) (L : List (Nat × Obj)) (hL : ∀ p ∈ L, W.heap[p.1]? = some p.2 ∧ W0.heap.size ≤ p.1) : ∃ Y, BkS W B bk late N (Y ++ X) ∧ ∀ p ∈ L, p ∈ Y := by
  obtain ⟨vs, g, sE, SR, SN, SP, mark, h1, h2⟩ := h
  have h3 := h1.below b
  obtain ⟨Y, k1, k2, k3, k4⟩ := h3.I.b.leaveS L (fun p hp => ⟨(hL p hp).1, h1.I.b.o.new (hL p hp).2⟩)
  refine ⟨Y, ⟨vs, g, sE, SR, SN, SP, mark, ⟨BkI.perm k1 (k4 h3.I.nd) ?_ h3.I.ev, h3.l⟩, h2⟩, k2⟩
  have := (perm_out (sE ++ (restS SR 0 ++ (restS SN 0 ++ restS SP 0))) Y X).symm
  simpa [List.append_assoc] using this
theorem BkL.drop {W : World} {B bk : Nat} {vs : List Value} {g : Bg} {sE : List (Nat × Obj)} {SR SN SP : List (List (Nat × Obj))} {i j k : Nat} {X Y : List (Nat × Obj)} {mark : Int} {late : Bool} (h : BkL W B bk vs g sE SR SN SP i j k (X ++ Y) mark late) : BkL W B bk vs g sE SR SN SP i j k Y mark late ∧ (∀ z ∈ X.map (·.1), BkO.Free bk vs g.fs (sE ++ (restS SR i ++ (restS SN j ++ (restS SP k ++ Y)))) z) ∧ Hol W X := by
  have p : (sE ++ (restS SR i ++ (restS SN j ++ (restS SP k ++ (X ++ Y))))).Perm (X ++ (sE ++ (restS SR i ++ (restS SN j ++ (restS SP k ++ Y))))) := by
    have := perm_out (sE ++ (restS SR i ++ (restS SN j ++ restS SP k))) X Y
    simpa [List.append_assoc] using this
  obtain ⟨b, nd, f, hl⟩ := h.I.b.take h.I.nd p
  exact ⟨⟨⟨b, nd, h.I.ev⟩, h.l⟩, f, hl⟩
theorem BkS.less {W : World} {B bk : Nat} {late : Bool} {N : Nat} {X Y : List (Nat × Obj)} (h : BkS W B bk late N (X ++ Y)) : BkS W B bk late N Y := by
  obtain ⟨vs, g, sE, SR, SN, SP, mark, h1, h2⟩ := h
  exact ⟨vs, g, sE, SR, SN, SP, mark, h1.drop.1, h2⟩
/-- The globals of the law. -/
structure Gl (B bk : Nat) (w : World) : Prop where
  ot : Ot w
  lt : 1 < B ∧ 1 ≠ bk
theorem Gl.fr {B bk : Nat} {w w' : World} (h : Gl B bk w) (f : Fr B bk w w') : Gl B bk w' := ⟨h.ot.fr f h.lt.1 h.lt.2, h.lt⟩
/-- rows. -/
theorem rows_X (B bk : Nat) (late : Bool) (N : Nat) (X Y : List (Nat × Obj)) (a : Option Addr) (n c : Nat) (qs : List Rw) (w : World) (h : BkS w B bk late N (X ++ Y)) (hN : N ≤ 40000000) (hB : B ≤ w.heap.size) (o : RwO w B (.slice a n c) qs) (f1 : ∀ z, (Value.slice a n c).ownBlock = some z → z ∈ X.map (·.1)) (f2 : ∀ q ∈ qs, ∀ z, q.a = some ⟨z, 0, none⟩ → z ∈ X.map (·.1)) (G : Gl B bk w)
    (hn : n ≤ 4096) (hq : ∀ q ∈ qs, q.cs.length ≤ 2000000 ∧ ∀ c ∈ q.cs, (Lit.int .i64 c.v).wf = true) :
    Calls Tryd.prog 22 #[.pointer (some ⟨bk, 0, none⟩), .slice a n c] w fun e w' => e = .returned (.tuple #[]) ∧ BkS w' B bk late (N + 1) Y ∧ Fr B bk w w' := by
  obtain ⟨vs, g, sE, SR, SN, SP, mark, h1, h2, h3⟩ := h
  obtain ⟨d1, d2, d3⟩ := h1.drop
  cases late with
  | false =>
    refine (rows_I B bk vs g sE _ mark (5000 * N) N a n c qs w d1.I h2 (by omega) hB o ⟨fun z e => d2 z (f1 z e), fun q hq z e => d2 z (f2 q hq z e)⟩ G.ot G.lt (by omega) (fun q hq' => (hq q hq').1)).mono ?_
    rintro e w' ⟨rfl, vs', g', sE', mark', k1, k2, k3, k4, _, k6⟩
    exact ⟨rfl, ⟨vs', g', sE', SR, SN, SP, mark', ⟨k1, d1.l.same k3 k2⟩, k4.mono (by omega) (by omega), h3⟩, k6⟩
  | true =>
    refine (rows_L B bk vs g sE SR SN SP Y mark (5000 * N) N a n c qs w d1 h2 (by omega) hB o ⟨fun z e => d2 z (f1 z e), fun q hq z e => d2 z (f2 q hq z e)⟩ hn hq).mono ?_
    rintro e w' ⟨rfl, ⟨vs', g', sE', SR', k1, k2⟩, k6⟩
    exact ⟨rfl, ⟨vs', g', sE', SR', SN, SP, mark, k1, k2.mono (by omega) (by omega), fun z => by cases z⟩, k6⟩
/-- names. -/
theorem names_X (B bk : Nat) (late : Bool) (N : Nat) (X Y : List (Nat × Obj)) (a : Option Addr) (n c : Nat) (ss : List ByteArray) (w : World) (h : BkS w B bk late N (X ++ Y)) (hN : N ≤ 40000000) (hB : B ≤ w.heap.size) (o : w.ownsRow B 9 1 (.slice a n c) n (ss.map Value.string)) (f1 : ∀ z, (Value.slice a n c).ownBlock = some z → z ∈ X.map (·.1))
    (hn : n ≤ 1000000) (hq : ∀ s ∈ ss, s.size ≤ 140737488351232) :
    Calls Tryd.prog 33 #[.pointer (some ⟨bk, 0, none⟩), .slice a n c] w fun e w' => e = .returned (.tuple #[]) ∧ BkS w' B bk late (N + 1) Y ∧ Fr B bk w w' := by
  obtain ⟨vs, g, sE, SR, SN, SP, mark, h1, h2, h3⟩ := h
  obtain ⟨d1, d2, d3⟩ := h1.drop
  cases late with
  | false =>
    refine (names_I B bk vs g sE _ mark (5000 * N) N a n c _ w d1.I h2 (by omega) hB o (fun z e => d2 z (f1 z e)) hn).mono ?_
    rintro e w' ⟨rfl, vs', g', sE', mark', k1, k2, k3, k4, _, k6⟩
    exact ⟨rfl, ⟨vs', g', sE', SR, SN, SP, mark', ⟨k1, d1.l.same k3 k2⟩, k4.mono (by omega) (by omega), h3⟩, k6⟩
  | true =>
    refine (names_L B bk vs g sE SR SN SP Y mark (5000 * N) N a n c ss w d1 h2 (by omega) hB o (fun z e => d2 z (f1 z e)) hn hq).mono ?_
    rintro e w' ⟨rfl, ⟨vs', g', sE', SN', k1, k2⟩, k6⟩
    exact ⟨rfl, ⟨vs', g', sE', SR, SN', SP, mark, k1, k2.mono (by omega) (by omega), fun z => by cases z⟩, k6⟩
/-- pairs. -/
theorem pairs_X (B bk : Nat) (late : Bool) (N : Nat) (X Y : List (Nat × Obj)) (a : Option Addr) (n c : Nat) (ps : List (ByteArray × Int)) (w : World) (h : BkS w B bk late N (X ++ Y)) (hN : N ≤ 40000000) (hB : B ≤ w.heap.size) (o : w.ownsRow B 65 2 (.slice a n c) n (prV ps)) (f1 : ∀ z, (Value.slice a n c).ownBlock = some z → z ∈ X.map (·.1))
    (hn : n ≤ 900000000000) :
    Calls Tryd.prog 31 #[.pointer (some ⟨bk, 0, none⟩), .slice a n c] w fun e w' => e = .returned (.tuple #[]) ∧ BkS w' B bk late (N + 1) Y ∧ Fr B bk w w' := by
  obtain ⟨vs, g, sE, SR, SN, SP, mark, h1, h2, h3⟩ := h
  obtain ⟨d1, d2, d3⟩ := h1.drop
  cases late with
  | false =>
    refine (pairs_I B bk vs g sE _ mark (5000 * N) N a n c ps w d1.I h2 (by omega) hB o (fun z e => d2 z (f1 z e)) (by omega)).mono ?_
    rintro e w' ⟨rfl, vs', g', sE', mark', k1, k2, k3, k4, _, k6⟩
    exact ⟨rfl, ⟨vs', g', sE', SR, SN, SP, mark', ⟨k1, d1.l.same k3 k2⟩, k4.mono (by omega) (by omega), h3⟩, k6⟩
  | true =>
    refine (pairs_L B bk vs g sE SR SN SP Y mark (5000 * N) N a n c ps w d1 h2 (by omega) hB o (fun z e => d2 z (f1 z e)) hn).mono ?_
    rintro e w' ⟨rfl, ⟨vs', g', sE', SP', k1, k2⟩, k6⟩
    exact ⟨rfl, ⟨vs', g', sE', SR, SN, SP', mark, k1, k2.mono (by omega) (by omega), fun z => by cases z⟩, k6⟩
/-- New rows are kept. -/
theorem BkS.keepR {W0 W : World} {B bk : Nat} {late : Bool} {N : Nat} {X : List (Nat × Obj)} {v : Value} {qs : List Rw} (h : BkS W0 B bk late N X) (b : Below W0.heap.size W0 W) (o : RwO W W0.heap.size v qs) (hl : ∀ q ∈ qs, q.cs.length ≤ 2000000) : ∃ Y, BkS W B bk late N (Y ++ X) ∧ (∀ z, v.ownBlock = some z → z ∈ Y.map (·.1)) ∧ (∀ q ∈ qs, ∀ z, q.a = some ⟨z, 0, none⟩ → z ∈ Y.map (·.1)) ∧ (∀ W', Hol W' Y → RwO W' W0.heap.size v qs) := by
  obtain ⟨Y, k1, k2⟩ := h.keep b (blkL W v ++ qs.flatMap (fun q => blkL W (qv q))) (fun p hp => by
    rcases List.mem_append.1 hp with r | r
    · obtain ⟨e1, e2⟩ := blkL_is o.own p r
      exact ⟨e2, (o.own.lt _ e1).1⟩
    · obtain ⟨q, hq, r⟩ := List.mem_flatMap.1 r
      obtain ⟨e1, e2⟩ := blkL_is (q_own (o.ok q hq) (hl q hq)) p r
      exact ⟨e2, ((q_own (o.ok q hq) (hl q hq)).lt _ e1).1⟩)
  refine ⟨Y, k1, fun z hz => ?_, fun q hq z hz => ?_, fun W' hW => ⟨?_, fun q hq => ?_, o.nd⟩⟩
  · obtain ⟨obj, m, e⟩ := blkL_has o.own hz
    exact List.mem_map.2 ⟨_, k2 _ (List.mem_append.2 (.inl m)), rfl⟩
  · obtain ⟨obj, m, e⟩ := blkL_has (q_own (o.ok q hq) (hl q hq)) (z := z) (by unfold qv; rw [hz]; rfl)
    exact List.mem_map.2 ⟨_, k2 _ (List.mem_append.2 (.inr (List.mem_flatMap.2 ⟨q, hq, m⟩))), rfl⟩
  · refine own_keep o.own (fun b hb => ?_)
    obtain ⟨ob, m, e⟩ := blkL_has o.own hb
    rw [e]
    exact hW _ (k2 _ (List.mem_append.2 (.inl m)))
  · obtain ⟨z, e1, e2, e3, e4, e5⟩ := o.ok q hq
    obtain ⟨obj, m, e⟩ := blkL_has (q_own (o.ok q hq) (hl q hq)) (z := z) (by unfold qv; rw [e1]; rfl)
    refine ⟨z, e1, e2, e3, e4, ?_⟩
    rw [← e5, e]
    exact hW _ (k2 _ (List.mem_append.2 (.inr (List.mem_flatMap.2 ⟨q, hq, m⟩))))
/-- A new list is kept. -/
theorem BkS.keepO {W0 W : World} {B bk : Nat} {late : Bool} {N : Nat} {X : List (Nat × Obj)} {v : Value} {E : TypeId} {s n : Nat} {xs : List Value} (h : BkS W0 B bk late N X) (b : Below W0.heap.size W0 W) (o : W.ownsRow W0.heap.size E s v n xs) : ∃ Y, BkS W B bk late N (Y ++ X) ∧ (∀ z, v.ownBlock = some z → z ∈ Y.map (·.1)) ∧ (∀ W', Hol W' Y → W'.ownsRow W0.heap.size E s v n xs) := by
  obtain ⟨Y, k1, k2⟩ := h.keep b (blkL W v) (fun p r => by
    obtain ⟨e1, e2⟩ := blkL_is o p r
    exact ⟨e2, (o.lt _ e1).1⟩)
  refine ⟨Y, k1, fun z hz => ?_, fun W' hW => own_keep o (fun b hb => ?_)⟩
  · obtain ⟨obj, m, e⟩ := blkL_has o hz
    exact List.mem_map.2 ⟨_, k2 _ m, rfl⟩
  · obtain ⟨ob, m, e⟩ := blkL_has o hb
    rw [e]
    exact hW _ (k2 _ m)
end Go.Proofs.YtglgdfgdfkeogaaDoor

namespace Go.Proofs.YtglgdfgdfkeogaaDoor
open Go.RowKit
set_option linter.unusedVariables false
set_option linter.unusedSimpArgs false

theorem i_bits {m : Int} (h : 0 ≤ m ∧ m ≤ 2000000000000000) : IntKind.i64.wrap (-1000 - m) = -1000 - m := by simp [IntKind.wrap, IntKind.bits, IntKind.signed]; omega
theorem i_one {k n : Nat} (h : k < n) (hn : n ≤ 2000000000000) : IntKind.i64.wrap ((k : Int) + 1) = (k : Int) + 1 := by simp [IntKind.wrap, IntKind.bits, IntKind.signed]; omega
theorem eql_rowz (a : Option Addr) (n c : Nat) (W : World) : (binOp .eql 49 (.slice a n c) (.slice none 0 0)).run Tryd.prog W = .ok (.bool a.isNone) W := by cases a <;> kernel_rfl
theorem drewN_below (w : World) (q : Nat) : Below w.heap.size w (w.drewN q) := ⟨rfl, rfl, rfl, Nat.le_refl _, fun _ _ => rfl⟩
set_option maxRecDepth 100000 in
set_option maxHeartbeats 16000000 in
theorem kept_any (B bk : Nat) (vs : List Value) (g : Bg) (sn : List (Nat × Obj)) (mark : Int) (late : Bool) (w : World) (h : Bk w B bk vs g sn mark late) (V : RawV w g (late = true)) (F : EvF sn g) (ot : Ot w) (hO : 1 < w.heap.size)
    (hb : g.rr.length ≤ 1000000000000 ∧ g.rn.length ≤ 1000000000000 ∧ g.rp.length ≤ 1000000000000) (hc : g.rv.length ≤ 1000000000000 ∧ g.ov.length ≤ 1000000000000 ∧ g.nv.length ≤ 1000000000000 ∧ g.pv.length ≤ 1000000000000) :
    Calls Tryd.prog 12 #[.pointer (some ⟨bk, 0, none⟩)] w fun e w' => e = .returned (.bool true) ∧ Below w.heap.size w w' := by
  have KR := Lib.hid (raw_any B bk vs g sn mark late (late = true) w h V hb)
  have HK := Lib.hid h
  have FF := Lib.hid F
  have OT := Lib.hid (p := ∀ W, Below w.heap.size w W → Ot W) (fun W b => ⟨(b.cell (p := ⟨1, 0, none⟩) hO).trans ot.1, (b.cell (p := ⟨1, 1, none⟩) hO).trans ot.2⟩)
  obtain ⟨N1, hN1⟩ : ∃ n, g.rv.length = n := ⟨_, rfl⟩
  obtain ⟨N2, hN2⟩ : ∃ n, g.ov.length = n := ⟨_, rfl⟩
  obtain ⟨N3, hN3⟩ : ∃ n, g.nv.length = n := ⟨_, rfl⟩
  obtain ⟨N4, hN4⟩ : ∃ n, g.pv.length = n := ⟨_, rfl⟩
  obtain ⟨b1, b2, b3, b4⟩ := hc
  rw [hN1] at b1
  rw [hN2] at b2
  rw [hN3] at b3
  rw [hN4] at b4
  have E1 := Lib.hid hN1
  have E2 := Lib.hid hN2
  have E3 := Lib.hid hN3
  have E4 := Lib.hid hN4
  have C12 := Lib.hid (p := ∀ q, (w.drewN q).cell? ⟨bk, 12, none⟩ = some (.bool late)) (fun q => by rw [World.cell?_drewN]; exact h.cells.2.1)
  clear h F ot V hb hN1 hN2 hN3 hN4 hO
  go_enter Tryd.func12, Tryd.ntmps12
  go_upto_region 2 with (go_at_call 32; refine KR.out.mono ?_; rintro e w1 ⟨⟨o, rfl, hL⟩, q, hq⟩; have L1 := Lib.hid hL; have D1 := Lib.hid (p := Below w.heap.size w w1) (by rw [hq]; exact drewN_below w q); have c12 : w1.cell? ⟨bk, 12, none⟩ = some (.bool late) := (by rw [hq]; exact C12.out q); clear hL hq)
  go_cut [0, 24] (fun v u wx => v = .pointer (some ⟨bk, 0, none⟩) ∧ u = .bool false ∧ RowKit.Hid (Below w.heap.size w wx))
  case first =>
    cases late with
    | false =>
      go_wp2
      go_meet
      case rel => exact ⟨rfl, rfl, D1.out⟩
    | true =>
      have e := L1.out rfl
      subst e
      go_wp2
      go_meet
      case rel => exact ⟨rfl, rfl, D1.out⟩
  case rest =>
    as_aux_lemma =>
      obtain ⟨rfl, rfl, hD⟩ := hcut
      rename World => wc
      have D1 := Lib.hid hD.out
      clear hD
      go_wp2
      go_loopw [4] (fun t ws => ∃ i : Nat, i ≤ N1 ∧ t = .int .i64 (i : Int) ∧ RowKit.Hid (Below w.heap.size w ws)) (fun t _ => N1 - (intOf t).toNat)
      case atStart => exact ⟨0, Nat.zero_le _, rfl, D1.out⟩
      case round =>
        obtain ⟨i, hi, rfl, hD⟩ := hrel
        rename World => ws
        have DS := Lib.hid hD.out
        clear hD
        by_cases hlt : i < N1
        · have kc : (i : Int) < (N1 : Int) := by omega
          have kwi := i_one hlt (by omega)
          have HI := Lib.hid hlt
          obtain ⟨n, hn⟩ : ∃ n, g.nn.getD i 0 = n := ⟨_, rfl⟩
          obtain ⟨m, hm⟩ : ∃ m, g.ms.getD i 0 = m := ⟨_, rfl⟩
          have HN := Lib.hid hn
          have HM := Lib.hid hm
          obtain ⟨_, mb, nb⟩ := FF.out.r i (by rw [E1.out]; exact hlt)
          rw [hm] at mb
          rw [hn] at nb
          have kwm := i_bits mb
          clear hn hm
          obtain ⟨z0, c0, z1, c1, z2, c2, gg, cap, e0, e1, e2, q0, q1, q2, hc⟩ := (HK.out.below DS.out).row_at FF.out E1.out HI.out HN.out HM.out

          go_wp2
          go_loopw [5] (fun t ws => ∃ j : Nat, j ≤ n + 80 ∧ t = .int .i64 (j : Int) ∧ RowKit.Hid (Below w.heap.size w ws)) (fun t _ => n + 80 - (intOf t).toNat)
          case atStart => exact ⟨0, Nat.zero_le _, rfl, DS.out⟩
          case round =>
            obtain ⟨j, hj, rfl, hD⟩ := hrel
            rename World => wt
            have DT := Lib.hid hD.out
            clear hD e0 e1 e2 q0 q1 q2
            obtain ⟨z0, c0, z1, c1, z2, c2, gg, cap, e0, e1, e2, q0, q1, q2, hc⟩ := (HK.out.below DT.out).row_at FF.out E1.out HI.out HN.out HM.out
            by_cases hjn : j < n + 80
            · have kj : (j : Int) < ((n + 80 : Nat) : Int) := by omega
              have kwj := i_one hjn (by omega)
              obtain ⟨o0, o1⟩ := OT.out _ DT.out
              clear hc
              have BA := Lib.hid (p := Below w.heap.size w (wt.alloc (.cells #[.bool true, .int .i64 99] 53))) (DT.out.alloc DT.out.size _)
              have HX := Lib.hid (World.alloc_heap_new wt (.cells #[.bool true, .int .i64 99] 53))
              obtain ⟨x0, x1, x2, x3⟩ := box_all2 HX.out
              obtain ⟨z0A, c0A, z1A, c1A, z2A, c2A, ggA, capA, e0A, e1A, e2A, q0A, q1A, q2A, hcA⟩ := (HK.out.below BA.out).row_at FF.out E1.out HI.out HN.out HM.out
              by_cases hjl : j < n
              · have kl : (j : Int) < (n : Int) := by omega
                have BC := Lib.hid (p := Below w.heap.size w (wt.alloc (.cells #[.bool true, .int .i64 (-1000 - m)] 53))) (DT.out.alloc DT.out.size _)
                have HC := Lib.hid (World.alloc_heap_new wt (.cells #[.bool true, .int .i64 (-1000 - m)] 53))
                obtain ⟨y0, y1, y2, y3⟩ := box_all2 HC.out
                obtain ⟨z0C, c0C, z1C, c1C, z2C, c2C, ggC, capC, e0C, e1C, e2C, q0C, q1C, q2C, hcC⟩ := (HK.out.below BC.out).row_at FF.out E1.out HI.out HN.out HM.out
                obtain ⟨d0, d1⟩ := hcC j hjn
                rw [if_pos hjl] at d1
                clear hcA hcC
                go_wp2
                go_region
                all_goals
                  go_wp2
                  go_roundw
                  case rel => exact ⟨j + 1, by omega, by go_num, below_eq BC.out rfl rfl rfl rfl⟩
                  case measure => simp [intOf]; omega
              · have kl : ¬ (j : Int) < (n : Int) := by omega
                obtain ⟨d0, d1⟩ := hcA j hjn
                rw [if_neg hjl] at d1
                clear hcA
                go_wp2
                go_region
                all_goals
                  go_wp2
                  go_roundw
                  case rel => exact ⟨j + 1, by omega, by go_num, below_eq BA.out rfl rfl rfl rfl⟩
                  case measure => simp [intOf]; omega
            · obtain rfl : j = n + 80 := by omega
              have kj : ¬ ((n + 80 : Nat) : Int) < ((n + 80 : Nat) : Int) := by omega
              clear hc
              go_wp2
              go_roundw
              case rel => exact ⟨i + 1, by omega, by go_num, DT.out⟩
              case measure => simp [intOf]; omega
        · obtain rfl : i = N1 := by omega
          have kc : ¬ (i : Int) < (i : Int) := by omega
          obtain ⟨x0, y0, s0⟩ := (HK.out.below DS.out).head (k := 0) (T := 49) (n := g.rv.length) (xs := g.rv) (by simp [Bg.fs])
          rw [E1.out] at s0
          go_wp2
          clear s0 kc
          have D1 := DS
          clear DS
          go_loopw [7] (fun t ws => ∃ i : Nat, i ≤ N2 ∧ t = .int .i64 (i : Int) ∧ RowKit.Hid (Below w.heap.size w ws)) (fun t _ => N2 - (intOf t).toNat)
          case atStart => exact ⟨0, Nat.zero_le _, rfl, D1.out⟩
          case round =>
            obtain ⟨i, hi, rfl, hD⟩ := hrel
            rename World => ws
            have DS := Lib.hid hD.out
            clear hD
            by_cases hlt : i < N2
            · have kc : (i : Int) < (N2 : Int) := by omega
              have kwi := i_one hlt (by omega)
              have HI := Lib.hid hlt
              obtain ⟨n, hn⟩ : ∃ n, g.fr.getD i 0 = n := ⟨_, rfl⟩
              have HN := Lib.hid hn
              obtain ⟨_, nb⟩ := FF.out.o i (by rw [E2.out]; exact hlt)
              rw [hn] at nb
              clear hn
              obtain ⟨z0, c0, z2, c2, gg, cap, e0, e2, q0, q2, hc⟩ := (HK.out.below DS.out).out_at FF.out E2.out HI.out HN.out

              go_wp2
              go_loopw [8] (fun t ws => ∃ j : Nat, j ≤ n + 20 ∧ t = .int .i64 (j : Int) ∧ RowKit.Hid (Below w.heap.size w ws)) (fun t _ => n + 20 - (intOf t).toNat)
              case atStart => exact ⟨0, Nat.zero_le _, rfl, DS.out⟩
              case round =>
                obtain ⟨j, hj, rfl, hD⟩ := hrel
                rename World => wt
                have DT := Lib.hid hD.out
                clear hD e0 e2 q0 q2
                obtain ⟨z0, c0, z2, c2, gg, cap, e0, e2, q0, q2, hc⟩ := (HK.out.below DT.out).out_at FF.out E2.out HI.out HN.out
                by_cases hjn : j < n + 20
                · have kj : (j : Int) < ((n + 20 : Nat) : Int) := by omega
                  have kwj := i_one hjn (by omega)
                  obtain ⟨ea, en, ec, d0, de⟩ := hc j hjn
                  clear hc
                  by_cases hjl : j < n
                  · have kl : (j : Int) < (n : Int) := by omega
                    have ee := de.2 hjl
                    subst ee
                    have ne := eql_rowz none en ec
                    clear de
                    go_wp2
                    go_region
                    all_goals
                      go_wp2
                      go_roundw
                      case rel => exact ⟨j + 1, by omega, by go_num, below_eq DT.out rfl rfl rfl rfl⟩
                      case measure => simp [intOf]; omega
                  · have kl : ¬ (j : Int) < (n : Int) := by omega
                    obtain ⟨b, eb⟩ : ∃ b, ea = some b := by
                      cases ea with
                      | none => exact absurd (de.1 rfl) hjl
                      | some b => exact ⟨b, rfl⟩
                    subst eb
                    have ne := eql_rowz (some b) en ec
                    clear de
                    go_wp2
                    go_region
                    all_goals
                      go_wp2
                      go_roundw
                      case rel => exact ⟨j + 1, by omega, by go_num, below_eq DT.out rfl rfl rfl rfl⟩
                      case measure => simp [intOf]; omega
                · obtain rfl : j = n + 20 := by omega
                  have kj : ¬ ((n + 20 : Nat) : Int) < ((n + 20 : Nat) : Int) := by omega
                  clear hc
                  go_wp2
                  go_roundw
                  case rel => exact ⟨i + 1, by omega, by go_num, DT.out⟩
                  case measure => simp [intOf]; omega
            · obtain rfl : i = N2 := by omega
              have kc : ¬ (i : Int) < (i : Int) := by omega
              obtain ⟨x0, y0, s0⟩ := (HK.out.below DS.out).head (k := 3) (T := 23) (n := g.ov.length) (xs := g.ov) (by simp [Bg.fs])
              rw [E2.out] at s0
              go_wp2
              clear s0 kc
              have D1 := DS
              clear DS
              go_loopw [9] (fun t ws => ∃ i : Nat, i ≤ N3 ∧ t = .int .i64 (i : Int) ∧ RowKit.Hid (Below w.heap.size w ws)) (fun t _ => N3 - (intOf t).toNat)
              case atStart => exact ⟨0, Nat.zero_le _, rfl, D1.out⟩
              case round =>
                obtain ⟨i, hi, rfl, hD⟩ := hrel
                rename World => ws
                have DS := Lib.hid hD.out
                clear hD
                by_cases hlt : i < N3
                · have kc : (i : Int) < (N3 : Int) := by omega
                  have kwi := i_one hlt (by omega)
                  have HI := Lib.hid hlt
                  obtain ⟨n, hn⟩ : ∃ n, g.lg.getD i 0 = n := ⟨_, rfl⟩
                  obtain ⟨m, hm⟩ : ∃ m, g.sy.getD i default = m := ⟨_, rfl⟩
                  have HN := Lib.hid hn
                  have HM := Lib.hid hm
                  obtain ⟨_, nb⟩ := FF.out.n i (by rw [E3.out]; exact hlt)
                  rw [hn] at nb
                  clear hn hm
                  obtain ⟨z0, c0, z1, c1, z2, c2, gg, cap, e0, e1, e2, q0, q1, q2, hc⟩ := (HK.out.below DS.out).nam_at FF.out E3.out HI.out HN.out HM.out

                  go_wp2
                  go_loopw [10] (fun t ws => ∃ j : Nat, j ≤ n + 70 ∧ t = .int .i64 (j : Int) ∧ RowKit.Hid (Below w.heap.size w ws)) (fun t _ => n + 70 - (intOf t).toNat)
                  case atStart => exact ⟨0, Nat.zero_le _, rfl, DS.out⟩
                  case round =>
                    obtain ⟨j, hj, rfl, hD⟩ := hrel
                    rename World => wt
                    have DT := Lib.hid hD.out
                    clear hD e0 e1 e2 q0 q1 q2
                    obtain ⟨z0, c0, z1, c1, z2, c2, gg, cap, e0, e1, e2, q0, q1, q2, hc⟩ := (HK.out.below DT.out).nam_at FF.out E3.out HI.out HN.out HM.out
                    by_cases hjn : j < n + 70
                    · have kj : (j : Int) < ((n + 70 : Nat) : Int) := by omega
                      have kwj := i_one hjn (by omega)
                      have d0 := hc j hjn
                      clear hc
                      by_cases hjl : j < n
                      · have kl : (j : Int) < (n : Int) := by omega
                        rw [if_pos hjl] at d0
                        go_wp2
                        go_roundw
                        case rel => exact ⟨j + 1, by omega, by go_num, DT.out⟩
                        case measure => simp [intOf]; omega
                      · have kl : ¬ (j : Int) < (n : Int) := by omega
                        rw [if_neg hjl] at d0
                        unfold othS at d0
                        go_wp2
                        go_roundw
                        case rel => exact ⟨j + 1, by omega, by go_num, DT.out⟩
                        case measure => simp [intOf]; omega
                    · obtain rfl : j = n + 70 := by omega
                      have kj : ¬ ((n + 70 : Nat) : Int) < ((n + 70 : Nat) : Int) := by omega
                      clear hc
                      go_wp2
                      go_roundw
                      case rel => exact ⟨i + 1, by omega, by go_num, DT.out⟩
                      case measure => simp [intOf]; omega
                · obtain rfl : i = N3 := by omega
                  have kc : ¬ (i : Int) < (i : Int) := by omega
                  obtain ⟨x0, y0, s0⟩ := (HK.out.below DS.out).head (k := 5) (T := 22) (n := g.nv.length) (xs := g.nv) (by simp [Bg.fs])
                  rw [E3.out] at s0
                  go_wp2
                  clear s0 kc
                  have D1 := DS
                  clear DS
                  go_loopw [12] (fun t ws => ∃ i : Nat, i ≤ N4 ∧ t = .int .i64 (i : Int) ∧ RowKit.Hid (Below w.heap.size w ws)) (fun t _ => N4 - (intOf t).toNat)
                  case atStart => exact ⟨0, Nat.zero_le _, rfl, D1.out⟩
                  case round =>
                    obtain ⟨i, hi, rfl, hD⟩ := hrel
                    rename World => ws
                    have DS := Lib.hid hD.out
                    clear hD
                    by_cases hlt : i < N4
                    · have kc : (i : Int) < (N4 : Int) := by omega
                      have kwi := i_one hlt (by omega)
                      have HI := Lib.hid hlt
                      obtain ⟨n, hn⟩ : ∃ n, g.wd.getD i 0 = n := ⟨_, rfl⟩
                      obtain ⟨m, hm⟩ : ∃ m, g.tl.getD i 0 = m := ⟨_, rfl⟩
                      have HN := Lib.hid hn
                      have HM := Lib.hid hm
                      obtain ⟨_, mb, nb⟩ := FF.out.p i (by rw [E4.out]; exact hlt)
                      rw [hm] at mb
                      rw [hn] at nb
                      have kwm := i_bits mb
                      clear hn hm
                      obtain ⟨z0, c0, z1, c1, z2, c2, gg, cap, e0, e1, e2, q0, q1, q2, hc⟩ := (HK.out.below DS.out).pai_at FF.out E4.out HI.out HN.out HM.out

                      go_wp2
                      go_loopw [13] (fun t ws => ∃ j : Nat, j ≤ n + 70 ∧ t = .int .i64 (j : Int) ∧ RowKit.Hid (Below w.heap.size w ws)) (fun t _ => n + 70 - (intOf t).toNat)
                      case atStart => exact ⟨0, Nat.zero_le _, rfl, DS.out⟩
                      case round =>
                        obtain ⟨j, hj, rfl, hD⟩ := hrel
                        rename World => wt
                        have DT := Lib.hid hD.out
                        clear hD e0 e1 e2 q0 q1 q2
                        obtain ⟨z0, c0, z1, c1, z2, c2, gg, cap, e0, e1, e2, q0, q1, q2, hc⟩ := (HK.out.below DT.out).pai_at FF.out E4.out HI.out HN.out HM.out
                        by_cases hjn : j < n + 70
                        · have kj : (j : Int) < ((n + 70 : Nat) : Int) := by omega
                          have kwj := i_one hjn (by omega)
                          clear hc
                          have BA := Lib.hid (p := Below w.heap.size w (wt.alloc (.cells #[.string ⟨#[]⟩, .int .i64 99] 65))) (DT.out.alloc DT.out.size _)
                          have HX := Lib.hid (World.alloc_heap_new wt (.cells #[.string ⟨#[]⟩, .int .i64 99] 65))
                          obtain ⟨x0, x1, x2, x3⟩ := box_all2 HX.out
                          obtain ⟨z0A, c0A, z1A, c1A, z2A, c2A, ggA, capA, e0A, e1A, e2A, q0A, q1A, q2A, hcA⟩ := (HK.out.below BA.out).pai_at FF.out E4.out HI.out HN.out HM.out
                          by_cases hjl : j < n
                          · have kl : (j : Int) < (n : Int) := by omega
                            have BC := Lib.hid (p := Below w.heap.size w (wt.alloc (.cells #[.string ⟨#[]⟩, .int .i64 (-1000 - m)] 65))) (DT.out.alloc DT.out.size _)
                            have HC := Lib.hid (World.alloc_heap_new wt (.cells #[.string ⟨#[]⟩, .int .i64 (-1000 - m)] 65))
                            obtain ⟨y0, y1, y2, y3⟩ := box_all2 HC.out
                            obtain ⟨z0C, c0C, z1C, c1C, z2C, c2C, ggC, capC, e0C, e1C, e2C, q0C, q1C, q2C, hcC⟩ := (HK.out.below BC.out).pai_at FF.out E4.out HI.out HN.out HM.out
                            obtain ⟨d0, d1⟩ := hcC j hjn
                            rw [if_pos hjl] at d1
                            clear hcA hcC
                            go_wp2
                            go_region
                            all_goals
                              go_wp2
                              go_roundw
                              case rel => exact ⟨j + 1, by omega, by go_num, below_eq BC.out rfl rfl rfl rfl⟩
                              case measure => simp [intOf]; omega
                          · have kl : ¬ (j : Int) < (n : Int) := by omega
                            obtain ⟨d0, d1⟩ := hcA j hjn
                            rw [if_neg hjl] at d1
                            clear hcA
                            go_wp2
                            go_region
                            all_goals
                              go_wp2
                              go_roundw
                              case rel => exact ⟨j + 1, by omega, by go_num, below_eq BA.out rfl rfl rfl rfl⟩
                              case measure => simp [intOf]; omega
                        · obtain rfl : j = n + 70 := by omega
                          have kj : ¬ ((n + 70 : Nat) : Int) < ((n + 70 : Nat) : Int) := by omega
                          clear hc
                          go_wp2
                          go_roundw
                          case rel => exact ⟨i + 1, by omega, by go_num, DT.out⟩
                          case measure => simp [intOf]; omega
                    · obtain rfl : i = N4 := by omega
                      have kc : ¬ (i : Int) < (i : Int) := by omega
                      obtain ⟨x0, y0, s0⟩ := (HK.out.below DS.out).head (k := 8) (T := 59) (n := g.pv.length) (xs := g.pv) (by simp [Bg.fs])
                      rw [E4.out] at s0
                      go_wp2
                      clear s0 kc
                      have D1 := DS
                      clear DS
                      go_ret
                      exact ⟨rfl, D1.out⟩
end Go.Proofs.YtglgdfgdfkeogaaDoor
