import Derived.Test.YtldplmchgmoopaaDoorXAT
import Derived.Test.YtldplmchgmoopaaDoorXAO
import Derived.Test.YtldplmchgmoopaaDoorXAM
import Derived.Test.YtldplmchgmoopaaDoorXAD
namespace Go.Proofs.YtldplmchgmoopaaDoor
open Go.RowKit
set_option linter.unusedVariables false
set_option linter.unusedSimpArgs false

theorem Hol.sub {W : World} {l m : List (Nat × Obj)} (h : Hol W l) (k : ∀ p ∈ m, p ∈ l) : Hol W m := fun p hp => h p (k p hp)
theorem Bk.hol {W : World} {B bk : Nat} {vs : List Value} {g : Bg} {sn : List (Nat × Obj)} {mark : Int} {late : Bool} (h : Bk W B bk vs g sn mark late) : Hol W sn := fun p hp => (h.o.st p hp).1
theorem Bk.sub {W : World} {B bk : Nat} {vs : List Value} {g : Bg} {sn sn' : List (Nat × Obj)} {mark : Int} {late : Bool} (h : Bk W B bk vs g sn mark late) (k : ∀ p ∈ sn', p ∈ sn) : Bk W B bk vs g sn' mark late := ⟨⟨h.o.hb, h.o.hl, h.o.own, h.o.ap, fun p hp => h.o.st p (k p hp)⟩, h.mt, h.lt⟩
/-- Rows that were kept as they came (or were written over behind that), and their copy. -/
def ItR (B : Nat) (sE seg : List (Nat × Obj)) (done : Prop) (rv wv : Value) : Prop :=
  ∃ a n c qs B1 qs1, rv = .slice a n c ∧ qs.length = n ∧ n ≤ 4096 ∧ (∀ q ∈ qs, q.cs.length ≤ 2000000 ∧ ∀ c ∈ q.cs, (Lit.int .i64 c.v).wf = true) ∧ (¬ done → SgR B seg rv qs) ∧ (done → OldIt sE 50 a n (List.replicate n (.slice none 0 0)) ∧ (n = 0 ∨ ∃ z, a = some ⟨z, 0, none⟩)) ∧ (∀ W, Hol W sE → RwA W B1 wv qs1) ∧ qs1.map (·.cs) = qs.map (·.cs)
def ItN (B : Nat) (sE seg : List (Nat × Obj)) (done : Prop) (rv wv : Value) : Prop :=
  ∃ (a : Option Addr) (n c : Nat) (ss : List ByteArray) (B1 : Nat), rv = .slice a n c ∧ ss.length = n ∧ n ≤ 1000000 ∧ (∀ s ∈ ss, s.size ≤ 140737488351232) ∧ (¬ done → SgO B seg 9 1 rv n (ss.map Value.string)) ∧ (done → (∃ S : ByteArray, S.size ≤ 140737488351232 ∧ OldIt sE 9 a n (List.replicate n (.string S))) ∧ (n = 0 ∨ ∃ z, a = some ⟨z, 0, none⟩)) ∧ (∀ W, Hol W sE → W.ownsRow B1 9 1 wv n (ss.map Value.string))
def ItP (B : Nat) (sE seg : List (Nat × Obj)) (done : Prop) (rv wv : Value) : Prop :=
  ∃ (a : Option Addr) (n c : Nat) (ps : List (ByteArray × Int)) (B1 : Nat), rv = .slice a n c ∧ ps.length = n ∧ n ≤ 900000000000 ∧ (¬ done → SgO B seg 67 2 rv n (prV ps)) ∧ (done → (∃ m : Int, OldIt sE 67 a (n * 2) (prV (List.replicate n (mkP m)))) ∧ (n = 0 ∨ ∃ z, a = some ⟨z, 0, none⟩)) ∧ (∀ W, Hol W sE → W.ownsRow B1 67 2 wv n (prV ps))
theorem ItR.more {B : Nat} {sE sE' seg : List (Nat × Obj)} {d d' : Prop} {rv wv : Value} (h : ItR B sE seg d rv wv) (k : ∀ p ∈ sE, p ∈ sE') (e : d' ↔ d) : ItR B sE' seg d' rv wv := by
  obtain ⟨a, n, c, qs, B1, qs1, h1, h2, h3, h4, h5, h6, h7, h8⟩ := h
  exact ⟨a, n, c, qs, B1, qs1, h1, h2, h3, h4, fun q => h5 (fun z => q (e.2 z)), fun q => ⟨(h6 (e.1 q)).1.more k, (h6 (e.1 q)).2⟩, fun W hW => h7 W (hW.sub k), h8⟩
theorem ItN.more {B : Nat} {sE sE' seg : List (Nat × Obj)} {d d' : Prop} {rv wv : Value} (h : ItN B sE seg d rv wv) (k : ∀ p ∈ sE, p ∈ sE') (e : d' ↔ d) : ItN B sE' seg d' rv wv := by
  obtain ⟨a, n, c, ss, B1, h1, h2, h3, h4, h5, h6, h7⟩ := h
  exact ⟨a, n, c, ss, B1, h1, h2, h3, h4, fun q => h5 (fun z => q (e.2 z)), fun q => by
    obtain ⟨⟨S, s1, s2⟩, s3⟩ := h6 (e.1 q)
    exact ⟨⟨S, s1, s2.more k⟩, s3⟩, fun W hW => h7 W (hW.sub k)⟩
theorem ItP.more {B : Nat} {sE sE' seg : List (Nat × Obj)} {d d' : Prop} {rv wv : Value} (h : ItP B sE seg d rv wv) (k : ∀ p ∈ sE, p ∈ sE') (e : d' ↔ d) : ItP B sE' seg d' rv wv := by
  obtain ⟨a, n, c, ss, B1, h1, h2, h3, h5, h6, h7⟩ := h
  exact ⟨a, n, c, ss, B1, h1, h2, h3, fun q => h5 (fun z => q (e.2 z)), fun q => by
    obtain ⟨⟨S, s2⟩, s3⟩ := h6 (e.1 q)
    exact ⟨⟨S, s2.more k⟩, s3⟩, fun W hW => h7 W (hW.sub k)⟩
/-- Names of one's own, as they read. -/
theorem nl_of_own {W : World} {B n c : Nat} {a : Option Addr} {ss : List ByteArray} (h : W.ownsRow B 9 1 (.slice a n c) n (ss.map Value.string)) (hn : n ≤ 8796093021952) (hs : ∀ s ∈ ss, s.size ≤ 140737488351232) : NL W a n ss := by
  have l : ss.length = n := by have := h.1; simpa using this
  refine ⟨l, hn, hs, ?_⟩
  have h0 := h
  rcases h.2 with ⟨e, e0⟩ | ⟨g, cap, cur, e, _, q1, _⟩
  · exact .inl e0
  · injection e with e1 e2 e3
    subst e1
    exact .inr ⟨g, 0, rfl, blk_lt q1, fun i hi => by
      rw [Nat.zero_add, World.ownsRow.cellAt h0 i (by omega), List.getElem?_map, List.getElem?_eq_getElem (by omega)]
      simp [List.getD, show i < ss.length by omega]⟩
theorem pl_of_own {W : World} {B n c : Nat} {a : Option Addr} {ps : List (ByteArray × Int)} (h : W.ownsRow B 67 2 (.slice a n c) n (prV ps)) (hn : n ≤ 5864062014640) : PL W a n ps := by
  have l : ps.length = n := by have := h.1; rw [prV_len2] at this; omega
  refine ⟨l, hn, ?_⟩
  have h0 := h
  rcases h.2 with ⟨e, e0⟩ | ⟨g, cap, cur, e, _, q1, _⟩
  · exact .inl e0
  · injection e with e1 e2 e3
    subst e1
    refine .inr ⟨g, 0, rfl, blk_lt q1, fun i hi => ?_⟩
    obtain ⟨k1, k2⟩ := prV_at (l := ps) (i := i) (by omega)
    rw [Nat.zero_add]
    exact ⟨by rw [World.ownsRow.cellAt h0 (i * 2) (by omega), k1], by rw [World.ownsRow.cellAt h0 (i * 2 + 1) (by omega), k2]⟩
theorem rwo_rwa {W : World} {B : Nat} {v : Value} {qs : List Rw} (h : RwO W B v qs) (hl : ∀ q ∈ qs, q.cs.length ≤ 2000000) : RwA W B v qs :=
  ⟨h.own, fun q hq => ⟨q_own (h.ok q hq) (hl q hq), by obtain ⟨_, _, _, e, _⟩ := h.ok q hq; exact e⟩⟩
/-- A list that was written over with nil, as it reads. -/
theorem rl_nil {W : World} {sE : List (Nat × Obj)} {a : Option Addr} {n : Nat} (h : OldIt sE 50 a n (List.replicate n (.slice none 0 0))) (hz : n = 0 ∨ ∃ z, a = some ⟨z, 0, none⟩) (hW : Hol W sE) (hn : n ≤ 4096) : RL W a n (List.replicate n (⟨none, 0, 0, []⟩ : Rw)) := by
  refine ⟨by simp, by omega, fun r hr => ?_, ?_⟩
  · rw [(List.mem_replicate.1 hr).2]
    exact ⟨⟨rfl, Nat.zero_le _, (fun c hc => by cases hc), .inl rfl⟩, fun _ => ⟨rfl, rfl⟩, Nat.le_refl _, Nat.zero_le _⟩
  · rcases hz with z | ⟨z, rfl⟩
    · exact .inl z
    · obtain ⟨cur, m, t⟩ := h z rfl
      refine .inr ⟨z, 0, rfl, blk_lt (hW _ m), fun i hi => ?_⟩
      rw [Nat.zero_add]
      refine cell_take (hW _ m) t hi ?_
      simp [List.getD, hi]
theorem nl_mine {W : World} {sE : List (Nat × Obj)} {a : Option Addr} {n : Nat} {S : ByteArray} (h : OldIt sE 9 a n (List.replicate n (.string S))) (hz : n = 0 ∨ ∃ z, a = some ⟨z, 0, none⟩) (hW : Hol W sE) (hn : n ≤ 8796093021952) (hS : S.size ≤ 140737488351232) : NL W a n (List.replicate n S) := by
  refine ⟨by simp, hn, fun s hs => by rw [(List.mem_replicate.1 hs).2]; exact hS, ?_⟩
  rcases hz with z | ⟨z, rfl⟩
  · exact .inl z
  · obtain ⟨cur, m, t⟩ := h z rfl
    refine .inr ⟨z, 0, rfl, blk_lt (hW _ m), fun i hi => ?_⟩
    rw [Nat.zero_add]
    refine cell_take (hW _ m) t hi ?_
    simp [List.getD, hi]
theorem pl_mine {W : World} {sE : List (Nat × Obj)} {a : Option Addr} {n : Nat} {k : Int} (h : OldIt sE 67 a (n * 2) (prV (List.replicate n (mkP k)))) (hz : n = 0 ∨ ∃ z, a = some ⟨z, 0, none⟩) (hW : Hol W sE) (hn : n ≤ 5864062014640) : PL W a n (List.replicate n (mkP k)) := by
  refine ⟨by simp, hn, ?_⟩
  rcases hz with z | ⟨z, rfl⟩
  · exact .inl z
  · obtain ⟨cur, m, t⟩ := h z rfl
    refine .inr ⟨z, 0, rfl, blk_lt (hW _ m), fun i hi => ?_⟩
    obtain ⟨k1, k2⟩ := prV_at (l := List.replicate n (mkP k)) (i := i) (by simpa using hi)
    rw [Nat.zero_add]
    exact ⟨cell_take (hW _ m) t (by omega) k1, cell_take (hW _ m) t (by omega) k2⟩
/-- What is kept: blocks a list, so many of them taken up again. -/
structure LtF (B : Nat) (sE : List (Nat × Obj)) (SR SN SP : List (List (Nat × Obj))) (i j k : Nat) (g : Bg) : Prop where
  r1 : g.rr.length = SR.length
  r2 : g.wr.length = SR.length
  n1 : g.rn.length = SN.length
  n2 : g.wn.length = SN.length
  p1 : g.rp.length = SP.length
  p2 : g.wp.length = SP.length
  r : ∀ m, m < SR.length → ItR B sE (SR.getD m []) (m < i) (g.rr.getD m default) (g.wr.getD m default)
  n : ∀ m, m < SN.length → ItN B sE (SN.getD m []) (m < j) (g.rn.getD m default) (g.wn.getD m default)
  p : ∀ m, m < SP.length → ItP B sE (SP.getD m []) (m < k) (g.rp.getD m default) (g.wp.getD m default)
def restS (S : List (List (Nat × Obj))) (i : Nat) : List (Nat × Obj) := (S.drop i).flatten
theorem restS_at {S : List (List (Nat × Obj))} {i : Nat} (h : i < S.length) : restS S i = S.getD i [] ++ restS S (i + 1) := by
  unfold restS
  rw [List.drop_eq_getElem_cons h, List.flatten_cons]
  simp [List.getD, h]
theorem restS_has {S : List (List (Nat × Obj))} {i m : Nat} (h : m < S.length) (hi : i ≤ m) : ∀ p ∈ S.getD m [], p ∈ restS S i := by
  intro p hp
  unfold restS
  refine List.mem_flatten.2 ⟨S.getD m [], ?_, hp⟩
  rw [show S.getD m [] = S[m] by simp [List.getD, h]]
  rw [List.mem_drop_iff_getElem]
  exact ⟨m - i, by omega, by congr 1; omega⟩
theorem restS_snoc (S : List (List (Nat × Obj))) (x : List (Nat × Obj)) : restS (S ++ [x]) 0 = restS S 0 ++ x := by unfold restS; simp
structure BkL (W : World) (B bk : Nat) (vs : List Value) (g : Bg) (sE : List (Nat × Obj)) (SR SN SP : List (List (Nat × Obj))) (i j k : Nat) (X : List (Nat × Obj)) (mark : Int) (late : Bool) : Prop where
  I : BkI W B bk vs g sE (restS SR i ++ (restS SN j ++ (restS SP k ++ X))) mark late
  l : LtF B sE SR SN SP i j k g
theorem BkL.below {W W' : World} {B bk : Nat} {vs : List Value} {g : Bg} {sE : List (Nat × Obj)} {SR SN SP : List (List (Nat × Obj))} {i j k : Nat} {X : List (Nat × Obj)} {mark : Int} {late : Bool} (h : BkL W B bk vs g sE SR SN SP i j k X mark late) (b : Below W.heap.size W W') : BkL W' B bk vs g sE SR SN SP i j k X mark late := ⟨h.I.below b, h.l⟩
/-- What the lists read as. -/
theorem BkL.view {W : World} {B bk : Nat} {vs : List Value} {g : Bg} {sE : List (Nat × Obj)} {SR SN SP : List (List (Nat × Obj))} {i j k : Nat} {X : List (Nat × Obj)} {mark : Int} {late : Bool} (h : BkL W B bk vs g sE SR SN SP i j k X mark late) : RawV W g (i = 0 ∧ j = 0 ∧ k = 0) := by
  have hol := h.I.b.hol
  have he : Hol W sE := hol.sub (fun p hp => List.mem_append.2 (.inl hp))
  refine ⟨h.l.r2.trans h.l.r1.symm, h.l.n2.trans h.l.n1.symm, h.l.p2.trans h.l.p1.symm, fun m hm => ?_, fun m hm => ?_, fun m hm => ?_⟩
  · rw [h.l.r1] at hm
    obtain ⟨a, n, c, qs, B1, qs1, e1, e2, e3, e4, e5, e6, e7, e8⟩ := h.l.r m hm
    have k7 := e7 W he
    obtain ⟨b, d, eb⟩ := own_form2 k7.own
    rw [eb] at k7
    have l1 : qs1.length = n := by have := congrArg List.length e8; simp at this; omega
    have wf1 : ∀ q ∈ qs1, q.cs.length ≤ 8796093021952 ∧ ∀ c ∈ q.cs, (Lit.int .i64 c.v).wf = true := fun q hq => by
      have : q.cs ∈ qs.map (·.cs) := by rw [← e8]; exact List.mem_map.2 ⟨q, hq, rfl⟩
      obtain ⟨y, hy, ey⟩ := List.mem_map.1 this
      rw [← ey]
      exact ⟨by have := (e4 y hy).1; omega, (e4 y hy).2⟩
    obtain ⟨_, w2, _⟩ := k7.rl (by omega) (fun q hq => (wf1 q hq).1) (fun q hq => (wf1 q hq).2)
    by_cases q : m < i
    · obtain ⟨o1, o2⟩ := e6 q
      exact ⟨a, n, c, b, _, d, _, _, e1, eb, rl_nil o1 o2 he e3, w2, fun z => by omega⟩
    · have ro := (e5 q).1 W (hol.sub (fun p hp => List.mem_append.2 (.inr (List.mem_append.2 (.inl (restS_has hm (by omega) p hp))))))
      rw [e1] at ro
      obtain ⟨_, w1, _⟩ := (rwo_rwa ro (fun q hq => (e4 q hq).1)).rl (by omega) (fun q hq => by have := (e4 q hq).1; omega) (fun q hq => (e4 q hq).2)
      exact ⟨a, n, c, b, _, d, _, _, e1, eb, w1, w2, fun _ => e8.symm⟩
  · rw [h.l.n1] at hm
    obtain ⟨a, n, c, ss, B1, e1, e2, e3, e4, e5, e6, e7⟩ := h.l.n m hm
    have k7 := e7 W he
    obtain ⟨b, d, eb⟩ := own_form2 k7
    rw [eb] at k7
    have w2 := nl_of_own k7 (by omega) e4
    by_cases q : m < j
    · obtain ⟨⟨S, o0, o1⟩, o2⟩ := e6 q
      exact ⟨a, n, c, b, _, d, _, _, e1, eb, nl_mine o1 o2 he (by omega) o0, w2, fun z => by omega⟩
    · have ro := (e5 q).1 W (hol.sub (fun p hp => List.mem_append.2 (.inr (List.mem_append.2 (.inr (List.mem_append.2 (.inl (restS_has hm (by omega) p hp))))))))
      rw [e1] at ro
      exact ⟨a, n, c, b, _, d, _, _, e1, eb, nl_of_own ro (by omega) e4, w2, fun _ => rfl⟩
  · rw [h.l.p1] at hm
    obtain ⟨a, n, c, ss, B1, e1, e2, e3, e5, e6, e7⟩ := h.l.p m hm
    have k7 := e7 W he
    obtain ⟨b, d, eb⟩ := own_form2 k7
    rw [eb] at k7
    have w2 := pl_of_own k7 (by omega)
    by_cases q : m < k
    · obtain ⟨⟨S, o1⟩, o2⟩ := e6 q
      exact ⟨a, n, c, b, _, d, _, _, e1, eb, pl_mine o1 o2 he (by omega), w2, fun z => by omega⟩
    · have ro := (e5 q).1 W (hol.sub (fun p hp => List.mem_append.2 (.inr (List.mem_append.2 (.inr (List.mem_append.2 (.inr (List.mem_append.2 (.inl (restS_has hm (by omega) p hp))))))))))
      rw [e1] at ro
      exact ⟨a, n, c, b, _, d, _, _, e1, eb, pl_of_own ro (by omega), w2, fun _ => rfl⟩
end Go.Proofs.YtldplmchgmoopaaDoor

namespace Go.Proofs.YtldplmchgmoopaaDoor
open Go.RowKit
set_option linter.unusedVariables false
set_option linter.unusedSimpArgs false

set_option maxHeartbeats 2000000 in
theorem columnD_any (a : Option Addr) (n cap : Nat) (ss : List ByteArray) (s : ByteArray) (w : World) (h : NL w a n ss) :
    Calls Tryd.prog 25 #[.slice a n cap, .string s] w fun e w' => e = .returned (.int .i64 (colF ss s 0)) ∧ w' = w := by
  obtain ⟨hl, hn, _, h3⟩ := h
  have HR := Lib.hid (fun r (k : Col ss s r) => k.only (colF_col ss s))
  have HA := Lib.hid (p := 0 < n → ∃ x o, a = some ⟨x, o, none⟩ ∧ ∀ i, i < n → w.cell? ⟨x, o + i, none⟩ = some (.string (ss.getD i default))) (fun h0 => by
    rcases h3 with h3 | ⟨x, o, e1, _, h3⟩
    · omega
    · exact ⟨x, o, e1, h3⟩)
  generalize colF ss s 0 = R at *
  have HL := Lib.hid hl
  clear h3 hl
  go_enter Tryd.func25, Tryd.ntmps25
  go_wp2
  go_loop [5] (fun t => ∃ k : Nat, k ≤ n ∧ t = .int .i64 k ∧ RowKit.Hid (∀ j, j < k → ss.getD j default ≠ s)) (fun t => n - (intOf t).toNat)
  case atStart => exact ⟨0, by omega, rfl, fun j hj => absurd hj (by omega)⟩
  case round =>
    obtain ⟨k, hk, rfl, hN⟩ := hrel
    by_cases hlt : k < n
    · obtain ⟨x, o, rfl, hc⟩ := HA.out (by omega)
      have c0 := hc k hlt
      have kc : (k : Int) < (n : Int) := by omega
      obtain ⟨f, hf⟩ : ∃ f, ss.getD k default = f := ⟨_, rfl⟩
      rw [hf] at c0
      clear hc
      by_cases hx : f = s
      · subst hx
        have RR := Lib.hid (HR.out k (.inr ⟨k, rfl, by rw [HL.out]; exact hlt, hf, hN.out⟩))
        clear hf
        go_wp2
        go_ret
        exact ⟨retT_int RR.out, rfl⟩
      · have NX := Lib.hid (p := ∀ j, j < k + 1 → ss.getD j default ≠ s) (fun j hj => by
          rcases (show j < k ∨ j = k by omega) with g | g
          · exact hN.out j g
          · rw [g, hf]; exact hx)
        have t1 := toList_ne hx
        have t2 : (f.toList == s.toList) = false := by simpa using t1
        clear hf hx
        go_wp2
        go_round
        case rel => exact ⟨k + 1, by omega, by go_num, NX.out⟩
        case measure => simp [intOf]; omega
    · obtain rfl : k = n := by omega
      have RR := Lib.hid (HR.out (-1) (.inl ⟨rfl, by rw [HL.out]; exact hN.out⟩))
      go_wp2
      go_ret
      exact ⟨retT_int RR.out, rfl⟩

theorem day_no {u : ByteArray} (h : ¬ u = wDay) : (u.toList == [100, 97, 121]) = false := by
  rw [beq_eq_false_iff_ne]
  intro q
  refine h ?_
  rw [Lib.toList_data] at q
  obtain ⟨⟨l⟩⟩ := u
  simp at q
  subst q
  rfl
def hdD (ws : List Wp) : Nat × Int × List ByteArray := if (ws.headD default).1 = wDay then headD ws.tail [] else ((ws.headD default).2, 51, [])
theorem headD_go {u : ByteArray} {a : Nat} {r : List Wp} {ns : List ByteArray} (h1 : ¬ ns.length = 64) (h2 : hasN ns u = false) (h3 : nameB u = true) : headD ((u, a) :: r) ns = headD r (ns ++ [u]) := by
  rw [headD, if_neg h1, if_neg (by simp [h2, h3])]
theorem hasN_col {ns : List ByteArray} {u : ByteArray} : hasN ns u = decide (0 ≤ colF ns u 0) := by
  cases h : hasN ns u with
  | true => exact (decide_eq_true (colF_mem.2 (hasN_iff.1 h))).symm
  | false =>
    refine (decide_eq_false (fun q => ?_)).symm
    rw [hasN_iff.2 (colF_mem.1 q)] at h
    cases h
/-- What stands while the head is read. -/
structure HdI (w1 W : World) (B : Nat) (v : Value) (ns : List ByteArray) : Prop where
  own : W.ownsRow B 9 1 v ns.length (ns.map Value.string)
  bel : Below B w1 W
  n64 : ns.length ≤ 64
  nm : ∀ s ∈ ns, nameB s = true
theorem HdI.below {w1 W W' : World} {B : Nat} {v : Value} {ns : List ByteArray} (h : HdI w1 W B v ns) (hB : B ≤ W.heap.size) (b : Below W.heap.size W W') : HdI w1 W' B v ns := ⟨own_back h.own b, h.bel.trans (b.mono hB), h.n64, h.nm⟩
theorem wds_split {ws : List Wp} {i : Nat} (h : i < ws.length) : ws.drop i = ((ws.getD i default).1, (ws.getD i default).2) :: ws.drop (i + 1) := by
  have e : ws.getD i default = ws[i] := by simp [List.getD, h]
  rw [List.drop_eq_getElem_cons h, e]
theorem wp_mem {ws : List Wp} {i : Nat} (h : i < ws.length) : ws.getD i default ∈ ws := by
  have e : ws.getD i default = ws[i] := by simp [List.getD, h]
  rw [e]
  exact List.getElem_mem h
set_option maxRecDepth 100000 in
set_option maxHeartbeats 8000000 in
theorem rHead_any (la : Option Addr) (ln lc le : Nat) (ws : List Wp) (w : World) (h : WdR w la ln ws) (h0 : 0 < ln) (hn : ln ≤ 2000000) (hw : ∀ u ∈ ws, u.1.size ≤ 1048576) (R : Nat × Int × List ByteArray) (hR : hdD ws = R) :
    Calls Tryd.prog 11 #[.agg #[.slice la ln lc, .int .i64 (le : Int)]] w fun e w' => ∃ v, e = .returned (.tuple #[v, .int .i64 (R.1 : Int), .int .i64 R.2.1]) ∧ w'.ownsRow w.heap.size 9 1 v R.2.2.length (R.2.2.map Value.string) ∧ Below w.heap.size w w' := by
  have HW := Lib.hid h
  have LEN := Lib.hid h.len
  have SZ := Lib.hid (p := ∀ i, i < ln → (ws.getD i default).1.size ≤ 1048576) (fun i hi => hw _ (wp_mem (by rw [← h.len]; exact hi)))
  obtain ⟨x, hx, hxl, c0, c1⟩ := h.at_ 0 h0
  subst hx
  have hb0 := below_al w (.cells #[.slice (some ⟨x, 0, none⟩) ln lc, .int .i64 (le : Int)] 46)
  have hbx := World.alloc_heap_new w (.cells #[.slice (some ⟨x, 0, none⟩) ln lc, .int .i64 (le : Int)] 46)
  have hsz : (w.alloc (.cells #[.slice (some ⟨x, 0, none⟩) ln lc, .int .i64 (le : Int)] 46)).heap.size = w.heap.size + 1 := by simp
  obtain ⟨w1, hw1⟩ : ∃ y, w.alloc (.cells #[.slice (some ⟨x, 0, none⟩) ln lc, .int .i64 (le : Int)] 46) = y := ⟨_, rfl⟩
  rw [hw1] at hb0 hbx hsz
  have B0 := Lib.hid hb0
  have BX := Lib.hid hbx
  have SZ1 := Lib.hid hsz
  have ST := Lib.hid (p := ∀ W, Below (w.heap.size + 1) w1 W → W.cell? ⟨w.heap.size, 0, none⟩ = some (.slice (some ⟨x, 0, none⟩) ln lc) ∧ Below w.heap.size w W ∧ WdR W (some ⟨x, 0, none⟩) ln ws) (fun W q => by
    have e := hb0.trans (q.mono (Nat.le_succ _))
    exact ⟨(box_all2 ((q.block _ (Nat.lt_succ_self _)).trans hbx)).1, e, h.later e⟩)
  have AT := Lib.hid (p := ∀ W, WdR W (some ⟨x, 0, none⟩) ln ws → ∀ i, i < ln → W.cell? ⟨x, i * 2, none⟩ = some (.string (ws.getD i default).1) ∧ W.cell? ⟨x, i * 2 + 1, none⟩ = some (.int .i64 ((ws.getD i default).2 : Int))) (fun W q i hi => by
    obtain ⟨y, e, _, a, b⟩ := q.at_ i hi
    injection e with e
    injection e with e
    subst e
    exact ⟨a, b⟩)
  obtain ⟨f0, _, f2⟩ := ST.out w1 (Below.refl _ _)
  obtain ⟨d0, d1⟩ := AT.out w1 f2 0 h0
  rw [Nat.zero_mul] at d0
  rw [Nat.zero_mul, Nat.zero_add] at d1
  have HE := Lib.hid (p := ws.headD default = ws.getD 0 default) (by cases ws <;> rfl)
  have TL := Lib.hid (p := ws.tail = ws.drop 1) (by cases ws <;> rfl)
  have KC := Lib.hid (fun (u : ByteArray) (hu : u.size ≤ 1048576) (W : World) => rCapital_any u W (by omega))
  clear h hw hb0 hbx hsz c0 c1 f2
  unfold hdD at hR
  rw [HE.out, TL.out] at hR
  obtain ⟨p0, hp0⟩ : ∃ p0, ws.getD 0 default = p0 := ⟨_, rfl⟩
  rw [hp0] at hR d0 d1
  obtain ⟨u0, a0⟩ := p0
  simp only at hR d0 d1
  clear HE TL hp0
  subst hw1
  by_cases hday : u0 = wDay
  · rw [if_pos hday] at hR
    subst hday
    unfold wDay at d0
    go_enter Tryd.func11, Tryd.ntmps11
    go_upto_region 5 with fail
    clear f0 d0 d1
    obtain ⟨w1, hw1⟩ : ∃ y, w.alloc (.cells #[.slice (some ⟨x, 0, none⟩) ln lc, .int .i64 (le : Int)] 46) = y := ⟨_, rfl⟩
    rw [hw1] at B0 BX SZ1 ST
    rw [hw1]
    clear hw1
    go_loopw [5, 6] (fun t5 t6 ww => ∃ (i : Nat) (ns : List ByteArray), 1 ≤ i ∧ i ≤ ln ∧ t6 = .int .i64 (i : Int) ∧ RowKit.Hid (HdI w1 ww (w.heap.size + 1) t5 ns ∧ ns.length + 1 = i ∧ headD (ws.drop i) ns = R)) (fun _ t6 _ => ln - (intOf t6).toNat)
    case atStart => exact ⟨1, [], Nat.le_refl _, h0, rfl, ⟨World.ownsRow_nil _ _ _ _, Below.refl _ _, Nat.zero_le _, (fun s h => by cases h)⟩, rfl, hR⟩
    case round =>
      clear hR
      rename Value => v
      obtain ⟨i, ns, h1i, hil, rfl, hQ⟩ := hrel
      rename World => ww
      have HI := Lib.hid hQ.out.1
      have NI := Lib.hid hQ.out.2.1
      have RI := Lib.hid hQ.out.2.2
      clear hQ
      obtain ⟨f0, eb, fw⟩ := ST.out _ HI.out.bel
      have EB := Lib.hid eb
      have SW := Lib.hid (p := w.heap.size + 1 ≤ ww.heap.size) (by have := HI.out.bel.size; have := SZ1.out; omega)
      by_cases hlt : i < ln
      · have kc : (i : Int) < (ln : Int) := by omega
        have kw : IntKind.i64.wrap ((i : Int) + 1) = (i : Int) + 1 := by simp [IntKind.wrap, IntKind.bits, IntKind.signed]; omega
        obtain ⟨d0, d1⟩ := AT.out _ fw i hlt
        have SP := wds_split (ws := ws) (i := i) (by rw [← LEN.out]; exact hlt)
        have su := SZ.out i hlt
        obtain ⟨p, hp⟩ : ∃ p, ws.getD i default = p := ⟨_, rfl⟩
        rw [hp] at d0 d1 SP su
        obtain ⟨u, a⟩ := p
        simp only at d0 d1 SP su
        have R1 := RI.out
        rw [SP, headD] at R1
        clear SP hp fw eb
        have BA := Lib.hid (below_al ww (.cells #[.string u, .int .i64 (a : Int)] 49))
        have HA := Lib.hid (HI.out.below SW.out BA.out)
        have EA := Lib.hid (EB.out.trans (BA.out.mono EB.out.size))
        obtain ⟨e0, e1, _, _⟩ := box_all2 (World.alloc_heap_new ww (.cells #[.string u, .int .i64 (a : Int)] 49))
        by_cases h64 : ns.length = 64
        · rw [if_pos h64] at R1
          subst R1
          have k64 : (64 : Int) < (i : Int) := by have := NI.out; omega
          go_wp2
          go_region_held3 (fun w' => w'.cell? ⟨ww.heap.size, 1, none⟩ = some (.int .i64 (a : Int))) (first | exact e1) (fail)
          go_wp2
          refine bodyPost_ret (v := .tuple #[.slice none 0 0, .int .i64 (a : Int), .int .i64 6]) (by simp [results, Tryd.results11, go_sem]) rfl ?_
          exact ⟨_, rfl, World.ownsRow_nil _ _ _ _, below_eq EA.out rfl rfl rfl rfl⟩
        · rw [if_neg h64] at R1
          have k64 : ¬ (64 : Int) < (i : Int) := by have := NI.out; have := HI.out.n64; omega
          have KU := Lib.hid (fun W => KC.out u su W)
          obtain ⟨na, nc, hv⟩ := own_form2 HI.out.own
          subst hv
          have KX := Lib.hid (fun (W : World) (q : W.ownsRow (w.heap.size + 1) 9 1 (.slice na ns.length nc) ns.length (ns.map Value.string)) => columnD_any na ns.length nc ns u W (nl_of_own q (by have := HI.out.n64; omega) (fun s hs => by have := name31 (HI.out.nm s hs); omega)))
          rw [hasN_col] at R1
          obtain ⟨cf, hcf⟩ : ∃ c, colF ns u 0 = c := ⟨_, rfl⟩
          rw [hcf] at R1 KX
          clear hcf
          cases hb : nameB u with
          | false =>
            rw [hb] at KU R1
            rw [if_pos (.inr rfl)] at R1
            subst R1
            go_wp2_with (first | (go_at_call 24; refine (KU.out _).mono ?_; rintro e w' ⟨rfl, rfl⟩))
            go_region_held3 (fun w' => w'.cell? ⟨ww.heap.size, 1, none⟩ = some (.int .i64 (a : Int))) (first | exact e1) (fail)
            go_wp2
            refine bodyPost_ret (v := .tuple #[.slice none 0 0, .int .i64 (a : Int), .int .i64 52]) (by simp [results, Tryd.results11, go_sem]) rfl ?_
            exact ⟨_, rfl, World.ownsRow_nil _ _ _ _, below_eq EA.out rfl rfl rfl rfl⟩
          | true =>
            rw [hb] at KU R1
            by_cases hc : 0 ≤ cf
            · rw [if_pos (.inl (decide_eq_true hc))] at R1
              subst R1
              go_wp2_with (first | (go_at_call 24; refine (KU.out _).mono ?_; rintro e w' ⟨rfl, rfl⟩) | (go_at_call 25; refine (KX.out _ HA.out.own).mono ?_; rintro e w' ⟨rfl, rfl⟩))
              go_region_held3 (fun w' => w'.cell? ⟨ww.heap.size, 1, none⟩ = some (.int .i64 (a : Int))) (first | exact e1) (fail)
              go_wp2
              refine bodyPost_ret (v := .tuple #[.slice none 0 0, .int .i64 (a : Int), .int .i64 52]) (by simp [results, Tryd.results11, go_sem]) rfl ?_
              exact ⟨_, rfl, World.ownsRow_nil _ _ _ _, below_eq EA.out rfl rfl rfl rfl⟩
            · rw [if_neg (by simp [hc])] at R1
              have RN := Lib.hid R1
              clear R1
              have B2 := Lib.hid (below_al (ww.alloc (.cells #[.string u, .int .i64 (a : Int)] 49)) (.cells #[.string u] 9))
              have S2 := Lib.hid (p := w.heap.size + 1 ≤ (ww.alloc (.cells #[.string u, .int .i64 (a : Int)] 49)).heap.size) (Nat.le_trans SW.out BA.out.size)
              have H2 := Lib.hid (HA.out.below S2.out B2.out)
              have SB := Lib.hid (Nat.le_trans S2.out B2.out.size)
              have n64 := HI.out.n64
              have NW := Lib.hid (one_news (ww.alloc (.cells #[.string u, .int .i64 (a : Int)] 49)) (.string u) 9)
              rw [World.size_alloc] at NW
              go_wp2_with (first
                | (go_at_call 24; refine (KU.out _).mono ?_; rintro e w' ⟨rfl, rfl⟩)
                | (go_at_call 25; refine (KX.out _ HA.out.own).mono ?_; rintro e w' ⟨rfl, rfl⟩)
                | (at_builtin; refine wp_appG Tryd.underlying27 infoS rfl (by decide) _ (w.heap.size + 1) SB.out (some ⟨ww.heap.size + 1, 0, none⟩) 1 1 [.string u] rfl NW.out (fun e => by cases e) (by simp [Value.oneCell']) rfl _ _ rfl _ _ _ rfl H2.out.own rfl (by unfold maxLen; omega) (by omega) ?_; intro v5 w5 O5 G5; have P5 := Lib.hid (p := HdI w1 w5 (w.heap.size + 1) v5 (ns ++ [u])) ⟨by rw [List.length_append, List.map_append]; exact O5, H2.out.bel.grown G5 SB.out (fun k e => (H2.out.own.lt k e).1), by rw [List.length_append, List.length_singleton]; omega, fun s hs => by rcases List.mem_append.1 hs with q | q; exact HI.out.nm s q; rw [List.mem_singleton.1 q]; exact hb⟩; clear O5 G5))
              go_roundw
              case rel => exact ⟨i + 1, ns ++ [u], by omega, by omega, by go_num, P5.out, by rw [List.length_append, List.length_singleton]; have := NI.out; omega, RN.out⟩
              case measure => simp [intOf]; omega
      · obtain rfl : i = ln := by omega
        have kc : ¬ (i : Int) < (i : Int) := by omega
        have R1 := RI.out
        rw [List.drop_eq_nil_of_le (by rw [LEN.out]; omega), headD] at R1
        subst R1
        obtain ⟨na, nc, hv⟩ := own_form2 HI.out.own
        subst hv
        go_wp2
        refine bodyPost_ret (v := .tuple #[.slice na ns.length nc, .int .i64 0, .int .i64 0]) (by simp [results, Tryd.results11, go_sem]) rfl ?_
        exact ⟨_, rfl, own_mono HI.out.own (Nat.le_succ _), EB.out⟩
  · rw [if_neg hday] at hR
    subst hR
    have hd2 := day_no hday
    go_enter Tryd.func11, Tryd.ntmps11
    go_wp2
    go_region_held3 (fun w' => w'.cell? ⟨w.heap.size, 0, none⟩ = some (.slice (some ⟨x, 0, none⟩) ln lc) ∧ w'.cell? ⟨x, 1, none⟩ = some (.int .i64 (a0 : Int))) (first | exact ⟨f0, d1⟩) (fail)
    go_wp2
    refine bodyPost_ret (v := .tuple #[.slice none 0 0, .int .i64 (a0 : Int), .int .i64 51]) (by simp [results, Tryd.results11, go_sem]) rfl ?_
    exact ⟨_, rfl, World.ownsRow_nil _ _ _ _, below_eq B0.out rfl rfl rfl rfl⟩
end Go.Proofs.YtldplmchgmoopaaDoor

namespace Go.Proofs.YtldplmchgmoopaaDoor
open Go.RowKit
set_option linter.unusedVariables false

/-- The digits (the last first, at most 40) and the sign of a row of bytes, from its end on. -/
def col : List UInt8 → List Int × Bool
  | [] => ([], false)
  | c :: r => (if 0 ≤ (c.toNat : Int) - 48 ∧ (c.toNat : Int) - 48 ≤ 9 ∧ (col r).1.length < 40 then (col r).1 ++ [(c.toNat : Int) - 48] else (col r).1, (col r).2 || decide (c.toNat = 45))
theorem col_digs : ∀ l, Digs (col l).1 ∧ (col l).1.length ≤ 40
  | [] => ⟨digs_nil, by simp [col]⟩
  | c :: r => by
    have i := col_digs r
    simp only [col]
    split
    · rename_i h
      exact ⟨digs_snoc i.1 (by omega) (by omega), by simp; omega⟩
    · exact i
theorem col_non {c : UInt8} {r : List UInt8} (h : ¬ (0 ≤ (c.toNat : Int) - 48 ∧ (c.toNat : Int) - 48 ≤ 9)) : (col (c :: r)).1 = (col r).1 := by
  simp only [col]; rw [if_neg (fun q => h ⟨q.1, q.2.1⟩)]
theorem col_46 {r : List UInt8} : (col (46 :: r)).2 = (col r).2 := by simp [col]
theorem col_45 {r : List UInt8} : (col (45 :: r)).2 = true := by simp [col]
def zOf (l : List UInt8) : Int := if (col l).2 = true then -(dval (col l).1) else dval (col l).1
theorem col_refS (p : Nat) {ds : List Int} (h : Digs ds) : ∀ k, k ≤ 40 → (col (refS p ds k)).1.length = k ∧ dval (col (refS p ds k)).1 = dval (ds.take k) ∧ (col (refS p ds k)).2 = false
  | 0, _ => by simp [refS, col, dval]
  | k + 1, hk => by
    have i := col_refS p h k (by omega)
    have d := h k
    have db : (UInt8.ofNat (48 + (ds.getD k 0).toNat)).toNat = 48 + (ds.getD k 0).toNat := ofNat_d (by omega)
    have key : ∀ r : List UInt8, (col r).1.length = k ∧ dval (col r).1 = dval (ds.take k) ∧ (col r).2 = false →
        (col (UInt8.ofNat (48 + (ds.getD k 0).toNat) :: r)).1.length = k + 1 ∧ dval (col (UInt8.ofNat (48 + (ds.getD k 0).toNat) :: r)).1 = dval (ds.take (k + 1)) ∧ (col (UInt8.ofNat (48 + (ds.getD k 0).toNat) :: r)).2 = false := by
      intro r ⟨a, b, c⟩
      simp only [col]
      rw [db, if_pos (by omega), c]
      refine ⟨by simp [a], ?_, by simp; omega⟩
      rw [dval_snoc, a, b, dval_take_succ]
      congr 2
      omega
    rw [refS]
    split
    · refine key _ ?_
      show (col (46 :: refS p ds k)).1.length = k ∧ dval (col (46 :: refS p ds k)).1 = dval (ds.take k) ∧ (col (46 :: refS p ds k)).2 = false
      rw [col_non (c := 46) (fun q => by have e : (((46 : UInt8).toNat : Nat) : Int) = 46 := rfl
                                         omega), col_46]
      exact i
    · exact key _ i
/-- A text's digits are its number. -/
theorem zOf_dtx (x : Int) (hx : inR x) (p : Nat) (hp : p ≤ 18) {ds : List Int} (h : Digs ds) (hn : Norm ds) (hv : dval ds = absI x) : zOf (dtx x p) = x := by
  have b := absI_bd x hx
  have e : dtx x p = if decide (x < 0) then 45 :: refS p ds (max ds.length (p + 1)) else refS p ds (max ds.length (p + 1)) := texts_one h hn (by omega) _ p
  have hl : ds.length ≤ 19 := norm_len h hn (by rw [hv, ten19]; omega)
  have c := col_refS p h (max ds.length (p + 1)) (by omega)
  have t : dval (ds.take (max ds.length (p + 1))) = dval ds := dval_take_all ds _ (by omega)
  rw [e]
  by_cases g : x < 0
  · rw [if_pos (decide_eq_true g)]
    unfold zOf
    rw [col_45, if_pos rfl, col_non (c := 45) (fun q => by have e : (((45 : UInt8).toNat : Nat) : Int) = 45 := rfl
                                                           omega), c.2.1, t, hv, absI_neg g]
    omega
  · rw [if_neg (by simp [g])]
    unfold zOf
    rw [if_neg (by rw [c.2.2]; simp), c.2.1, t, hv, absI_pos g]
end Go.Proofs.YtldplmchgmoopaaDoor
