/-
  WALK: LegsCounts.
-/
import Derived.Test.YtmhfegdjcdnneaaWX11
namespace Go.Proofs.Ytmhfegdjcdnneaa
open Go.RowKit Go.Shelf
attribute [local go_sem] Oper.semAt_some
set_option linter.unusedVariables false
set_option linter.unusedSimpArgs false

set_option maxRecDepth 100000 in
theorem eql_fnX (f : Fn) (x y : Array Value) (W : World) : (binOp .eql 31 (.func f x y) Value.nilFunc).run Try.prog W = .ok (.bool false) W := rfl
/-- What the law holds behind its front. -/
structure FR (w W : World) (leave : Int) (bw bi kb : Nat) (v : Value) (L : List (Int × Int)) : Prop where
  l : Boxed W (w.heap.size + 1) 3 (.int .i64 leave)
  r : Boxed W (w.heap.size + 1 + 1) 4 (.bool false)
  b : Boxed W bw 27 v
  q : Boxed W bi 31 (.func (.func 33) #[] #[.pointer (some ⟨kb, 0, none⟩)])
  ls : RdL W v L
  it : ItX W kb L
  bel : Below w.heap.size w W
theorem FR.later {w W W' : World} {leave : Int} {bw bi kb : Nat} {v : Value} {L : List (Int × Int)} (h : FR w W leave bw bi kb v L) (k : Below W.heap.size W W') : FR w W' leave bw bi kb v L :=
  ⟨xbox_bel h.l k, xbox_bel h.r k, xbox_bel h.b k, xbox_bel h.q k, h.ls.later k, h.it.later k, h.bel.trans (k.mono h.bel.size)⟩
/-- What is left of an expression whose list is written over. -/
def spoilt (e : Xt) : Xt := .mk e.op e.num e.day (List.replicate e.kids.length (.mk 5 77 77 []))
theorem ns_rep (n : Nat) : Xt.ns (List.replicate n (.mk 5 77 77 [])) = n := by
  induction n with
  | zero => rfl
  | succ n ih => simp only [List.replicate_succ, Xt.ns, ih, Xt.n]; omega
theorem spoilt_n (e : Xt) (h : e.n ≤ 1048576) : (spoilt e).n ≤ 1048576 := by
  cases e with
  | mk op num day kids =>
    simp only [Xt.n] at h
    have := ns_len kids
    simp only [spoilt, Xt.n, Xt.kids, ns_rep]
    omega
/-- The expression that is left, where it lies. -/
theorem spoilt_xv {w w' : World} {lo hi : Nat} {e : Xt} {vs : List Value} (h : XO w lo hi e vs) (hs : ∀ b n c, vs.getD 3 default = .slice (some ⟨b, 0, none⟩) n c → Spt w' b n) (hw : hi ≤ w'.heap.size) : XV w' (spoilt e) vs := by
  cases h with
  | @mk _ _ op num day kids ka kc V L H wop wnum wday hk hn hr hR hO hkids =>
    have e1 : kids.length = (List.replicate kids.length (Xt.mk 5 77 77 [])).length := by simp
    have key : XV w' (.mk op num day (List.replicate kids.length (.mk 5 77 77 []))) [.int .i64 op, .int .i64 num, .int .i64 day, .slice ka (List.replicate kids.length (Xt.mk 5 77 77 [])).length kc] := by
      refine .mk (fun _ => [.int .i64 5, .int .i64 77, .int .i64 77, .slice none 0 0]) wop wnum wday (by rw [← e1]; exact hk) (by rw [← e1]; exact hn) ?_ ?_
      · rw [← e1]
        rcases hr with hr | ⟨b, rfl, h1, h2, _⟩
        · exact .inl hr
        · refine .inr ⟨b, 0, rfl, by omega, fun i hi j hj => ?_⟩
          have := hs b kids.length kc rfl i hi
          rw [Nat.zero_add]
          match j, hj with
          | 0, _ => exact this.1
          | 1, _ => exact this.2.1
          | 2, _ => exact this.2.2.1
          | 3, _ => exact this.2.2.2
      · intro i hi
        rw [← e1] at hi
        rw [show (List.replicate kids.length (Xt.mk 5 77 77 [])).getD i default = Xt.mk 5 77 77 [] by simp [List.getD, hi]]
        exact .mk (kids := []) (fun _ => []) (show (Lit.int .i64 5).wf = true by decide) (show (Lit.int .i64 77).wf = true by decide) (show (Lit.int .i64 77).wf = true by decide) ⟨fun _ => ⟨rfl, rfl⟩, Nat.le_refl _, by unfold maxLen; omega⟩ (by simp) (.inl rfl) (fun i hi => absurd hi (by simp))
    rw [← e1] at key
    exact key
theorem pre_snocX {L D : List (Int × Int)} {x : Int × Int} (h : L <+: D) (hl : L.length < D.length) (hx : D.getD L.length (0, 0) = x) : L ++ [x] <+: D := by
  obtain ⟨r, rfl⟩ := h
  cases r with
  | nil => simp at hl
  | cons y r =>
    simp [List.getD] at hx
    subst hx
    exact ⟨r, by simp⟩
theorem pre_lastX {L D : List (Int × Int)} {x : Int × Int} (h : L ++ [x] <+: D) : D.getD L.length (0, 0) = x := by
  obtain ⟨r, rfl⟩ := h
  simp [List.getD]
theorem xput_other {W : World} {l k : Nat} {o o' : Obj} (h : W.heap[k]? = some o) (hne : l ≠ k) : (W.putObj l o').heap[k]? = some o :=
  ((grownBy_putObj' W l o').block k (Array.getElem?_eq_some_iff.1 h).1 (fun e => by cases e; exact hne rfl)).trans h
/-- The deferred calls behind p loops. -/
def Mk (lo : Nat) (Es : List Nat) (W : World) : Prop := Es.Pairwise (· > ·) ∧ ∀ E ∈ Es, lo ≤ E ∧ W.heap[E]? = some (.deferred (some []))
theorem Mk.keep {lo : Nat} {Es : List Nat} {W W' : World} (h : Mk lo Es W) (k : KeepsOthers W W') : Mk lo Es W' := ⟨h.1, fun E hE => ⟨(h.2 E hE).1, k.same E _ (h.2 E hE).2 rfl⟩⟩
theorem Mk.grown {lo : Nat} {Es : List Nat} {W W' : World} {row : Option Nat} (h : Mk lo Es W) (hg : W.grownBy W' row) (hr : ∀ r, row = some r → r ∉ Es) : Mk lo Es W' := ⟨h.1, fun E hE => ⟨(h.2 E hE).1, (hg.block E (Array.getElem?_eq_some_iff.1 (h.2 E hE).2).1 (fun e => hr E e.symm hE)).trans (h.2 E hE).2⟩⟩
theorem Mk.lt {lo : Nat} {Es : List Nat} {W : World} (h : Mk lo Es W) {E : Nat} (hE : E ∈ Es) : E < W.heap.size := (Array.getElem?_eq_some_iff.1 (h.2 E hE).2).1
theorem Mk.cons {lo : Nat} {Es : List Nat} {W : World} (h : Mk lo Es W) {E : Nat} (h1 : ∀ e ∈ Es, e < E) (h2 : lo ≤ E) (h3 : W.heap[E]? = some (.deferred (some []))) : Mk lo (E :: Es) W :=
  ⟨List.pairwise_cons.2 ⟨fun e he => h1 e he, h.1⟩, fun e he => by
    rcases List.mem_cons.1 he with rfl | he
    · exact ⟨h2, h3⟩
    · exact h.2 e he⟩
theorem slice_inj {a b : Option Addr} {n m c d : Nat} (h : Value.slice a n c = Value.slice b m d) : a = b ∧ c = d := by
  injection h with h1 h2 h3; exact ⟨h1, h3⟩
theorem xothers_bel {W W' : World} (b : Below W.heap.size W W') : KeepsOthers W W' := ⟨b.size, fun k o hk _ => (b.block k (Array.getElem?_eq_some_iff.1 hk).1).trans hk⟩
def dfs (Es : List Nat) : List Deferred := Es.map (fun E => { target := .collected E, args := #[] })
/-- Between two rounds. -/
def PassX (w wf : World) (bw bi : Nat) (a : Act) (W : World) : Prop := ∃ (p : Nat) (Es : List Nat) (t : Int) (u : Nat → Value),
  a = { tmps := #[u 0, u 1, u 2, u 3, .pointer (some ⟨w.heap.size + 1 + 1, 0, none⟩), .pointer (some ⟨bw, 0, none⟩), u 6, .pointer (some ⟨bi, 0, none⟩), u 8, .pointer (some ⟨wf.heap.size, 0, none⟩), u 10, u 11, .int .i64 (p : Int), u 13, u 14, u 15, u 16, u 17, u 18, u 19, u 20, u 21, u 22, u 23, u 24, u 25, u 26, u 27, u 28, u 29, u 30, u 31, u 32, u 33, u 34, u 35, u 36, u 37, u 38, u 39, u 40, u 41, u 42, u 43, u 44, u 45, u 46, u 47, u 48, u 49, u 50, u 51, u 52, u 53, u 54, u 55, u 56, u 57, u 58, u 59, u 60, u 61, u 62, u 63, u 64, u 65, u 66, u 67, u 68, u 69, u 70, u 71, u 72, u 73, u 74, u 75, u 76, u 77, u 78, u 79, u 80, u 81, u 82, u 83, u 84, u 85, u 86, u 87, u 88, u 89, u 90, u 91, u 92, u 93, u 94, u 95, u 96, u 97, u 98, u 99, u 100, u 101, u 102], defers := dfs Es } ∧ p ≤ 2 ∧ Es.length = p + 1 ∧ Boxed W wf.heap.size 3 (.int .i64 t) ∧ Below wf.heap.size wf W ∧ Mk wf.heap.size Es W
theorem passX_mk {w wf : World} {bw bi : Nat} (a : Act) (W : World) (p : Nat) (Es : List Nat) (t : Int) (ha : a = { tmps := #[a.tmps.getD 0 undef, a.tmps.getD 1 undef, a.tmps.getD 2 undef, a.tmps.getD 3 undef, .pointer (some ⟨w.heap.size + 1 + 1, 0, none⟩), .pointer (some ⟨bw, 0, none⟩), a.tmps.getD 6 undef, .pointer (some ⟨bi, 0, none⟩), a.tmps.getD 8 undef, .pointer (some ⟨wf.heap.size, 0, none⟩), a.tmps.getD 10 undef, a.tmps.getD 11 undef, .int .i64 (p : Int), a.tmps.getD 13 undef, a.tmps.getD 14 undef, a.tmps.getD 15 undef, a.tmps.getD 16 undef, a.tmps.getD 17 undef, a.tmps.getD 18 undef, a.tmps.getD 19 undef, a.tmps.getD 20 undef, a.tmps.getD 21 undef, a.tmps.getD 22 undef, a.tmps.getD 23 undef, a.tmps.getD 24 undef, a.tmps.getD 25 undef, a.tmps.getD 26 undef, a.tmps.getD 27 undef, a.tmps.getD 28 undef, a.tmps.getD 29 undef, a.tmps.getD 30 undef, a.tmps.getD 31 undef, a.tmps.getD 32 undef, a.tmps.getD 33 undef, a.tmps.getD 34 undef, a.tmps.getD 35 undef, a.tmps.getD 36 undef, a.tmps.getD 37 undef, a.tmps.getD 38 undef, a.tmps.getD 39 undef, a.tmps.getD 40 undef, a.tmps.getD 41 undef, a.tmps.getD 42 undef, a.tmps.getD 43 undef, a.tmps.getD 44 undef, a.tmps.getD 45 undef, a.tmps.getD 46 undef, a.tmps.getD 47 undef, a.tmps.getD 48 undef, a.tmps.getD 49 undef, a.tmps.getD 50 undef, a.tmps.getD 51 undef, a.tmps.getD 52 undef, a.tmps.getD 53 undef, a.tmps.getD 54 undef, a.tmps.getD 55 undef, a.tmps.getD 56 undef, a.tmps.getD 57 undef, a.tmps.getD 58 undef, a.tmps.getD 59 undef, a.tmps.getD 60 undef, a.tmps.getD 61 undef, a.tmps.getD 62 undef, a.tmps.getD 63 undef, a.tmps.getD 64 undef, a.tmps.getD 65 undef, a.tmps.getD 66 undef, a.tmps.getD 67 undef, a.tmps.getD 68 undef, a.tmps.getD 69 undef, a.tmps.getD 70 undef, a.tmps.getD 71 undef, a.tmps.getD 72 undef, a.tmps.getD 73 undef, a.tmps.getD 74 undef, a.tmps.getD 75 undef, a.tmps.getD 76 undef, a.tmps.getD 77 undef, a.tmps.getD 78 undef, a.tmps.getD 79 undef, a.tmps.getD 80 undef, a.tmps.getD 81 undef, a.tmps.getD 82 undef, a.tmps.getD 83 undef, a.tmps.getD 84 undef, a.tmps.getD 85 undef, a.tmps.getD 86 undef, a.tmps.getD 87 undef, a.tmps.getD 88 undef, a.tmps.getD 89 undef, a.tmps.getD 90 undef, a.tmps.getD 91 undef, a.tmps.getD 92 undef, a.tmps.getD 93 undef, a.tmps.getD 94 undef, a.tmps.getD 95 undef, a.tmps.getD 96 undef, a.tmps.getD 97 undef, a.tmps.getD 98 undef, a.tmps.getD 99 undef, a.tmps.getD 100 undef, a.tmps.getD 101 undef, a.tmps.getD 102 undef], defers := dfs Es }) (h : p ≤ 2 ∧ Es.length = p + 1 ∧ Boxed W wf.heap.size 3 (.int .i64 t) ∧ Below wf.heap.size wf W ∧ Mk wf.heap.size Es W) : PassX w wf bw bi a W :=
  ⟨p, Es, t, fun k => a.tmps.getD k undef, ha, h⟩
set_option maxRecDepth 100000 in
set_option maxHeartbeats 4000000 in
theorem legsCounts_walk {e : Xt} {vs : List Value} (leave : Int) (w : World) (hE : XV w e vs) :
    Calls Try.prog 3 #[.agg vs.toArray, .int .i64 leave] w fun e' w' => e' = .returned (.bool true) ∧ Below w.heap.size w w' := by
  have HE := Lib.hid hE
  obtain ⟨v0, v1, v2, v3, hv⟩ := hE.four
  subst hv
  obtain ⟨w0, hw0⟩ : ∃ w0, ((w.alloc (.cells #[v0, v1, v2, v3] 24)).alloc (.cells #[.int .i64 leave] 3)).alloc (.cells #[.bool false] 4) = w0 := ⟨_, rfl⟩
  have X0 := Lib.hid (show Below w.heap.size w w0 ∧ Bk w0 w.heap.size #[v0, v1, v2, v3] 24 ∧ Boxed w0 (w.heap.size + 1) 3 (.int .i64 leave) ∧ Boxed w0 (w.heap.size + 1 + 1) 4 (.bool false) by
    subst hw0
    refine ⟨(((Below.refl _ _).alloc (Nat.le_refl _) _).alloc (by simp) _).alloc (by simp; omega) _, ((Bk.new w _ _).alloc _).alloc _, ?_, ?_⟩
    · have := (Boxed.new (w.alloc (.cells #[v0, v1, v2, v3] 24)) 3 (.int .i64 leave)).alloc (.cells #[.bool false] 4)
      rw [World.size_alloc] at this
      exact this
    · have := Boxed.new ((w.alloc (.cells #[v0, v1, v2, v3] 24)).alloc (.cells #[.int .i64 leave] 3)) 4 (.bool false)
      rw [World.size_alloc, World.size_alloc] at this
      exact this)
  have HW0 := Lib.hid hw0
  have ef := eql_fnX
  have KF := Lib.hid (few_any HE.out w0 X0.out.1)
  clear hE hw0
  refine (callsIn_wide (n := 5)).1 ?_
  refine callsIn_of_wp_marks Try.func3 rfl trivial ?_ rfl
  simp only [Try.ntmps3, List.size_toArray, List.length_cons, List.length_nil, Nat.reduceAdd, Nat.reduceSub, Array.replicate_succ, Array.replicate_zero, List.push_toArray, List.append_toArray, List.nil_append, List.cons_append]
  refine wpIn_wide.2 ?_
  go_wp2_with fail
  rw [HW0.out]
  clear HW0
  go_at_call 6
  refine KF.out.mono ?_
  rintro e' w1 ⟨b, rfl, hfew, b1⟩
  have FW := Lib.hid hfew.out
  have B1 := Lib.hid b1
  have BW1 := Lib.hid (X0.out.1.trans (b1.mono X0.out.1.size))
  have E1 := Lib.hid (X0.out.2.1.below b1 X0.out.2.1.lt)
  have R1 := Lib.hid (xbox_bel X0.out.2.2.2 b1)
  clear hfew b1 KF
  cases b with
  | false =>
    have cr := R1.out.cell
    have fr := R1.out.frozen
    have CE := Lib.hid (World.cell?_setCell_same' w1 ⟨w.heap.size + 1 + 1, 0, none⟩ (.bool true) (by rw [cr]; rfl))
    have BE := Lib.hid (BW1.out.setCell (p := ⟨w.heap.size + 1 + 1, 0, none⟩) (by simp; omega) (.bool true))
    go_wp2
    exact ⟨.bool true, by simp [results, Try.f3, go_sem, CE.out], rfl, BE.out⟩
  | true =>
    have hN : e.n ≤ 1048576 := FW.out rfl
    have HN := Lib.hid hN
    have c0 := E1.out.cell 0
    have c1 := E1.out.cell 1
    have c2 := E1.out.cell 2
    have c3 := E1.out.cell 3
    simp at c0 c1 c2 c3
    have KN := Lib.hid (fun W (b : Below w.heap.size w W) => nodes_any HE.out W b hN)
    have KR := Lib.hid (fun W (b : Below w.heap.size w W) => rnodes_any HE.out W b hN)
    clear FW hN
    obtain ⟨N, hNe⟩ : ∃ N, e.n = N := ⟨_, rfl⟩
    rw [hNe] at KN KR
    have g1 : ((N : Int) != (N : Int)) = false := by simp
    go_wp2_with fail
    go_region_held3 (fun w' => w'.cell? ⟨w.heap.size, 0, none⟩ = some v0 ∧ w'.cell? ⟨w.heap.size, 1, none⟩ = some v1 ∧ w'.cell? ⟨w.heap.size, 2, none⟩ = some v2 ∧ w'.cell? ⟨w.heap.size, 3, none⟩ = some v3)
      (refine ⟨?_, ?_, ?_, ?_⟩ <;> first | assumption | (go_simp; done))
      (first
      | (go_at_call 7; refine (KN.out _ BW1.out.drew).mono ?_; rintro e' w2 ⟨rfl, b2⟩; have B2 := Lib.hid (show Below w1.heap.size w1 w2 from (Below.refl _ _).drew.trans b2); have BW2 := Lib.hid (BW1.out.trans (B2.out.mono BW1.out.size)); have E2 := Lib.hid (E1.out.below B2.out E1.out.lt); have d0 := E2.out.cell 0; have d1 := E2.out.cell 1; have d2 := E2.out.cell 2; have d3 := E2.out.cell 3; simp at d0 d1 d2 d3; clear b2)
      | (go_at_call 8; refine (KR.out _ BW2.out).mono ?_; rintro e' w3 ⟨rfl, b3⟩; have B3 := Lib.hid b3; have BW3 := Lib.hid (BW2.out.trans (B3.out.mono BW2.out.size)); have E3 := Lib.hid (E2.out.below B3.out E2.out.lt); have k0 := E3.out.cell 0; have k1 := E3.out.cell 1; have k2 := E3.out.cell 2; have k3 := E3.out.cell 3; simp at k0 k1 k2 k3; clear b3))
    go_wp2_with fail
    go_at_call 9
    refine (rReads_any HE.out w3 BW3.out HN.out).mono ?_
    rintro e' w4 ⟨u, rfl, ho4, b4⟩
    have L4 := Lib.hid ho4.list
    obtain ⟨ua, uc, hu, _⟩ := ho4.list
    subst hu
    obtain ⟨wa, hwa⟩ : ∃ wa, w4.alloc (.cells #[.slice ua e.rds.length uc] 27) = wa := ⟨_, rfl⟩
    have A4 := Lib.hid (show Below w4.heap.size w4 wa ∧ Boxed wa w4.heap.size 27 (.slice ua e.rds.length uc) ∧ wa.heap.size = w4.heap.size + 1 by
      subst hwa
      exact ⟨(Below.refl _ _).alloc (Nat.le_refl _) _, Boxed.new _ _ _, by simp⟩)
    have BA := Lib.hid (show Below w3.heap.size w3 wa from b4.trans (A4.out.1.mono b4.size))
    have BWA := Lib.hid (BW3.out.trans (BA.out.mono BW3.out.size))
    have EA := Lib.hid (E3.out.below BA.out E3.out.lt)
    have LA := Lib.hid (L4.out.later A4.out.1)
    have m0 := EA.out.cell 0
    have m1 := EA.out.cell 1
    have m2 := EA.out.cell 2
    have m3 := EA.out.cell 3
    simp at m0 m1 m2 m3
    obtain ⟨nr, hnr⟩ : ∃ nr, e.rds.length = nr := ⟨_, rfl⟩
    rw [hnr] at hwa A4 ⊢
    clear ho4 b4 c0 c1 c2 c3 k0 k1 k2 k3
    go_wp2_with fail
    clear hwa
    go_at_call 10
    refine (copied_any HE.out wa BWA.out HN.out).mono ?_
    rintro e' w5 ⟨vs', rfl, hx5, b5⟩
    obtain ⟨o', m', t', a', n', k', rfl⟩ := hx5.form
    have X5 := Lib.hid hx5
    have B5 := Lib.hid b5
    obtain ⟨wb, hwb⟩ : ∃ wb, w5.alloc (.cells #[.int .i64 o', .int .i64 m', .int .i64 t', .slice a' n' k'] 24) = wb := ⟨_, rfl⟩
    have A5 := Lib.hid (show Below w5.heap.size w5 wb ∧ Bk wb w5.heap.size #[.int .i64 o', .int .i64 m', .int .i64 t', .slice a' n' k'] 24 ∧ wb.heap.size = w5.heap.size + 1 by
      subst hwb
      exact ⟨(Below.refl _ _).alloc (Nat.le_refl _) _, Bk.new _ _ _, by simp⟩)
    have KRD := Lib.hid (reads_any X5.out.xv wb A5.out.1 HN.out)
    have p0 := A5.out.2.1.cell 0
    have p1 := A5.out.2.1.cell 1
    have p2 := A5.out.2.1.cell 2
    have p3 := A5.out.2.1.cell 3
    simp at p0 p1 p2 p3
    clear hx5 b5 m0 m1 m2 m3
    go_wp2_with fail
    clear hwb
    go_at_call 11
    refine KRD.out.mono ?_
    rintro e' w6 ⟨kb, q0, q1, q2, q3, rfl, b6, h6⟩
    have B6 := Lib.hid b6
    have H6 := Lib.hid h6.out
    obtain ⟨wc, hwc⟩ : ∃ wc, w6.alloc (.cells #[.func (.func 33) #[] #[.pointer (some ⟨kb, 0, none⟩)]] 31) = wc := ⟨_, rfl⟩
    have A6 := Lib.hid (show Below w6.heap.size w6 wc ∧ Boxed wc w6.heap.size 31 (.func (.func 33) #[] #[.pointer (some ⟨kb, 0, none⟩)]) ∧ wc.heap.size = w6.heap.size + 1 by
      subst hwc
      exact ⟨(Below.refl _ _).alloc (Nat.le_refl _) _, Boxed.new _ _ _, by simp⟩)
    have BC := Lib.hid (show Below wb.heap.size wb wc from b6.trans (A6.out.1.mono b6.size))
    have PC := Lib.hid (A5.out.2.1.below BC.out A5.out.2.1.lt)
    have XC := Lib.hid (X5.out.later (A5.out.1.trans (BC.out.mono A5.out.1.size)) (Nat.le_refl _))
    have r0 := PC.out.cell 0
    have r1 := PC.out.cell 1
    have r2 := PC.out.cell 2
    have r3 := PC.out.cell 3
    have bq := A6.out.2.1.cell
    simp at r0 r1 r2 r3
    have KNX := Lib.hid (nodes_any XC.out.xv wc (Below.refl _ _) HN.out)
    rw [hNe] at KNX
    clear h6 b6 p0 p1 p2 p3 KRD
    go_wp2_with fail
    clear hwc
    go_at_call 7
    refine KNX.out.mono ?_
    rintro e' w7 ⟨rfl, b7⟩
    have B7 := Lib.hid b7
    have P7 := Lib.hid (PC.out.below b7 PC.out.lt)
    have S57 := Lib.hid (show wa.heap.size ≤ w5.heap.size ∧ wb.heap.size = w5.heap.size + 1 ∧ wb.heap.size ≤ w6.heap.size ∧ wc.heap.size = w6.heap.size + 1 ∧ wc.heap.size ≤ w7.heap.size from ⟨B5.out.size, A5.out.2.2, B6.out.size, A6.out.2.2, b7.size⟩)
    have KS := Lib.hid (spoil_any XC.out w7 (fun k _ h2 => b7.block k (by have := S57.out; omega)) (by have := S57.out; omega))
    replace r0 := P7.out.cell 0
    replace r1 := P7.out.cell 1
    replace r2 := P7.out.cell 2
    replace r3 := P7.out.cell 3
    simp at r0 r1 r2 r3
    clear b7 KNX bq
    go_wp2_with fail
    go_at_call 12
    refine KS.out.mono ?_
    rintro e' w8 ⟨rfl, h8, hsp⟩
    have BA8 := Lib.hid (show Below wa.heap.size wa w8 from ((B5.out.trans (A5.out.1.mono B5.out.size)).trans ((BC.out.trans (B7.out.mono BC.out.size)).mono (Nat.le_trans B5.out.size A5.out.1.size))).trans (h8.below (by have := S57.out; omega)))
    have BW8 := Lib.hid (BWA.out.trans (BA8.out.mono BWA.out.size))
    have E8 := Lib.hid (EA.out.below BA8.out EA.out.lt)
    have P8 := Lib.hid (show Bk w8 w5.heap.size #[.int .i64 o', .int .i64 m', .int .i64 t', .slice a' n' k'] 24 from (h8.block _ P7.out.lt (fun h => by omega)).trans P7.out)
    have Q8 := Lib.hid (show Boxed w8 w6.heap.size 31 (.func (.func 33) #[] #[.pointer (some ⟨kb, 0, none⟩)]) from (h8.block _ (by have := S57.out; omega) (fun h => by have := S57.out; omega)).trans (xbox_bel A6.out.2.1 B7.out))
    have K8 := Lib.hid (show ∀ k, wb.heap.size ≤ k → k < w6.heap.size → w8.heap[k]? = w6.heap[k]? from fun k h1 h2 => by
      rw [h8.block k (by have := S57.out; omega) (fun h => by have := S57.out; omega), B7.out.block k (by have := S57.out; omega), A6.out.1.block k h2])
    have T8 := Lib.hid (show XV w8 (spoilt e) [.int .i64 o', .int .i64 m', .int .i64 t', .slice a' n' k'] from spoilt_xv XC.out hsp (by have := S57.out; have := h8.size; omega))
    have I8 := Lib.hid (show ItX w8 kb e.rds from by
      obtain ⟨i1, i2, i3⟩ := H6.out
      exact itx_any (v0 := q0) (v1 := q1) (v2 := q2) (v3 := q3) kb ((K8.out kb i1 i2.lt).trans i2) (i3.keep (fun k h1 h2 => K8.out k h1 h2)).xv)
    have HM := Lib.hid (spoilt_n e HN.out)
    obtain ⟨M, hM⟩ : ∃ M, (spoilt e).n = M := ⟨_, rfl⟩
    have KX := Lib.hid (fun W (b : Below w8.heap.size w8 W) => nodes_any T8.out W b HM.out)
    have KY := Lib.hid (fun W (b : Below w8.heap.size w8 W) => rnodes_any T8.out W b HM.out)
    rw [hM] at KX KY
    have g2 : ((M : Int) != (M : Int)) = false := by simp
    have e0 := E8.out.cell 0
    have e1 := E8.out.cell 1
    have e2 := E8.out.cell 2
    have e3 := E8.out.cell 3
    replace r0 := P8.out.cell 0
    replace r1 := P8.out.cell 1
    replace r2 := P8.out.cell 2
    replace r3 := P8.out.cell 3
    simp at r0 r1 r2 r3 e0 e1 e2 e3
    have PM := Lib.hid True.intro
    clear h8 hsp KS hM
    go_wp2_with fail
    go_region_held3 (fun w' => w'.cell? ⟨w.heap.size, 0, none⟩ = some v0 ∧ w'.cell? ⟨w.heap.size, 1, none⟩ = some v1 ∧ w'.cell? ⟨w.heap.size, 2, none⟩ = some v2 ∧ w'.cell? ⟨w.heap.size, 3, none⟩ = some v3 ∧ w'.cell? ⟨w5.heap.size, 0, none⟩ = some (.int .i64 o') ∧ w'.cell? ⟨w5.heap.size, 1, none⟩ = some (.int .i64 m') ∧ w'.cell? ⟨w5.heap.size, 2, none⟩ = some (.int .i64 t') ∧ w'.cell? ⟨w5.heap.size, 3, none⟩ = some (.slice a' n' k'))
      (refine ⟨?_, ?_, ?_, ?_, ?_, ?_, ?_, ?_⟩ <;> first | assumption | (go_simp; done))
      (first
      | (go_at_call 8; have qq := PM; refine (KR.out _ BW8.out.drew).mono ?_; rintro e' w9 ⟨rfl, b9⟩; have B9 := Lib.hid (show Below w8.heap.size w8 w9 from (Below.refl _ _).drew.trans b9); have E9 := Lib.hid (E8.out.below B9.out E8.out.lt); have P9 := Lib.hid (P8.out.below B9.out P8.out.lt); have s0 := E9.out.cell 0; have s1 := E9.out.cell 1; have s2 := E9.out.cell 2; have s3 := E9.out.cell 3; have s4 := P9.out.cell 0; have s5 := P9.out.cell 1; have s6 := P9.out.cell 2; have s7 := P9.out.cell 3; simp at s0 s1 s2 s3 s4 s5 s6 s7; clear b9 PM qq)
      | (go_at_call 7; refine (KX.out _ B9.out).mono ?_; rintro e' w10 ⟨rfl, b10⟩; have B10 := Lib.hid (B9.out.trans (b10.mono B9.out.size)); have E10 := Lib.hid (E8.out.below B10.out E8.out.lt); have P10 := Lib.hid (P8.out.below B10.out P8.out.lt); have s0' := E10.out.cell 0; have s1' := E10.out.cell 1; have s2' := E10.out.cell 2; have s3' := E10.out.cell 3; have s4' := P10.out.cell 0; have s5' := P10.out.cell 1; have s6' := P10.out.cell 2; have s7' := P10.out.cell 3; simp at s0' s1' s2' s3' s4' s5' s6' s7'; clear b10)
      | (go_at_call 8; have qq := B10; refine (KY.out _ B10.out).mono ?_; rintro e' w11 ⟨rfl, b11⟩; have B11 := Lib.hid (B10.out.trans (b11.mono B10.out.size)); have E11 := Lib.hid (E8.out.below B11.out E8.out.lt); have P11 := Lib.hid (P8.out.below B11.out P8.out.lt); have z0 := E11.out.cell 0; have z1 := E11.out.cell 1; have z2 := E11.out.cell 2; have z3 := E11.out.cell 3; have z4 := P11.out.cell 0; have z5 := P11.out.cell 1; have z6 := P11.out.cell 2; have z7 := P11.out.cell 3; simp at z0 z1 z2 z3 z4 z5 z6 z7; clear b11 qq))
    obtain ⟨L, hL⟩ : ∃ L, e.rds = L := ⟨_, rfl⟩
    have FF := Lib.hid (show FR w w11 leave w4.heap.size w6.heap.size kb (.slice ua nr uc) L from by
      rw [← hL]
      have B8a : Below wa.heap.size wa w11 := BA8.out.trans (B11.out.mono BA8.out.size)
      have B0a : Below w0.heap.size w0 w11 := B1.out.trans ((B2.out.trans ((B3.out.trans ((BA.out.trans (B8a.mono BA.out.size)).mono B3.out.size)).mono B2.out.size)).mono B1.out.size)
      exact ⟨xbox_bel X0.out.2.2.1 B0a, xbox_bel X0.out.2.2.2 B0a, xbox_bel A4.out.2.1 B8a, xbox_bel Q8.out B11.out, by have := LA.out.later B8a; rwa [hnr] at this, I8.out.later B11.out, X0.out.1.trans (B0a.mono X0.out.1.size)⟩)
    have HLN := Lib.hid (show L.length = nr from by rw [← hL]; exact hnr)
    have hnb : nr ≤ 1048576 := by have := e.rds_len; have := HN.out; omega
    clear X0 B1 BW1 E1 R1 HN KN KR BW2 E2 BW3 E3 B2 B3 L4 A4 BA BWA EA LA X5 B5 A5 B6 H6 A6 BC PC XC B7 P7 S57 BA8 BW8 E8 P8 Q8 K8 T8 I8 HM KX KY B9 E9 P9 B10 E10 P10 B11 E11 P11 HE
    clear d0 d1 d2 d3 e0 e1 e2 e3 r0 r1 r2 r3 s0 s1 s2 s3 s4 s5 s6 s7 s0' s1' s2' s3' s4' s5' s6' s7' z0 z1 z2 z3 z4 z5 z6 z7
    generalize w4.heap.size = bw at *
    generalize w6.heap.size = bi at *
    generalize w5.heap.size = bx at *
    have cq0 := FF.out.q.cell
    have hbi : bi < w11.heap.size := FF.out.q.lt
    have hbi1 : ¬ bi = w11.heap.size := by omega
    go_wp2_with fail
    clear cq0
    refine (wpIn_wide (n := 5)).1 ?_
    refine' wpIn_rangeFunc_ownF (w := w11.alloc (.cells #[.int .i64 0] 3)) rfl (by omega) (gf := 33) (lb := #[.pointer (some ⟨kb, 0, none⟩)]) rfl trivial (enters_of Try.func33 (by kernel_rfl) rfl)
      (FF.out.it 4 (by omega)) belowK_t (belowK_b (by simp)) ((Below.refl _ _).alloc (Nat.le_refl _) _) (fun _ => rfl)
      (fun pre X => Boxed X w11.heap.size 3 (.int .i64 (pre.length : Int)) ∧ Below w11.heap.size w11 X ∧ pre.map (·.1) <+: L)
      (fun cx pre X => (¬ pre.map (·.1) <+: L) ∨ (cx = .exit 0 ∧ (∃ t : Int, Boxed X w11.heap.size 3 (.int .i64 t)) ∧ Below w11.heap.size w11 X))
      (fun s X Y row hs hg hr => ⟨hs.1.kept hg (fun e => by obtain ⟨_, o, ho, hcc⟩ := hr _ e.symm; rw [show X.heap[w11.heap.size]? = _ from hs.1] at ho; cases ho; cases hcc), hs.2.1.grown hg hs.2.1.size (fun k e => Nat.le_trans (by simp) (hr k e).1), hs.2.2⟩)
      (fun cx s X Y row hs hg hr => by
        rcases hs with hs | ⟨h1, ⟨t, h2⟩, h3⟩
        · exact .inl hs
        · exact .inr ⟨h1, ⟨t, h2.kept hg (fun e => by obtain ⟨_, o, ho, hcc⟩ := hr _ e.symm; rw [show X.heap[w11.heap.size]? = _ from h2] at ho; cases ho; cases hcc)⟩, h3.grown hg h3.size (fun k e => Nat.le_trans (by simp) (hr k e).1)⟩)
      ⟨Boxed.new w11 3 _, (Below.refl _ _).alloc (Nat.le_refl _) _, by simp⟩
      _ ?assign0 ?body0 ?done0 ?stop0
    case assign0 =>
      intro l x W K hK
      gi_wp2
      exact hK
    case body0 =>
            rintro l pre ⟨⟨x1, x2⟩, hx⟩ X ⟨hbx, hBX, hpre⟩ hlt
            have CX := Lib.hid (FF.out.later hBX)
            obtain ⟨a9, c9, he9, hcase⟩ := CX.out.ls
            obtain ⟨h91, h92⟩ := slice_inj he9
            subst h91 h92
            obtain ⟨g, rfl, hg, hcell⟩ : ∃ g, ua = some ⟨g, 0, none⟩ ∧ g < X.heap.size ∧ ∀ i, i < L.length → X.cell? ⟨g, i * 2, none⟩ = some (.int .i64 (L.getD i (0, 0)).1) ∧ X.cell? ⟨g, i * 2 + 1, none⟩ = some (.int .i64 (L.getD i (0, 0)).2) := by
              rcases hcase with q | q
              · have q9 := congrArg List.length q; simp only [List.length_nil] at q9; omega
              · exact q
            have qk1 := (hcell pre.length hlt).1
            have qk2 := (hcell pre.length hlt).2
            have cl := CX.out.l.cell
            have cr := CX.out.r.cell
            have fr := CX.out.r.frozen
            have cb := CX.out.b.cell
            have cq := CX.out.q.cell
            have hk1 := hbx.cell
            have hk2 := hbx.frozen
            have HX := Lib.hid hbx
            have HBX := Lib.hid hBX
            have PS := Lib.hid (fun (e : L.getD pre.length (0, 0) = (x1, x2)) => pre_snocX (x := (x1, x2)) hpre (by simpa using hlt) (by simpa using e))
            have PL := Lib.hid (p := pre.map (·.1) ++ [(x1, x2)] <+: L → L.getD pre.length (0, 0) = (x1, x2)) (fun h => by have := pre_lastX h; rwa [List.length_map] at this)
            have EL : ((pre ++ [(⟨(x1, x2), hx⟩ : { x : Int × Int // x ∈ L })]).length : Int) = (pre.length : Int) + 1 := by simp
            have EM : (pre ++ [(⟨(x1, x2), hx⟩ : { x : Int × Int // x ∈ L })]).map (·.1) = pre.map (·.1) ++ [(x1, x2)] := by simp
            have EE := Lib.hid (And.intro EL EM)
            rw [HLN.out] at hlt
            clear hcell hcase hbx hBX hpre EL EM he9
            obtain ⟨⟨y1, y2⟩, hy⟩ : ∃ y, L.getD pre.length (0, 0) = y := ⟨_, rfl⟩
            rw [hy] at qk1 qk2 PS PL
            obtain ⟨k, hk⟩ : ∃ k, pre.length = k := ⟨_, rfl⟩
            rw [hk] at qk1 qk2 hk1 hlt HX EE
            have HH := Lib.hid (And.intro hy hk)
            clear hy hk
            have g1 : decide ((nr : Int) ≤ (k : Int)) = false := decide_eq_false (by omega)
            have g2 : (k : Int) < (nr : Int) := by omega
            have kwk : IntKind.i64.wrap ((k : Int) + 1) = (k : Int) + 1 := by simp [IntKind.wrap, IntKind.bits, IntKind.signed]; omega
            by_cases hle : (k : Int) = leave
            · have hl1 : ((k : Int) == leave) = true := by simpa using hle
              have hl2 : decide ((k : Int) = leave) = true := by simpa using hle
              clear hle
              gi_wp2
              exact ⟨KeepsOthers.refl _, .inr ⟨rfl, ⟨_, HX.out⟩, HBX.out⟩⟩
            have hl1 : ((k : Int) == leave) = false := by simpa using hle
            have hl2 : decide ((k : Int) = leave) = false := by simpa using hle
            clear hle
            by_cases hxe : y1 = x1 ∧ y2 = x2
            · obtain ⟨rfl, rfl⟩ := hxe
              have PS1 := Lib.hid (PS.out rfl)
              clear PS PL
              gi_wp2
              refine ⟨KeepsOthers.setCell _ _ _, (Below.refl w11.heap.size X).setCell (p := ⟨w11.heap.size, 0, none⟩) (Nat.le_refl _) _, ?_, HBX.out.setCell (p := ⟨w11.heap.size, 0, none⟩) (Nat.le_refl _) _, ?_⟩
              · rw [EE.out.1]; exact HX.out.set _
              · have r := PS1.out; rw [← EE.out.2] at r; exact r
            · skip
              have NP := Lib.hid (show ¬ (pre ++ [(⟨(x1, x2), hx⟩ : { x : Int × Int // x ∈ L })]).map (·.1) <+: L from fun h => by
                rw [EE.out.2] at h
                have := PL.out h
                simp only [Prod.mk.injEq] at this
                exact hxe this)
              by_cases e1 : y1 = x1
              · subst e1
                have e2 : ¬ y2 = x2 := fun e => hxe ⟨rfl, e⟩
                have e3 : (y2 == x2) = false := by simpa using e2
                have e4 : (y2 != x2) = true := by simpa using e2
                clear hxe
                gi_wp2
                exact ⟨KeepsOthers.setCell _ _ _, .inl NP.out⟩
              · have e3 : (y1 == x1) = false := by simpa using e1
                have e4 : (y1 != x1) = true := by simpa using e1
                clear hxe
                gi_wp2
                exact ⟨KeepsOthers.setCell _ _ _, .inl NP.out⟩
    case stop0 =>
      rintro E1 cx pre X hE1 hp h hK
      rcases h with h | ⟨rfl, ⟨t, hbx⟩, hBX⟩
      · exact absurd hp h
      have MK := Lib.hid (show Mk w11.heap.size [E1] X from ⟨by simp, fun E hE => by simp at hE; subst hE; exact ⟨by simp at hE1; omega, hK⟩⟩)
      have HX := Lib.hid hbx
      have HBX := Lib.hid hBX
      clear hbx hBX hK hE1 hp
      try refine wpIn_wide.2 ?_
      go_wp2_with fail
      refine wp_loop (PassX w w11 bw bi) (fun a _ => 3 - a.defers.length) ?start ?round
      case start =>
        exact passX_mk _ _ 0 [E1] _ rfl ⟨by omega, rfl, HX.out, HBX.out, MK.out⟩
      case round =>
        clear HX HBX MK
        rintro a W ⟨p, Es, t, u, rfl, hp2, hEl, hbx, hBW, hMk⟩
        have FW := Lib.hid (FF.out.later hBW)
        have HX := Lib.hid hbx
        have HBW := Lib.hid hBW
        have HMK := Lib.hid hMk
        have hk1 := hbx.cell
        have hk2 := hbx.frozen
        have cq := FW.out.q.cell
        have cr := FW.out.r.cell
        have fr := FW.out.r.frozen
        have hbn : w11.heap.size < W.heap.size := hbx.lt
        have hbj : ¬ w11.heap.size = bi := by omega
        clear hbx hBW hMk
        by_cases hp : p < 2
        · obtain ⟨p', hp'⟩ : ∃ p', p + 1 = p' := ⟨_, rfl⟩
          have kwp : IntKind.i64.wrap ((p : Int) + 1) = (p' : Int) := by simp [IntKind.wrap, IntKind.bits, IntKind.signed]; omega
          have hpi : (p : Int) < 2 := by omega
          have ES := Lib.hid (show ∀ E ∈ Es, E < W.heap.size from fun E hE => HMK.out.lt hE)
          go_wp2_with fail
          clear hk1 hk2 cq cr fr
          refine (wpIn_wide (n := 5)).1 ?_
          refine' wpIn_rangeFunc_ownF (w := W.setCell ⟨w11.heap.size, 0, none⟩ (.int .i64 0)) rfl (by omega) (gf := 33) (lb := #[.pointer (some ⟨kb, 0, none⟩)]) rfl trivial (enters_of Try.func33 (by kernel_rfl) rfl)
            (FF.out.it 4 (by omega)) belowK_t (belowK_b (by simp; omega)) (HBW.out.setCell (p := ⟨w11.heap.size, 0, none⟩) (Nat.le_refl _) _) (fun _ => rfl)
            (fun pre X => Boxed X w11.heap.size 3 (.int .i64 (pre.length : Int)) ∧ Below w11.heap.size w11 X ∧ pre.map (·.1) <+: L ∧ Mk w11.heap.size Es X)
            (fun cx pre X => ¬ pre.map (·.1) <+: L)
            (fun s X Y row hs hg hr => ⟨hs.1.kept hg (fun e => by obtain ⟨_, o, ho, hcc⟩ := hr _ e.symm; rw [show X.heap[w11.heap.size]? = _ from hs.1] at ho; cases ho; cases hcc), hs.2.1.grown hg hs.2.1.size (fun k e => by have := (hr k e).1; simp at this; omega), hs.2.2.1, hs.2.2.2.grown hg (fun r e hE => by have := (hr r e).1; have := ES.out r hE; simp at *; omega)⟩)
            (fun _ _ _ _ _ hs _ _ => hs)
            ⟨HX.out.set _, HBW.out.setCell (p := ⟨w11.heap.size, 0, none⟩) (Nat.le_refl _) _, by simp, HMK.out.keep (KeepsOthers.setCell _ _ _)⟩
            _ ?assign1 ?body1 ?done1 ?stop1
          case assign1 =>
            intro l x X K hK
            gi_wp2
            exact hK
          case body1 =>
            rintro l pre ⟨⟨x1, x2⟩, hx⟩ X ⟨hbx, hBX, hpre, hMX⟩ hlt
            have MX := Lib.hid hMX
            have KG := Lib.hid (first_any kb _ L X (FF.out.later hBX).it (FF.out.later hBX).ls (fun h => by have := congrArg List.length h; simp only [List.length_nil] at this; omega))
            clear hMX
            have CX := Lib.hid (FF.out.later hBX)
            obtain ⟨a9, c9, he9, hcase⟩ := CX.out.ls
            obtain ⟨h91, h92⟩ := slice_inj he9
            subst h91 h92
            obtain ⟨g, rfl, hg, hcell⟩ : ∃ g, ua = some ⟨g, 0, none⟩ ∧ g < X.heap.size ∧ ∀ i, i < L.length → X.cell? ⟨g, i * 2, none⟩ = some (.int .i64 (L.getD i (0, 0)).1) ∧ X.cell? ⟨g, i * 2 + 1, none⟩ = some (.int .i64 (L.getD i (0, 0)).2) := by
              rcases hcase with q | q
              · have q9 := congrArg List.length q; simp only [List.length_nil] at q9; omega
              · exact q
            have qk1 := (hcell pre.length hlt).1
            have qk2 := (hcell pre.length hlt).2
            have cl := CX.out.l.cell
            have cr := CX.out.r.cell
            have fr := CX.out.r.frozen
            have cb := CX.out.b.cell
            have cq := CX.out.q.cell
            have hk1 := hbx.cell
            have hk2 := hbx.frozen
            have HX := Lib.hid hbx
            have HBX := Lib.hid hBX
            have PS := Lib.hid (fun (e : L.getD pre.length (0, 0) = (x1, x2)) => pre_snocX (x := (x1, x2)) hpre (by simpa using hlt) (by simpa using e))
            have PL := Lib.hid (p := pre.map (·.1) ++ [(x1, x2)] <+: L → L.getD pre.length (0, 0) = (x1, x2)) (fun h => by have := pre_lastX h; rwa [List.length_map] at this)
            have EL : ((pre ++ [(⟨(x1, x2), hx⟩ : { x : Int × Int // x ∈ L })]).length : Int) = (pre.length : Int) + 1 := by simp
            have EM : (pre ++ [(⟨(x1, x2), hx⟩ : { x : Int × Int // x ∈ L })]).map (·.1) = pre.map (·.1) ++ [(x1, x2)] := by simp
            have EE := Lib.hid (And.intro EL EM)
            rw [HLN.out] at hlt
            clear hcell hcase hbx hBX hpre EL EM he9
            obtain ⟨⟨y1, y2⟩, hy⟩ : ∃ y, L.getD pre.length (0, 0) = y := ⟨_, rfl⟩
            rw [hy] at qk1 qk2 PS PL
            obtain ⟨k, hk⟩ : ∃ k, pre.length = k := ⟨_, rfl⟩
            rw [hk] at qk1 qk2 hk1 hlt HX EE
            have HH := Lib.hid (And.intro hy hk)
            clear hy hk
            have g1 : decide ((nr : Int) ≤ (k : Int)) = false := decide_eq_false (by omega)
            have g2 : (k : Int) < (nr : Int) := by omega
            have kwk : IntKind.i64.wrap ((k : Int) + 1) = (k : Int) + 1 := by simp [IntKind.wrap, IntKind.bits, IntKind.signed]; omega
            by_cases hxe : y1 = x1 ∧ y2 = x2
            · obtain ⟨rfl, rfl⟩ := hxe
              have PS1 := Lib.hid (PS.out rfl)
              clear PS PL
              by_cases hk0 : k = 0
              · have z1 : ((k : Int) == 0) = true := by simp [hk0]
                have z2 : decide ((k : Int) = 0) = true := by simp [hk0]
                have HK0 := Lib.hid hk0
                clear hk0
                gi_wp2_with fail
                refine ⟨trivial, ?_⟩
                gi_at_call 13
                refine (CallsIn.inRound l (callsIn_wide.2 KG.out)).mono ?_
                rintro e X2 ⟨rfl, b2⟩
                have BG := Lib.hid b2
                have hk3 := (xbox_bel HX.out b2).cell
                have hk4 := (xbox_bel HX.out b2).frozen
                clear b2 cl cr fr cb cq hk1 hk2
                gi_wp2
                refine ⟨(xothers_bel BG.out).trans (KeepsOthers.setCell _ _ _), (BG.out.mono HBX.out.size).setCell (p := ⟨w11.heap.size, 0, none⟩) (Nat.le_refl _) _, ?_, (HBX.out.trans (BG.out.mono HBX.out.size)).setCell (p := ⟨w11.heap.size, 0, none⟩) (Nat.le_refl _) _, ?_, MX.out.keep ((xothers_bel BG.out).trans (KeepsOthers.setCell _ _ _))⟩
                · rw [EE.out.1]; exact (xbox_bel HX.out BG.out).set _
                · have r := PS1.out; rw [← EE.out.2] at r; exact r
              · have z1 : ((k : Int) == 0) = false := by simpa using hk0
                have z2 : decide ((k : Int) = 0) = false := by simpa using hk0
                have HK0 := Lib.hid hk0
                clear hk0
                gi_wp2
                refine ⟨trivial, ?_⟩
                gi_wp2
                refine ⟨KeepsOthers.setCell _ _ _, (Below.refl w11.heap.size X).setCell (p := ⟨w11.heap.size, 0, none⟩) (Nat.le_refl _) _, ?_, HBX.out.setCell (p := ⟨w11.heap.size, 0, none⟩) (Nat.le_refl _) _, ?_, MX.out.keep (KeepsOthers.setCell _ _ _)⟩
                · rw [EE.out.1]; exact HX.out.set _
                · have r := PS1.out; rw [← EE.out.2] at r; exact r
            · clear KG
              have NP := Lib.hid (show ¬ (pre ++ [(⟨(x1, x2), hx⟩ : { x : Int × Int // x ∈ L })]).map (·.1) <+: L from fun h => by
                rw [EE.out.2] at h
                have := PL.out h
                simp only [Prod.mk.injEq] at this
                exact hxe this)
              by_cases e1 : y1 = x1
              · subst e1
                have e2 : ¬ y2 = x2 := fun e => hxe ⟨rfl, e⟩
                have e3 : (y2 == x2) = false := by simpa using e2
                have e4 : (y2 != x2) = true := by simpa using e2
                clear hxe
                gi_wp2
                exact ⟨KeepsOthers.setCell _ _ _, NP.out⟩
              · have e3 : (y1 == x1) = false := by simpa using e1
                have e4 : (y1 != x1) = true := by simpa using e1
                clear hxe
                gi_wp2
                exact ⟨KeepsOthers.setCell _ _ _, NP.out⟩
          case stop1 =>
            rintro E2 cx pre X hE2 hp3 h hK
            exact absurd hp3 h
          case done1 =>
            rintro E2 ys X hE2 hy ⟨hbx, hBX, _, hMX⟩ hK
            have hyl : (ys.length : Int) = (nr : Int) := by have := congrArg List.length hy; rw [List.length_map] at this; have := HLN.out; omega
            rw [hyl] at hbx
            have hk1 := hbx.cell
            have cb := (FF.out.later hBX).b.cell
            have HX1 := Lib.hid hbx
            have HB1 := Lib.hid hBX
            have M1 := Lib.hid (show Mk w11.heap.size (E2 :: Es) X from hMX.cons (fun E hE => by have := ES.out E hE; simp at hE2; omega) (by simp at hE2; omega) hK)
            have g4 : ((nr : Int) != (nr : Int)) = false := by simp
            clear hy hyl hbx hBX hMX hK hE2
            try refine wpIn_wide.2 ?_
            go_wp2
            exact ⟨passX_mk _ _ p' (E2 :: Es) _ rfl ⟨by omega, by simp; omega, HX1.out, HB1.out, M1.out⟩, by simp [dfs, hEl]; omega⟩
        · obtain rfl : p = 2 := by omega
          obtain ⟨F3, F2, F1, rfl⟩ : ∃ a b c, Es = [a, b, c] := by
            match Es, hEl with
            | [a, b, c], _ => exact ⟨a, b, c, rfl⟩
          have CE := Lib.hid (World.cell?_setCell_same' W ⟨w.heap.size + 1 + 1, 0, none⟩ (.bool true) (by rw [cr]; rfl))
          have MS := Lib.hid (HMK.out.keep (KeepsOthers.setCell W ⟨w.heap.size + 1 + 1, 0, none⟩ (.bool true)))
          have BE := Lib.hid (FW.out.bel.setCell (p := ⟨w.heap.size + 1 + 1, 0, none⟩) (by simp; omega) (.bool true))
          have GW := Lib.hid (show w.heap.size ≤ w11.heap.size from FF.out.bel.size)
          simp only [dfs, List.map_cons, List.map_nil]
          clear hEl hp2 hp
          go_wp2
          obtain ⟨hpw, hms⟩ := MS.out
          simp only [List.pairwise_cons, List.mem_cons, List.not_mem_nil, or_false, forall_eq_or_imp, forall_eq] at hpw
          obtain ⟨⟨n32, n31⟩, n21, _⟩ := hpw
          obtain ⟨l3, m3⟩ := hms F3 (by simp)
          obtain ⟨l2, m2⟩ := hms F2 (by simp)
          obtain ⟨l1, m1⟩ := hms F1 (by simp)
          have s2 := xput_other (l := F3) (o' := .deferred none) m2 (by omega)
          have s1 := xput_other (l := F2) (o' := .deferred none) (xput_other (l := F3) (o' := .deferred none) m1 (by omega)) (by omega)
          have gw := GW.out
          refine ⟨by simp, .inl ⟨_, _, rfl, run_takeDeferred m3, ?_⟩⟩
          refine ⟨by simp, .inl ⟨_, _, rfl, run_takeDeferred s2, ?_⟩⟩
          refine ⟨by simp, .inl ⟨_, _, rfl, run_takeDeferred s1, ?_⟩⟩
          have c1 := cell_kept CE.out (grownBy_putObj' _ F3 (.deferred none)) (fun r e => by cases e; exact ⟨_, m3, rfl⟩)
          have c2 := cell_kept c1 (grownBy_putObj' _ F2 (.deferred none)) (fun r e => by cases e; exact ⟨_, s2, rfl⟩)
          have c3 := cell_kept c2 (grownBy_putObj' _ F1 (.deferred none)) (fun r e => by cases e; exact ⟨_, s1, rfl⟩)
          refine ⟨.bool true, by simp [results, Try.f3, go_sem, c3], rfl, ?_⟩
          exact ((BE.out.trans (belowK_b (w := w) (Nat.le_refl _) _ F3 _ _ (by omega) m3 rfl rfl)).trans (belowK_b (w := w) (Nat.le_refl _) _ F2 _ _ (by omega) s2 rfl rfl)).trans (belowK_b (w := w) (Nat.le_refl _) _ F1 _ _ (by omega) s1 rfl rfl)
    case done0 =>
      rintro E1 ys X hE1 hy ⟨hbx, hBX, _⟩ hK
      have MK := Lib.hid (show Mk w11.heap.size [E1] X from ⟨by simp, fun E hE => by simp at hE; subst hE; exact ⟨by simp at hE1; omega, hK⟩⟩)
      have HX := Lib.hid hbx
      have HBX := Lib.hid hBX
      clear hbx hBX hK hE1 hy
      try refine wpIn_wide.2 ?_
      go_wp2_with fail
      refine wp_loop (PassX w w11 bw bi) (fun a _ => 3 - a.defers.length) ?start ?round
      case start =>
        exact passX_mk _ _ 0 [E1] _ rfl ⟨by omega, rfl, HX.out, HBX.out, MK.out⟩
      case round =>
        clear HX HBX MK
        rintro a W ⟨p, Es, t, u, rfl, hp2, hEl, hbx, hBW, hMk⟩
        have FW := Lib.hid (FF.out.later hBW)
        have HX := Lib.hid hbx
        have HBW := Lib.hid hBW
        have HMK := Lib.hid hMk
        have hk1 := hbx.cell
        have hk2 := hbx.frozen
        have cq := FW.out.q.cell
        have cr := FW.out.r.cell
        have fr := FW.out.r.frozen
        have hbn : w11.heap.size < W.heap.size := hbx.lt
        have hbj : ¬ w11.heap.size = bi := by omega
        clear hbx hBW hMk
        by_cases hp : p < 2
        · obtain ⟨p', hp'⟩ : ∃ p', p + 1 = p' := ⟨_, rfl⟩
          have kwp : IntKind.i64.wrap ((p : Int) + 1) = (p' : Int) := by simp [IntKind.wrap, IntKind.bits, IntKind.signed]; omega
          have hpi : (p : Int) < 2 := by omega
          have ES := Lib.hid (show ∀ E ∈ Es, E < W.heap.size from fun E hE => HMK.out.lt hE)
          go_wp2_with fail
          clear hk1 hk2 cq cr fr
          refine (wpIn_wide (n := 5)).1 ?_
          refine' wpIn_rangeFunc_ownF (w := W.setCell ⟨w11.heap.size, 0, none⟩ (.int .i64 0)) rfl (by omega) (gf := 33) (lb := #[.pointer (some ⟨kb, 0, none⟩)]) rfl trivial (enters_of Try.func33 (by kernel_rfl) rfl)
            (FF.out.it 4 (by omega)) belowK_t (belowK_b (by simp; omega)) (HBW.out.setCell (p := ⟨w11.heap.size, 0, none⟩) (Nat.le_refl _) _) (fun _ => rfl)
            (fun pre X => Boxed X w11.heap.size 3 (.int .i64 (pre.length : Int)) ∧ Below w11.heap.size w11 X ∧ pre.map (·.1) <+: L ∧ Mk w11.heap.size Es X)
            (fun cx pre X => ¬ pre.map (·.1) <+: L)
            (fun s X Y row hs hg hr => ⟨hs.1.kept hg (fun e => by obtain ⟨_, o, ho, hcc⟩ := hr _ e.symm; rw [show X.heap[w11.heap.size]? = _ from hs.1] at ho; cases ho; cases hcc), hs.2.1.grown hg hs.2.1.size (fun k e => by have := (hr k e).1; simp at this; omega), hs.2.2.1, hs.2.2.2.grown hg (fun r e hE => by have := (hr r e).1; have := ES.out r hE; simp at *; omega)⟩)
            (fun _ _ _ _ _ hs _ _ => hs)
            ⟨HX.out.set _, HBW.out.setCell (p := ⟨w11.heap.size, 0, none⟩) (Nat.le_refl _) _, by simp, HMK.out.keep (KeepsOthers.setCell _ _ _)⟩
            _ ?assign1 ?body1 ?done1 ?stop1
          case assign1 =>
            intro l x X K hK
            gi_wp2
            exact hK
          case body1 =>
            rintro l pre ⟨⟨x1, x2⟩, hx⟩ X ⟨hbx, hBX, hpre, hMX⟩ hlt
            have MX := Lib.hid hMX
            have KG := Lib.hid (first_any kb _ L X (FF.out.later hBX).it (FF.out.later hBX).ls (fun h => by have := congrArg List.length h; simp only [List.length_nil] at this; omega))
            clear hMX
            have CX := Lib.hid (FF.out.later hBX)
            obtain ⟨a9, c9, he9, hcase⟩ := CX.out.ls
            obtain ⟨h91, h92⟩ := slice_inj he9
            subst h91 h92
            obtain ⟨g, rfl, hg, hcell⟩ : ∃ g, ua = some ⟨g, 0, none⟩ ∧ g < X.heap.size ∧ ∀ i, i < L.length → X.cell? ⟨g, i * 2, none⟩ = some (.int .i64 (L.getD i (0, 0)).1) ∧ X.cell? ⟨g, i * 2 + 1, none⟩ = some (.int .i64 (L.getD i (0, 0)).2) := by
              rcases hcase with q | q
              · have q9 := congrArg List.length q; simp only [List.length_nil] at q9; omega
              · exact q
            have qk1 := (hcell pre.length hlt).1
            have qk2 := (hcell pre.length hlt).2
            have cl := CX.out.l.cell
            have cr := CX.out.r.cell
            have fr := CX.out.r.frozen
            have cb := CX.out.b.cell
            have cq := CX.out.q.cell
            have hk1 := hbx.cell
            have hk2 := hbx.frozen
            have HX := Lib.hid hbx
            have HBX := Lib.hid hBX
            have PS := Lib.hid (fun (e : L.getD pre.length (0, 0) = (x1, x2)) => pre_snocX (x := (x1, x2)) hpre (by simpa using hlt) (by simpa using e))
            have PL := Lib.hid (p := pre.map (·.1) ++ [(x1, x2)] <+: L → L.getD pre.length (0, 0) = (x1, x2)) (fun h => by have := pre_lastX h; rwa [List.length_map] at this)
            have EL : ((pre ++ [(⟨(x1, x2), hx⟩ : { x : Int × Int // x ∈ L })]).length : Int) = (pre.length : Int) + 1 := by simp
            have EM : (pre ++ [(⟨(x1, x2), hx⟩ : { x : Int × Int // x ∈ L })]).map (·.1) = pre.map (·.1) ++ [(x1, x2)] := by simp
            have EE := Lib.hid (And.intro EL EM)
            rw [HLN.out] at hlt
            clear hcell hcase hbx hBX hpre EL EM he9
            obtain ⟨⟨y1, y2⟩, hy⟩ : ∃ y, L.getD pre.length (0, 0) = y := ⟨_, rfl⟩
            rw [hy] at qk1 qk2 PS PL
            obtain ⟨k, hk⟩ : ∃ k, pre.length = k := ⟨_, rfl⟩
            rw [hk] at qk1 qk2 hk1 hlt HX EE
            have HH := Lib.hid (And.intro hy hk)
            clear hy hk
            have g1 : decide ((nr : Int) ≤ (k : Int)) = false := decide_eq_false (by omega)
            have g2 : (k : Int) < (nr : Int) := by omega
            have kwk : IntKind.i64.wrap ((k : Int) + 1) = (k : Int) + 1 := by simp [IntKind.wrap, IntKind.bits, IntKind.signed]; omega
            by_cases hxe : y1 = x1 ∧ y2 = x2
            · obtain ⟨rfl, rfl⟩ := hxe
              have PS1 := Lib.hid (PS.out rfl)
              clear PS PL
              by_cases hk0 : k = 0
              · have z1 : ((k : Int) == 0) = true := by simp [hk0]
                have z2 : decide ((k : Int) = 0) = true := by simp [hk0]
                have HK0 := Lib.hid hk0
                clear hk0
                gi_wp2_with fail
                refine ⟨trivial, ?_⟩
                gi_at_call 13
                refine (CallsIn.inRound l (callsIn_wide.2 KG.out)).mono ?_
                rintro e X2 ⟨rfl, b2⟩
                have BG := Lib.hid b2
                have hk3 := (xbox_bel HX.out b2).cell
                have hk4 := (xbox_bel HX.out b2).frozen
                clear b2 cl cr fr cb cq hk1 hk2
                gi_wp2
                refine ⟨(xothers_bel BG.out).trans (KeepsOthers.setCell _ _ _), (BG.out.mono HBX.out.size).setCell (p := ⟨w11.heap.size, 0, none⟩) (Nat.le_refl _) _, ?_, (HBX.out.trans (BG.out.mono HBX.out.size)).setCell (p := ⟨w11.heap.size, 0, none⟩) (Nat.le_refl _) _, ?_, MX.out.keep ((xothers_bel BG.out).trans (KeepsOthers.setCell _ _ _))⟩
                · rw [EE.out.1]; exact (xbox_bel HX.out BG.out).set _
                · have r := PS1.out; rw [← EE.out.2] at r; exact r
              · have z1 : ((k : Int) == 0) = false := by simpa using hk0
                have z2 : decide ((k : Int) = 0) = false := by simpa using hk0
                have HK0 := Lib.hid hk0
                clear hk0
                gi_wp2
                refine ⟨trivial, ?_⟩
                gi_wp2
                refine ⟨KeepsOthers.setCell _ _ _, (Below.refl w11.heap.size X).setCell (p := ⟨w11.heap.size, 0, none⟩) (Nat.le_refl _) _, ?_, HBX.out.setCell (p := ⟨w11.heap.size, 0, none⟩) (Nat.le_refl _) _, ?_, MX.out.keep (KeepsOthers.setCell _ _ _)⟩
                · rw [EE.out.1]; exact HX.out.set _
                · have r := PS1.out; rw [← EE.out.2] at r; exact r
            · clear KG
              have NP := Lib.hid (show ¬ (pre ++ [(⟨(x1, x2), hx⟩ : { x : Int × Int // x ∈ L })]).map (·.1) <+: L from fun h => by
                rw [EE.out.2] at h
                have := PL.out h
                simp only [Prod.mk.injEq] at this
                exact hxe this)
              by_cases e1 : y1 = x1
              · subst e1
                have e2 : ¬ y2 = x2 := fun e => hxe ⟨rfl, e⟩
                have e3 : (y2 == x2) = false := by simpa using e2
                have e4 : (y2 != x2) = true := by simpa using e2
                clear hxe
                gi_wp2
                exact ⟨KeepsOthers.setCell _ _ _, NP.out⟩
              · have e3 : (y1 == x1) = false := by simpa using e1
                have e4 : (y1 != x1) = true := by simpa using e1
                clear hxe
                gi_wp2
                exact ⟨KeepsOthers.setCell _ _ _, NP.out⟩
          case stop1 =>
            rintro E2 cx pre X hE2 hp3 h hK
            exact absurd hp3 h
          case done1 =>
            rintro E2 ys X hE2 hy ⟨hbx, hBX, _, hMX⟩ hK
            have hyl : (ys.length : Int) = (nr : Int) := by have := congrArg List.length hy; rw [List.length_map] at this; have := HLN.out; omega
            rw [hyl] at hbx
            have hk1 := hbx.cell
            have cb := (FF.out.later hBX).b.cell
            have HX1 := Lib.hid hbx
            have HB1 := Lib.hid hBX
            have M1 := Lib.hid (show Mk w11.heap.size (E2 :: Es) X from hMX.cons (fun E hE => by have := ES.out E hE; simp at hE2; omega) (by simp at hE2; omega) hK)
            have g4 : ((nr : Int) != (nr : Int)) = false := by simp
            clear hy hyl hbx hBX hMX hK hE2
            try refine wpIn_wide.2 ?_
            go_wp2
            exact ⟨passX_mk _ _ p' (E2 :: Es) _ rfl ⟨by omega, by simp; omega, HX1.out, HB1.out, M1.out⟩, by simp [dfs, hEl]; omega⟩
        · obtain rfl : p = 2 := by omega
          obtain ⟨F3, F2, F1, rfl⟩ : ∃ a b c, Es = [a, b, c] := by
            match Es, hEl with
            | [a, b, c], _ => exact ⟨a, b, c, rfl⟩
          have CE := Lib.hid (World.cell?_setCell_same' W ⟨w.heap.size + 1 + 1, 0, none⟩ (.bool true) (by rw [cr]; rfl))
          have MS := Lib.hid (HMK.out.keep (KeepsOthers.setCell W ⟨w.heap.size + 1 + 1, 0, none⟩ (.bool true)))
          have BE := Lib.hid (FW.out.bel.setCell (p := ⟨w.heap.size + 1 + 1, 0, none⟩) (by simp; omega) (.bool true))
          have GW := Lib.hid (show w.heap.size ≤ w11.heap.size from FF.out.bel.size)
          simp only [dfs, List.map_cons, List.map_nil]
          clear hEl hp2 hp
          go_wp2
          obtain ⟨hpw, hms⟩ := MS.out
          simp only [List.pairwise_cons, List.mem_cons, List.not_mem_nil, or_false, forall_eq_or_imp, forall_eq] at hpw
          obtain ⟨⟨n32, n31⟩, n21, _⟩ := hpw
          obtain ⟨l3, m3⟩ := hms F3 (by simp)
          obtain ⟨l2, m2⟩ := hms F2 (by simp)
          obtain ⟨l1, m1⟩ := hms F1 (by simp)
          have s2 := xput_other (l := F3) (o' := .deferred none) m2 (by omega)
          have s1 := xput_other (l := F2) (o' := .deferred none) (xput_other (l := F3) (o' := .deferred none) m1 (by omega)) (by omega)
          have gw := GW.out
          refine ⟨by simp, .inl ⟨_, _, rfl, run_takeDeferred m3, ?_⟩⟩
          refine ⟨by simp, .inl ⟨_, _, rfl, run_takeDeferred s2, ?_⟩⟩
          refine ⟨by simp, .inl ⟨_, _, rfl, run_takeDeferred s1, ?_⟩⟩
          have c1 := cell_kept CE.out (grownBy_putObj' _ F3 (.deferred none)) (fun r e => by cases e; exact ⟨_, m3, rfl⟩)
          have c2 := cell_kept c1 (grownBy_putObj' _ F2 (.deferred none)) (fun r e => by cases e; exact ⟨_, s2, rfl⟩)
          have c3 := cell_kept c2 (grownBy_putObj' _ F1 (.deferred none)) (fun r e => by cases e; exact ⟨_, s1, rfl⟩)
          refine ⟨.bool true, by simp [results, Try.f3, go_sem, c3], rfl, ?_⟩
          exact ((BE.out.trans (belowK_b (w := w) (Nat.le_refl _) _ F3 _ _ (by omega) m3 rfl rfl)).trans (belowK_b (w := w) (Nat.le_refl _) _ F2 _ _ (by omega) s2 rfl rfl)).trans (belowK_b (w := w) (Nat.le_refl _) _ F1 _ _ (by omega) s1 rfl rfl)
end Go.Proofs.Ytmhfegdjcdnneaa
