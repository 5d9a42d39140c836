import Derived.Test.YthhacbelbkkcmaaXAA
import Derived.Test.YthhacbelbkkcmaaXAB
import Derived.Test.YthhacbelbkkcmaaXAV
namespace Go.Proofs.Ythhacbelbkkcmaa
open Go.ChangeShapes Go.WideShapes Go.ChangeAt Go.RowKit Go.Deep
set_option linter.unusedVariables false

theorem bulkF_one {H : Type} (d : DataW H) : 1 ≤ Rows.uptoBulk d := by
  cases d with
  | lit l => cases l <;> simp [Rows.uptoBulk]
  | nil => simp [Rows.uptoBulk]
  | ptr d => simp [Rows.uptoBulk]
  | slice elems spare => simp [Rows.uptoBulk]
  | agg parts => simp [Rows.uptoBulk]
  | iface t d => simp [Rows.uptoBulk]
  | map entries => simp [Rows.uptoBulk]
  | held h => simp [Rows.uptoBulk]
theorem bulkF_len {H : Type} (l : List (DataW H)) : l.length ≤ Rows.uptoBulkAll l := by
  induction l with
  | nil => simp [Rows.uptoBulkAll]
  | cons x r ih => have := bulkF_one x; simp only [Rows.uptoBulkAll, List.length_cons]; omega
theorem bulkF_part {H : Type} {d : DataW H} {l : List (DataW H)} (h : d ∈ l) : Rows.uptoBulk d ≤ Rows.uptoBulkAll l := by
  induction l with
  | nil => cases h
  | cons x r ih =>
    simp only [Rows.uptoBulkAll]
    cases List.mem_cons.1 h with
    | inl e => subst e; omega
    | inr e => have := ih e; omega
theorem litF_in {v : Int} (h : (Lit.int .i64 v).wf = true) : -9223372036854775808 ≤ v ∧ v ≤ 9223372036854775807 := by
  simp [Lit.wf, IntKind.min, IntKind.max, IntKind.bits, IntKind.signed] at h
  omega
theorem sliceF_form {H : Type} {enc : TypeId × Value → H} {P : Program} {W : World} {base : Nat} {sp : Nat → Bool} {held : Bool} {t e : TypeId} {fuel : Nat} {v : Value} {x : DataW H × List MemPlace} (hT : P.underlying t = some (.slice e)) (h : DataW.trod enc P W base sp held fuel t [v] = some x) : ∃ a n c, v = .slice a n c := by
  rcases open_slice hT h with ⟨q, _⟩ | ⟨y', l', c', _, _, _, _, q, _⟩
  · simp at q; exact ⟨_, _, _, q⟩
  · simp at q; exact ⟨_, _, _, q⟩
theorem addrF_of {w : World} {y : Addr} {v : Value} (hc : w.cell? y = some v) : ∃ b o, y = ⟨b, o, none⟩ ∧ b < w.heap.size := by
  obtain ⟨b, o, s⟩ := y
  have hs : s = none := by simpa [Addr.add] using World.cell?_spot hc
  subst hs
  refine ⟨b, o, rfl, ?_⟩
  by_cases hlt : b < w.heap.size
  · exact hlt
  · exfalso
    have hn : w.heap[b]? = none := by simp; omega
    simp [World.cell?, hn] at hc
section
variable {H : Type} {enc : TypeId × Value → H} {P : Program} {W : World} {base : Nat} {sp : Nat → Bool} {held : Bool}
theorem open_askF {t e L tf s : TypeId} {fs fl : Array Field} {fuel : Nat} {cs : List Value} {x : DataW H × List MemPlace}
    (ht : P.underlying t = some (.struct fs)) (hfs : fs.toList.map (fun f => (f.type, f.offset)) = [(e, 0), (L, 1), (e, 2)]) (he : P.underlying e = some (.int .i64)) (hL : P.underlying L = some (.slice tf)) (htf : P.underlying tf = some (.struct fl)) (hfl : fl.toList.map (fun f => (f.type, f.offset)) = [(e, 0), (s, 1), (e, 2)]) (hs : P.underlying s = some .string) (hce : P.cellsOf e = 1) (hcL : P.cellsOf L = 1) (hct : P.cellsOf t = 3) (hcs : P.cellsOf s = 1) (hcf : P.cellsOf tf = 3)
    (h : DataW.trod enc P W base sp held fuel t cs = some x) (hk : Rows.uptoBulk x.1 ≤ 1048576) : ∃ q : Af, cs = [.int .i64 q.kd, .slice q.a q.n q.cap, .int .i64 q.N] ∧ AfOk W q := by
  obtain ⟨xs, n, _, hd, hl, hlen, hfld⟩ := DataW.trod_struct ht h
  rw [hct] at hl
  obtain ⟨c0, c1, c2, rfl⟩ : ∃ a b c, cs = [a, b, c] := by
    match cs, hl with
    | [a, b, c], _ => exact ⟨a, b, c, rfl⟩
  have h3 : fs.size = 3 := by have := congrArg List.length hfs; simpa using this
  have fat : ∀ i (hi : i < 3), ∃ f, fs[i]? = some f ∧ (f.type, f.offset) = [(e, 0), (L, 1), (e, 2)][i] := fun i hi => by
    refine ⟨fs[i]'(by omega), by simp [show i < fs.size by omega], ?_⟩
    have : (fs.toList.map (fun f => (f.type, f.offset)))[i]? = [(e, 0), (L, 1), (e, 2)][i]? := by rw [hfs]
    simpa [show i < fs.size by omega, hi] using this
  have ex : ∀ i, i < 3 → ∃ y, xs[i]? = some y := fun i hi => ⟨xs[i]'(by omega), by simp [show i < xs.length by omega]⟩
  obtain ⟨f0, g0, e0⟩ := fat 0 (by omega)
  obtain ⟨f1, g1, e1⟩ := fat 1 (by omega)
  obtain ⟨f2, g2, e2⟩ := fat 2 (by omega)
  obtain ⟨y0, q0⟩ := ex 0 (by omega)
  obtain ⟨y1, q1⟩ := ex 1 (by omega)
  obtain ⟨y2, q2⟩ := ex 2 (by omega)
  have k0 := hfld 0 f0 g0
  have k1 := hfld 1 f1 g1
  have k2 := hfld 2 f2 g2
  simp only [List.getElem_cons_zero, List.getElem_cons_succ, Prod.mk.injEq] at e0 e1 e2
  rw [q0, e0.1, e0.2, hce] at k0
  rw [q1, e1.1, e1.2, hcL] at k1
  rw [q2, e2.1, e2.2, hce] at k2
  simp at k0 k1 k2
  have hd1 : x.1 = .agg (xs.map (·.1)) := by have := congrArg Prod.fst hd; simpa using this
  obtain ⟨v0, r0, _, w0⟩ := DataW.trod_int he k0
  obtain ⟨v2, r2, _, w2⟩ := DataW.trod_int he k2
  simp at r0 r2
  obtain ⟨na, nn, nc, rfl⟩ := sliceF_form hL k1
  obtain ⟨Fs, p1, p2⟩ := open_flows hL htf hfl he hs hce hcs hcf k1
  subst r0 r2
  have b1 : Rows.uptoBulk y1.1 ≤ Rows.uptoBulkAll (xs.map (·.1)) := bulkF_part (List.mem_map.2 ⟨y1, by
    have hi : 1 < xs.length := by omega
    have : xs[1] = y1 := by simpa [hi] using q1
    rw [← this]
    exact List.getElem_mem hi, rfl⟩)
  rw [hd1] at hk
  simp only [Rows.uptoBulk] at hk
  have n20 : nn ≤ 1048576 := by
    rcases p2 with p2 | ⟨l, r, e1, e2⟩
    · omega
    · rw [e1] at b1
      simp only [Rows.uptoBulk] at b1
      have := bulkF_len l
      omega
  refine ⟨⟨v0, na, nn, nc, v2, Fs⟩, rfl, fl_of_isL (by show nn * 32 ≤ _; omega) p1, ?_, ?_, n20, ?_, (litF_in w2).2⟩
  · intro z
    rcases p1 with ⟨_, _, z2, _⟩ | ⟨y, z1, _⟩
    · exact z2
    · simp only at z; rw [z] at z1; cases z1
  · rcases p1 with ⟨_, z1, z2, _⟩ | ⟨y, _, z1, _⟩
    · simp only; omega
    · exact z1
  · rcases p1 with ⟨_, _, _, z⟩ | ⟨y, _, _, _, _, z, _⟩
    · intro f hf; simp only at hf; rw [z] at hf; cases hf
    · exact z
theorem open_asksF {T t e L tf s : TypeId} {fs fl : Array Field} {fuel : Nat} {a : Option Addr} {len cap : Nat} {x : DataW H × List MemPlace}
    (hT : P.underlying T = some (.slice t)) (ht : P.underlying t = some (.struct fs)) (hfs : fs.toList.map (fun f => (f.type, f.offset)) = [(e, 0), (L, 1), (e, 2)]) (he : P.underlying e = some (.int .i64)) (hL : P.underlying L = some (.slice tf)) (htf : P.underlying tf = some (.struct fl)) (hfl : fl.toList.map (fun f => (f.type, f.offset)) = [(e, 0), (s, 1), (e, 2)]) (hs : P.underlying s = some .string) (hce : P.cellsOf e = 1) (hcL : P.cellsOf L = 1) (hct : P.cellsOf t = 3) (hcs : P.cellsOf s = 1) (hcf : P.cellsOf tf = 3)
    (h : DataW.trod enc P W base sp held fuel T [.slice a len cap] = some x) (hk : Rows.uptoBulk x.1 ≤ 1048576) : ∃ xs, AfL W a len xs := by
  rcases open_slice hT h with ⟨h0, _⟩ | ⟨y, l, c, m, n, D, Pl, h0, hbb, hl, hm, hmm, xe, hx⟩
  · simp at h0
    obtain ⟨rfl, rfl, rfl⟩ := h0
    exact ⟨[], rfl, by omega, (fun c hc => by cases hc), .inl rfl⟩
  · simp at h0
    obtain ⟨rfl, rfl, rfl⟩ := h0
    have hlm : len ≤ m := by rw [hmm]; split <;> omega
    rw [xe] at hk
    simp only [Rows.uptoBulk] at hk
    have lb := bulkF_len ((List.range len).map D)
    simp only [List.length_map, List.length_range] at lb
    obtain ⟨F, hF⟩ := choose_lt (α := Af) (n := len) (p := fun i q => AfOk W q ∧ W.cell? (y.add (i * 3)) = some (.int .i64 q.kd) ∧ W.cell? (y.add (i * 3 + 1)) = some (.slice q.a q.n q.cap) ∧ W.cell? (y.add (i * 3 + 2)) = some (.int .i64 q.N)) (fun i hi => by
      obtain ⟨cs', h1, h2⟩ := hx i (by omega)
      rw [hct] at h1
      obtain ⟨_, _, h3⟩ := World.cells?_some h1
      obtain ⟨q, rfl, w⟩ := open_askF ht hfs he hL htf hfl hs hce hcL hct hcs hcf h2 (by
        have := bulkF_part (d := D i) (l := (List.range len).map D) (List.mem_map.2 ⟨i, by simpa using hi, rfl⟩)
        show Rows.uptoBulk (D i) ≤ 1048576
        omega)
      have a0 := h3 0 (by omega)
      have a1 := h3 1 (by omega)
      have a2 := h3 2 (by omega)
      rw [add_add] at a0 a1 a2
      exact ⟨q, w, a0, a1, a2⟩)
    have g : ∀ i, i < len → ((List.range len).map F).getD i default = F i := fun i hi => by simp [hi]
    refine ⟨(List.range len).map F, by simp, by omega, ?_, ?_⟩
    · intro f hf
      simp at hf
      obtain ⟨i, hi, rfl⟩ := hf
      exact (hF i hi).1
    · by_cases h0 : len = 0
      · exact .inl h0
      · have h00 := (hF 0 (by omega)).2.1
        have e0 : y.add (0 * 3) = y := by simp [Addr.add]
        rw [e0] at h00
        obtain ⟨b, o, rfl, hlt⟩ := addrF_of h00
        refine .inr ⟨b, o, rfl, hlt, fun i hi => ?_⟩
        rw [g i hi]
        have := (hF i hi).2
        rw [Go.Addr.add_lit, Go.Addr.add_lit, Go.Addr.add_lit] at this
        exact this
end
end Go.Proofs.Ythhacbelbkkcmaa

namespace Go.Proofs.Ythhacbelbkkcmaa
open Go.RowKit
set_option linter.unusedVariables false
set_option linter.unusedSimpArgs false

theorem ent_new {W W' : World} {B s k : Nat} {v : Value} {xs : List Value} {e : En} {B0 U : Nat} (h : EnOk W B0 U e) (o : W.ownsRow B 35 s v k xs) (g : W.grownBy W' v.ownBlock) : EnOk W' B0 U e := Two.kept h o g
set_option maxRecDepth 100000 in
set_option maxHeartbeats 8000000 in
theorem flowExact_any (ad : Option Addr) (len cap : Nat) (xs : List Af) (w : World) (h : AfL w ad len xs) (sN : SortsN) (sT : SortsT) :
    Calls Try.prog 3 #[.slice ad len cap] w fun e w' => e = .returned (.bool true) ∧ Below w.heap.size w w' := by
  have hlen := h.2.1
  have HA := Lib.hid h
  have L0 := Lib.hid (p := LxI w w 0 (.slice none 0 0) []) ⟨Below.refl _ _, rfl, World.ownsRow_nil _ _ _ _, fun e he => by cases he⟩
  clear h
  go_enter Try.func3, Try.ntmps3
  go_wp2
  go_loopw [3, 4] (fun v t wr => ∃ (i : Nat) (u : Value) (es : List En), u = v ∧ i ≤ len ∧ t = .int .i64 i ∧ LxI w wr i u es) (fun _ t _ => len - (intOf t).toNat)
  case atStart => exact ⟨0, _, [], rfl, by omega, rfl, L0.out⟩
  case round =>
    obtain ⟨i, u, es, rfl, hi, rfl, hL⟩ := hrel
    have LL := Lib.hid hL
    clear L0
    by_cases hlt : i < len
    · have kc : (i : Int) < (len : Int) := by omega
      obtain ⟨ab, ao, rfl, hCA⟩ := HA.out.at (w := w) (W := w) hlt
      obtain ⟨j, hj⟩ : ∃ j : Nat, (i + 1) % len = j := ⟨_, rfl⟩
      have jl : j < len := by rw [← hj]; exact Nat.mod_lt _ (by omega)
      have jc : (j : Int) < (len : Int) := by omega
      have kw : IntKind.i64.wrap ((i : Int) + 1) = (i : Int) + 1 := by simp [IntKind.wrap, IntKind.bits, IntKind.signed]; omega
      have rm : ((i : Int) + 1) % (len : Int) = (j : Int) := by rw [← hj]; simp
      have nz : ¬ (len : Int) = 0 := by omega
      clear hj
      have Q1 := Lib.hid ((HA.out.ok hlt).later hL.bel)
      have Q2 := Lib.hid ((HA.out.ok jl).later hL.bel)
      have C2 := Lib.hid (fun W (b : Below w.heap.size w W) => hCA W b j jl)
      obtain ⟨x0, x1, x2⟩ := hCA wr hL.bel i hlt
      have C1 := Lib.hid (fun W (b : Below w.heap.size w W) => hCA W b i hlt)
      clear hCA
      generalize xs.getD i default = q1 at *
      generalize xs.getD j default = q2 at *
      obtain ⟨K, qa, qn, qc, N, fs⟩ := q1
      obtain ⟨K2, ra, rn, rc, N2, gs⟩ := q2
      try simp only at x0 x1 x2
      have FQ := Lib.hid (p := FL wr qa qn fs) Q1.out.fl
      have NQ := Lib.hid (p := qa = none → qc = 0) Q1.out.nc
      have BW := Lib.hid hL.bel
      have n20 : qn ≤ 1048576 := Q1.out.n20
      clear hL
      go_wp2_with fail
      go_at_call 4
      refine (twin_n qa qn qc fs wr FQ.out NQ.out).mono ?_
      rintro e w1 ⟨wa, wc, rfl, h1, h2⟩
      have B1 := Lib.hid h1
      have OW := Lib.hid h2
      clear h1 h2 x0 x1 x2
      obtain ⟨x0, x1, x2⟩ := C1.out w1 (BW.out.trans (B1.out.mono BW.out.size))
      try simp only at x0 x1 x2
      go_wp2_with fail
      go_at_call 5
      refine (roomy_n qa qn qc fs w1 (FQ.out.later B1.out)).mono ?_
      rintro e w2 ⟨G, rfl, h1, h2, h3⟩
      have B2 := Lib.hid h1
      have GL := Lib.hid h2
      have R2 := Lib.hid h3
      have E2 := Lib.hid (B1.out.trans (B2.out.mono B1.out.size))
      clear h1 h2 h3 x0 x1 x2
      obtain ⟨x0, x1, x2⟩ := C1.out w2 (BW.out.trans (E2.out.mono BW.out.size))
      try simp only at x0 x1 x2
      have ql := Lib.hid (p := fs.length = qn) Q1.out.fl.1
      have A3 := Lib.hid (al_bel w2 (aqb K (some ⟨G, 0, none⟩) qn (qn + 3) N))
      have CB := Lib.hid (fun W (b : Below (w2.alloc (aqb K (some ⟨G, 0, none⟩) qn (qn + 3) N)).heap.size (w2.alloc (aqb K (some ⟨G, 0, none⟩) qn (qn + 3) N)) W) => aq_box b)
      have GU := Lib.hid (p := G < (w2.alloc (aqb K (some ⟨G, 0, none⟩) qn (qn + 3) N)).heap.size) (by have := R2.out.lt; simp; omega)
      go_wp2_with fail
      obtain ⟨w3, hw3⟩ : ∃ W, w2.alloc (aqb K (some ⟨G, 0, none⟩) qn (qn + 3) N) = W := ⟨_, rfl⟩
      rw [hw3] at A3 CB GU
      unfold aqb at hw3
      rw [hw3]
      clear hw3 x0 x1 x2
      have E3 := Lib.hid (p := Below wr.heap.size wr w3) (E2.out.trans (A3.out.mono E2.out.size))
      have RG := Lib.hid (p := Rf w3 G (fs ++ [mkFl qn, mkFl (qn + 1), mkFl (qn + 2)])) (own_belowE R2.out A3.out)
      have KA := Lib.hid (fun W (r : Rf W G (fs ++ [mkFl qn, mkFl (qn + 1), mkFl (qn + 2)])) => answer_any K (some ⟨G, 0, none⟩) qn (qn + 3) N fs W ⟨rf_flM r ql.out (by omega), fun e => by (cases e), hw_wf ql.out Q1.out.wf⟩ (by omega) n20 Q1.out.N Q1.out.wf sN sT)
      go_at_call 6
      refine (KA.out w3 RG.out).mono ?_
      rintro e w4 h4
      obtain ⟨a1, n1, c1, b1, m1, d1, g1, t1, rfl, h1, h2, h3⟩ := ansE_form h4
      have P1 := Lib.hid h1
      have B4 := Lib.hid h2
      have T1 := Lib.hid h3
      have E4 := Lib.hid (E3.out.trans (h2.mono E3.out.size))
      clear h1 h2 h3 h4
      obtain ⟨x0, x1, x2⟩ := C2.out w4 (BW.out.trans (E4.out.mono BW.out.size))
      try simp only at x0 x1 x2
      go_wp2_with fail
      go_at_call 6
      refine (answer_any K2 ra rn rc N2 gs w4 ⟨Q2.out.fl.later E4.out, Q2.out.nc, hw_wf Q2.out.fl.1 Q2.out.wf⟩ Q2.out.le Q2.out.n20 Q2.out.N Q2.out.wf sN sT).mono ?_
      rintro e w5 h4
      obtain ⟨a2, n2, c2, b2, m2, d2, g2, t2, rfl, h1, h2, h3⟩ := ansE_form h4
      have B5 := Lib.hid h2
      have T2 := Lib.hid h3
      have E5 := Lib.hid (E4.out.trans (h2.mono E4.out.size))
      have X5 := Lib.hid (B4.out.trans (h2.mono B4.out.size))
      clear h1 h2 h3 h4 x0 x1 x2
      obtain ⟨x0, x1, x2⟩ := CB.out w5 X5.out
      go_wp2_with fail
      go_at_call 6
      refine (KA.out w5 (own_belowE RG.out X5.out)).mono ?_
      rintro e w6 h4
      obtain ⟨a3, n3, c3, b3, m3, d3, g3, t3, rfl, h1, h2, h3⟩ := ansE_form h4
      obtain ⟨rfl, rfl⟩ := AnsOf.one h1 P1.out
      have e1 : n1 = n3 := by rw [← T1.out.gl, ← h3.gl]
      have e2 : m1 = m3 := by rw [← T1.out.tl, ← h3.tl]
      subst e1 e2
      have B6 := Lib.hid h2
      have T3 := Lib.hid h3
      have E6 := Lib.hid (E5.out.trans (h2.mono E5.out.size))
      have X6 := Lib.hid (X5.out.trans (h2.mono X5.out.size))
      have Y6 := Lib.hid (B5.out.trans (h2.mono B5.out.size))
      clear h1 h2 h3 h4 x0 x1 x2
      go_wp2_with fail
      go_at_call 7
      refine (same_fl a1 a3 n1 c1 c3 g1 w6 ((T1.out.later Y6.out).fl) T3.out.fl).mono ?_
      rintro e w7 ⟨rfl, h7⟩
      have E7 := Lib.hid (E6.out.trans (h7.mono E6.out.size))
      have X7 := Lib.hid (X6.out.trans (h7.mono X6.out.size))
      have Y7 := Lib.hid (Y6.out.trans (h7.mono Y6.out.size))
      have Z7 := Lib.hid (B6.out.trans (h7.mono B6.out.size))
      have V7 := Lib.hid h7
      clear h7
      go_wp2_with fail
      go_at_call 8
      refine (sameT_any b1 b3 m1 d1 d3 t1 w7 T1.out.tl T1.out.mb ((T1.out.later Y7.out).tc) ((T3.out.later V7.out).tc)).mono ?_
      rintro e w8 ⟨rfl, h7⟩
      have E8 := Lib.hid (E7.out.trans (h7.mono E7.out.size))
      have X8 := Lib.hid (X7.out.trans (h7.mono X7.out.size))
      have Y8 := Lib.hid (Y7.out.trans (h7.mono Y7.out.size))
      have Z8 := Lib.hid (Z7.out.trans (h7.mono Z7.out.size))
      have V8 := Lib.hid (V7.out.trans (h7.mono V7.out.size))
      have OW8 := Lib.hid (own_belowE OW.out (B2.out.trans ((A3.out.trans (X8.out.mono A3.out.size)).mono B2.out.size)))
      have RG8 := Lib.hid (own_belowE RG.out X8.out)
      clear h7
      go_wp2_with fail
      go_at_call 9
      refine (untouched_any wa qn wc G fs w8 (own_fl OW8.out ql.out (by omega)) (Nat.lt_of_lt_of_le GU.out X8.out.size) (fun i hi => Rf.fc RG8.out i (by simp [ql.out]; omega))).mono ?_
      rintro e w9 ⟨rfl, h7⟩
      have E9 := Lib.hid (E8.out.trans (h7.mono E8.out.size))
      have X9 := Lib.hid (X8.out.trans (h7.mono X8.out.size))
      have Y9 := Lib.hid (Y8.out.trans (h7.mono Y8.out.size))
      have Z9 := Lib.hid (Z8.out.trans (h7.mono Z8.out.size))
      have V9 := Lib.hid (V8.out.trans (h7.mono V8.out.size))
      have OW9 := Lib.hid (own_belowE OW8.out h7)
      have RG9 := Lib.hid (own_belowE RG8.out h7)
      clear h7 RG8 OW8
      obtain ⟨x0, x1, x2⟩ := CB.out w9 X9.out
      go_wp2_with fail
      go_at_call 10
      refine (turned_any G qn qn (qn + 3) K N (some ⟨G, 0, none⟩) fs _ _ _ w9 RG9.out ql.out n20 Q1.out.N Q1.out.wf sN sT).mono ?_
      rintro e w10 ⟨rfl, h7, h8⟩
      have F10 := Lib.hid h7
      have R10 := Lib.hid h8
      have GW := Lib.hid (p := wr.heap.size ≤ G) (Nat.le_trans B1.out.size GL.out)
      have E10 := Lib.hid (E9.out.trans (h7.bel E9.out.size (fun z hz e => by have := GW.out; omega)))
      have OW10 := Lib.hid (FrD.own h7 OW9.out (fun z e q => by have := (OW.out.lt z e).2; have := GL.out; omega))
      have g3 : w3.heap.size ≤ w4.heap.size := B4.out.size
      have g4 : w4.heap.size ≤ w5.heap.size := B5.out.size
      have g5 : w5.heap.size ≤ w6.heap.size := B6.out.size
      have gG := GU.out
      have S1 := Lib.hid ((T1.out.later Y9.out).fr F10.out (fun z z1 z2 e => by omega))
      have S2 := Lib.hid ((T2.out.later Z9.out).fr F10.out (fun z z1 z2 e => by omega))
      have S3 := Lib.hid ((T3.out.later V9.out).fr F10.out (fun z z1 z2 e => by omega))
      have s10 : w6.heap.size ≤ w10.heap.size := Nat.le_trans V9.out.size F10.out.size
      clear h7 h8 x0 x1 x2 T1 T2 T3
      go_wp2_with fail
      go_at_call 11
      refine (hold_two S2.out (by omega) _).mono ?_
      rintro e w11 ⟨rfl, h7, h8⟩
      have W1 := Lib.hid (S1.out.fr h7 (fun z z1 z2 e => by omega))
      have W3 := Lib.hid (S3.out.fr h7 (fun z z1 z2 e => by omega))
      have H2 := Lib.hid h8
      have e3 := E3.out.size
      have E11 := Lib.hid (E10.out.trans (h7.bel E10.out.size (fun z hz e => by omega)))
      have OW11 := Lib.hid (FrD.own h7 OW10.out (fun z e q => by have := (OW.out.lt z e).2; have := GL.out; omega))
      have R11 := Lib.hid (p := Rf w11 G (fs ++ [mkFl qn, mkFl (qn + 1), mkFl (qn + 2)])) (FrD.own h7 R10.out (fun z e q => by simp [Value.ownBlock] at e; omega))
      have s11 : w6.heap.size ≤ w11.heap.size := Nat.le_trans s10 h7.size
      clear h7 h8 S1 S2 S3
      go_wp2_with fail
      go_at_call 11
      refine (hold_two W3.out (by omega) _).mono ?_
      rintro e w12 ⟨rfl, h7, h8⟩
      have V1 := Lib.hid (W1.out.fr h7 (fun z z1 z2 e => by omega))
      have J2 := Lib.hid (p := EnOk w12 _ _ _) (Two.fr H2.out h7 (fun z z1 z2 e => by omega))
      have J3 := Lib.hid h8
      have E12 := Lib.hid (E11.out.trans (h7.bel E11.out.size (fun z hz e => by omega)))
      have OW12 := Lib.hid (FrD.own h7 OW11.out (fun z e q => by have := (OW.out.lt z e).2; have := GL.out; omega))
      have R12 := Lib.hid (p := Rf w12 G (fs ++ [mkFl qn, mkFl (qn + 1), mkFl (qn + 2)])) (FrD.own h7 R11.out (fun z e q => by simp [Value.ownBlock] at e; omega))
      have s12 : w6.heap.size ≤ w12.heap.size := Nat.le_trans s11 h7.size
      clear h7 h8 W1 W3 H2
      have L12 := Lib.hid (LL.out.later E12.out)
      have el : es.length = 3 * i := LL.out.l
      have ww : w.heap.size ≤ w12.heap.size := L12.out.bel.size
      have e12 := E12.out.size
      go_wp2_with (at_builtin; refine wp_held _ es [⟨a2, b2, n2, c2, m2, d2, -1 - (i : Int) - 1048576⟩, ⟨a3, b3, n1, c3, m1, d3, -1 - (i : Int) - 2097152⟩] rfl _ _ rfl w.heap.size u rfl 2 rfl _ rfl rfl L12.out.own (by omega) ww ?_ (by decide); intro gh ch w13 o13 gr13 gy; have O13 := Lib.hid o13; have G13 := Lib.hid gr13; have GY := Lib.hid gy; clear o13 gr13 gy)
      have hb : wr.heap.size ≤ w12.heap.size := E12.out.size
      have ob := Lib.hid (fun z e => (LL.out.own.lt z e).2)
      have ho12 := Lib.hid (L12.out.own.alloc (.cells #[.slice a2 n2 c2, .slice b2 m2 d2, .int .i64 (-1 - (i : Int) - 1048576), .slice a3 n1 c3, .slice b3 m1 d3, .int .i64 (-1 - (i : Int) - 2097152)] 35))
      have AL := Lib.hid (al_bel w12 (.cells #[.slice a2 n2 c2, .slice b2 m2 d2, .int .i64 (-1 - (i : Int) - 1048576), .slice a3 n1 c3, .slice b3 m1 d3, .int .i64 (-1 - (i : Int) - 2097152)] 35))
      have M1 := Lib.hid ((V1.out.later AL.out).kept ho12.out G13.out)
      have M2 := Lib.hid (ent_new (Two.later J2.out AL.out) ho12.out G13.out)
      have M3 := Lib.hid (ent_new (Two.later J3.out AL.out) ho12.out G13.out)
      have ME := Lib.hid (p := ∀ e ∈ es, EnOk w13 w.heap.size wr.heap.size e) (fun e he => ent_new (Two.later (Two.later (LL.out.ent e he) E12.out) AL.out) ho12.out G13.out)
      have OW13 := Lib.hid ((own_belowE OW12.out AL.out).kept G13.out (own_apE (own_belowE OW12.out AL.out) ho12.out (by decide)))
      have R13 := Lib.hid (p := Rf w13 G (fs ++ [mkFl qn, mkFl (qn + 1), mkFl (qn + 2)])) (World.ownsRow.kept (own_belowE R12.out AL.out) G13.out (own_apE (own_belowE R12.out AL.out) ho12.out (by decide)))
      have B13 := Lib.hid ((L12.out.bel.trans (AL.out.mono ww)).grown G13.out (Nat.le_trans ww AL.out.size) (fun k e => (L12.out.own.lt k e).1))
      have s13 : w6.heap.size ≤ w13.heap.size := Nat.le_trans s12 (Nat.le_trans AL.out.size G13.out.size)
      have l13 : w12.heap.size ≤ w13.heap.size := Nat.le_trans AL.out.size G13.out.size
      have gh1 : gh < wr.heap.size ∨ w6.heap.size ≤ gh := by
        rcases GY.out with q | q
        · exact .inl (ob.out gh q)
        · exact .inr (by omega)
      have wwr : w.heap.size ≤ wr.heap.size := LL.out.bel.size
      clear V1 J2 J3 OW12 R12 ho12 AL L12 GY G13
      go_wp2_with fail
      go_at_call 11
      refine (hold_two M1.out (by omega) _).mono ?_
      rintro e w14 ⟨rfl, h7, h8⟩
      have K1 := Lib.hid h8
      have K2' := Lib.hid (p := EnOk w14 _ _ _) (Two.fr M2.out h7 (fun z z1 z2 e => by omega))
      have K3 := Lib.hid (p := EnOk w14 _ _ _) (Two.fr M3.out h7 (fun z z1 z2 e => by omega))
      have KE := Lib.hid (p := ∀ e ∈ es, EnOk w14 w.heap.size wr.heap.size e) (fun e he => Two.fr (ME.out e he) h7 (fun z z1 z2 e => by omega))
      have OW14 := Lib.hid (FrD.own h7 OW13.out (fun z e q => by have := (OW.out.lt z e).2; have := GL.out; omega))
      have R14 := Lib.hid (p := Rf w14 G (fs ++ [mkFl qn, mkFl (qn + 1), mkFl (qn + 2)])) (FrD.own h7 R13.out (fun z e q => by simp [Value.ownBlock] at e; omega))
      have O14 := Lib.hid (FrD.own h7 O13.out (fun z e q => by simp [Value.ownBlock] at e; omega))
      have B14 := Lib.hid (B13.out.trans (h7.bel B13.out.size (fun z hz e => by omega)))
      have s14 : w13.heap.size ≤ w14.heap.size := h7.size
      clear h7 h8 M1 M2 M3 ME OW13 R13 O13 B13
      obtain ⟨es2, h2e⟩ : ∃ es2, es ++ [⟨a2, b2, n2, c2, m2, d2, -1 - (i : Int) - 1048576⟩, ⟨a3, b3, n1, c3, m1, d3, -1 - (i : Int) - 2097152⟩] = es2 := ⟨_, rfl⟩
      have KE2 := Lib.hid (p := ∀ e ∈ es2, EnOk w14 w.heap.size w14.heap.size e) (by
        intro e he
        rw [← h2e] at he
        rcases List.mem_append.1 he with he | he
        · exact Two.wide (KE.out e he) (Nat.le_refl _) (by omega)
        · simp only [List.mem_cons, List.not_mem_nil, or_false] at he
          rcases he with rfl | rfl
          · exact Two.wide K2'.out (by omega) (by omega)
          · exact Two.wide K3.out (by omega) (by omega))
      have l2 : es2.length = 3 * i + 2 := by rw [← h2e, List.length_append, el]; rfl
      have O2' := Lib.hid (p := w14.ownsRow w.heap.size 35 3 (.slice (some ⟨gh, 0, none⟩) (3 * i + 2) ch) es2.length (ecs es2)) (by have := O14.out; rw [h2e, el] at this; exact this)
      have w14s : w.heap.size ≤ w14.heap.size := B14.out.size
      clear h2e KE K2' K3 O14 el
      have l2h := Lib.hid l2
      go_wp2_with (at_builtin; refine wp_held _ es2 [⟨a1, b1, n1, c1, m1, d1, -1 - (i : Int)⟩] rfl _ _ rfl w.heap.size (.slice (some ⟨gh, 0, none⟩) (3 * i + 2) ch) rfl 1 rfl _ rfl rfl O2'.out (by omega) w14s ?_ (by decide); intro gk ck w15 o15 gr15 gy; have O15 := Lib.hid o15; have G15 := Lib.hid gr15; clear o15 gr15 gy)
      have ho14 := Lib.hid (O2'.out.alloc (.cells #[.slice a1 n1 c1, .slice b1 m1 d1, .int .i64 (-1 - (i : Int))] 35))
      have AL := Lib.hid (al_bel w14 (.cells #[.slice a1 n1 c1, .slice b1 m1 d1, .int .i64 (-1 - (i : Int))] 35))
      have OW15 := Lib.hid ((own_belowE OW14.out AL.out).kept G15.out (own_apE (own_belowE OW14.out AL.out) ho14.out (by decide)))
      have R15 := Lib.hid (p := Rf w15 G (fs ++ [mkFl qn, mkFl (qn + 1), mkFl (qn + 2)])) (World.ownsRow.kept (own_belowE R14.out AL.out) G15.out (own_apE (own_belowE R14.out AL.out) ho14.out (by decide)))
      have B15 := Lib.hid ((B14.out.trans (AL.out.mono w14s)).grown G15.out (Nat.le_trans w14s AL.out.size) (fun k e => (O2'.out.lt k e).1))
      have l15 : w14.heap.size ≤ w15.heap.size := Nat.le_trans AL.out.size G15.out.size
      obtain ⟨es3, h3e⟩ : ∃ es3, es2 ++ [⟨a1, b1, n1, c1, m1, d1, -1 - (i : Int)⟩] = es3 := ⟨_, rfl⟩
      have l3 : es3.length = 3 * i + 3 := by rw [← h3e, List.length_append, l2h.out]; rfl
      have KE3 := Lib.hid (p := ∀ e ∈ es3, EnOk w15 w.heap.size w15.heap.size e) (by
        intro e he
        rw [← h3e] at he
        rcases List.mem_append.1 he with he | he
        · exact Two.wide (ent_new (Two.later (KE2.out e he) AL.out) ho14.out G15.out) (Nat.le_refl _) l15
        · simp only [List.mem_cons, List.not_mem_nil, or_false] at he
          subst he
          exact Two.wide (ent_new (Two.later K1.out AL.out) ho14.out G15.out) (by omega) (by omega))
      have O3' := Lib.hid (p := w15.ownsRow w.heap.size 35 3 (.slice (some ⟨gk, 0, none⟩) (3 * i + 2 + 1) ck) es3.length (ecs es3)) (by have := O15.out; rw [h3e, l2h.out] at this; exact this)
      have l3h := Lib.hid l3
      clear h3e KE2 K1 O15 O2' l2 l3 ho14 AL G15 R14 OW14 B14
      go_wp2_with fail
      go_at_call 9
      refine (untouched_any wa qn wc G fs w15 (own_fl OW15.out ql.out (by omega)) (by have := Rf.lt R15.out; exact this) (fun i hi => Rf.fc R15.out i (by simp [ql.out]; omega))).mono ?_
      rintro e w16 ⟨rfl, h7⟩
      have L16 := Lib.hid (p := LxI w w16 (i + 1) (.slice (some ⟨gk, 0, none⟩) (3 * i + 2 + 1) ck) es3) (LxI.later ⟨B15.out, by rw [l3h.out]; omega, O3'.out, KE3.out⟩ h7)
      clear h7 KE3 O3' B15 OW15 R15 LL Q1 Q2
      have n3 : 3 * i + 3 ≤ 4194304 := by omega
      go_wp2
      go_loopw [17] (fun t ws => ∃ k : Nat, k ≤ 3 * i + 3 ∧ t = .int .i64 k ∧ Below w16.heap.size w16 ws) (fun t _ => 3 * i + 3 - (intOf t).toNat)
      case atStart => exact ⟨0, by omega, rfl, Below.refl _ _⟩
      case round =>
        rename World => ws
        obtain ⟨k, hk, rfl, hB⟩ := hrel
        have KB := Lib.hid hB
        by_cases hk2 : k < 3 * i + 3
        · have hw := (L16.out.later hB).own
          have hsz := L16.out.own.lt gk rfl
          have kl : k < es3.length := by rw [l3h.out]; exact hk2
          have hw3 := hw
          rw [l3h.out] at hw3
          have cc : ∀ j, j < 3 → ws.cell? ⟨gk, k * 3 + j, none⟩ = (es3.getD k default).cells[j]? := fun j hj => by
            rw [← ecs_at es3 k kl j hj]
            exact World.ownsRow.cellAt hw3 (k * 3 + j) (by omega)
          have HE := Lib.hid (Two.later (L16.out.ent (es3.getD k default) (by
            have : es3.getD k default = es3[k]'kl := by simp [List.getD, kl]
            rw [this]; exact List.getElem_mem _)) hB)
          generalize es3.getD k default = E at *
          obtain ⟨ea, eb, en, ec, em, ed, emk⟩ := E
          have c0 : ws.cell? ⟨gk, k * 3, none⟩ = some (.slice ea en ec) := cc 0 (by omega)
          have c1 : ws.cell? ⟨gk, k * 3 + 1, none⟩ = some (.slice eb em ed) := cc 1 (by omega)
          have c2 : ws.cell? ⟨gk, k * 3 + 2, none⟩ = some (.int .i64 emk) := cc 2 (by omega)
          have kc : (k : Int) < 3 * (i : Int) + 2 + 1 := by omega
          clear hB hw hw3 cc kl
          go_wp2_with fail
          go_at_call 12
          refine (whole_any ea eb en ec em ed emk ws (Two.fl HE.out) (Two.tc HE.out) HE.out.mb).mono ?_
          rintro e w17 ⟨rfl, h9⟩
          have K9 := Lib.hid (KB.out.trans (h9.mono KB.out.size))
          clear h9 HE
          go_wp2
          go_roundw
          case rel => exact ⟨k + 1, by omega, by go_num, K9.out⟩
          case measure => simp [intOf]; omega
        · obtain rfl : k = 3 * i + 3 := by omega
          have LE := Lib.hid (L16.out.later hB)
          clear hB
          go_wp2
          go_roundw
          case rel => exact ⟨i + 1, _, es3, rfl, by omega, by go_num, LE.out⟩
          case measure => simp [intOf]; omega
    · obtain rfl : i = len := by omega
      have BB := Lib.hid hL.bel
      clear hL
      go_wp2
      go_ret
      exact ⟨rfl, BB.out⟩
end Go.Proofs.Ythhacbelbkkcmaa
