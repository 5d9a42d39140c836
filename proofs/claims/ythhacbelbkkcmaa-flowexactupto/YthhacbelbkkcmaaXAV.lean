import Derived.Test.YthhacbelbkkcmaaXAO
import Derived.Test.YthhacbelbkkcmaaXAT
import Derived.Test.YthhacbelbkkcmaaXAU
namespace Go.Proofs.Ythhacbelbkkcmaa
open Go.RowKit
set_option linter.unusedVariables false
set_option linter.unusedSimpArgs false

/-- What is asked of a list's flows. -/
theorem hw_of {fs : List Fl} {n : Nat} (hl : fs.length = n) (h : ∀ f ∈ fs, f.wf) : ∀ i, i < n → (fs.getD i default).wf := by
  intro i hi
  have : fs.getD i default = fs[i]'(by omega) := by simp [List.getD, hl, hi]
  rw [this]
  exact h _ (List.getElem_mem _)
theorem rep_at {α : Type} [Inhabited α] (n i : Nat) (x : α) (h : i < n) : (List.replicate n x).getD i default = x := by simp [List.getD, List.getElem?_replicate, h]
def bxW (a b : Option Addr) (n c m d : Nat) (mark : Int) : Obj := .cells #[.slice a n c, .slice b m d, .int .i64 mark] 35
theorem bxW_cells {a b : Option Addr} {n c m d : Nat} {mark : Int} {w W : World} (h : Below (w.alloc (bxW a b n c m d mark)).heap.size (w.alloc (bxW a b n c m d mark)) W) : W.cell? ⟨w.heap.size, 0, none⟩ = some (.slice a n c) ∧ W.cell? ⟨w.heap.size, 1, none⟩ = some (.slice b m d) ∧ W.cell? ⟨w.heap.size, 2, none⟩ = some (.int .i64 mark) := by
  have h := (h.block w.heap.size (by simp)).trans (World.alloc_heap_new w (bxW a b n c m d mark))
  unfold bxW at h
  refine ⟨?_, ?_, ?_⟩ <;> simp [World.cell?, h]
set_option maxRecDepth 100000 in
set_option maxHeartbeats 4000000 in
theorem whole_any (a b : Option Addr) (n c m d : Nat) (mark : Int) (w : World) (h : FL w a n (List.replicate n (mkH mark))) (k : TC w b (List.replicate m (mkTt mark))) (hm : m ≤ 4398046511000) :
    Calls Try.prog 12 #[.agg #[.slice a n c, .slice b m d, .int .i64 mark]] w fun e w' => e = .returned (.bool true) ∧ Below w.heap.size w w' := by
  have hn := h.2.1
  have A0 := Lib.hid (al_bel w (bxW a b n c m d mark))
  have HF := Lib.hid (p := n = 0 ∨ ∃ x o, a = some ⟨x, o, none⟩ ∧ x < w.heap.size ∧ ∀ i, i < n → FC w x (o + i * 3) (mkH mark)) (by
    obtain ⟨_, _, h3⟩ := h
    rcases h3 with h3 | ⟨x, o, e, hx, hc⟩
    · exact .inl h3
    · exact .inr ⟨x, o, e, hx, fun i hi => by have := hc i hi; rwa [rep_at n i _ hi] at this⟩)
  have HT := Lib.hid (p := m = 0 ∨ ∃ x, b = some ⟨x, 0, none⟩ ∧ x < w.heap.size ∧ ∀ i, i < m → w.cell? ⟨x, i * 2, none⟩ = some (.string (mkTt mark).1) ∧ w.cell? ⟨x, i * 2 + 1, none⟩ = some (.int .i64 (mkTt mark).2)) (by
    rcases k with k | ⟨x, e, hx, hc⟩
    · simp at k; exact .inl k
    · exact .inr ⟨x, e, hx, fun i hi => by have := hc i (by simpa using hi); rwa [rep_at m i _ hi] at this⟩)
  have CE := Lib.hid (fun W (q : Below (w.alloc (bxW a b n c m d mark)).heap.size (w.alloc (bxW a b n c m d mark)) W) => bxW_cells q)
  clear h k
  unfold bxW at A0 CE
  go_enter Try.func12, Try.ntmps12
  go_wp2
  generalize hW0 : w.alloc (.cells #[.slice a n c, .slice b m d, .int .i64 mark] 35) = W0 at *
  clear hW0
  go_loopw [3] (fun t wr => ∃ k : Nat, k ≤ n ∧ t = .int .i64 k ∧ Below W0.heap.size W0 wr) (fun t _ => n - (intOf t).toNat)
  case atStart => exact ⟨0, by omega, rfl, Below.refl _ _⟩
  case round =>
    obtain ⟨k, hk, rfl, hB⟩ := hrel
    have BB := Lib.hid hB
    obtain ⟨d0, d1, d2⟩ := CE.out _ hB
    by_cases hlt : k < n
    · obtain ⟨x, o, rfl, hx, hc⟩ := HF.out.resolve_left (by omega)
      obtain ⟨c0, c1, c2⟩ := (hc k hlt).later (A0.out.trans (hB.mono A0.out.size)) hx
      have kc : (k : Int) < (n : Int) := by omega
      simp only [mkH] at c0 c1 c2
      clear hB hc
      go_wp2
      go_region
      all_goals
        go_wp2
        go_roundw
        case rel => exact ⟨k + 1, by omega, by go_num, BB.out.drew⟩
        case measure => simp [intOf]; omega
    · obtain rfl : k = n := by omega
      clear hB
      go_wp2
      go_loopw [4] (fun t ws => ∃ j : Nat, j ≤ m ∧ t = .int .i64 j ∧ Below W0.heap.size W0 ws) (fun t _ => m - (intOf t).toNat)
      case atStart => exact ⟨0, by omega, rfl, BB.out⟩
      case round =>
        rename World => ws
        obtain ⟨j, hj, rfl, hC⟩ := hrel
        have CC := Lib.hid hC
        obtain ⟨d0, d1, d2⟩ := CE.out _ hC
        by_cases hlt2 : j < m
        · obtain ⟨x, rfl, hx, hc⟩ := HT.out.resolve_left (by omega)
          have c0 := (hc j hlt2).1
          have c1 := (hc j hlt2).2
          have bw := A0.out.trans (hC.mono A0.out.size)
          rw [← bw.cell (p := ⟨x, j * 2, none⟩) hx] at c0
          rw [← bw.cell (p := ⟨x, j * 2 + 1, none⟩) hx] at c1
          have kc : (j : Int) < (m : Int) := by omega
          simp only [mkTt] at c0 c1
          clear hC hc bw
          go_wp2
          go_region
          all_goals
            go_wp2
            go_roundw
            case rel => exact ⟨j + 1, by omega, by go_num, CC.out.drew⟩
            case measure => simp [intOf]; omega
        · obtain rfl : j = m := by omega
          clear hC
          go_wp2
          go_ret
          exact ⟨rfl, A0.out.trans (CC.out.mono A0.out.size)⟩
theorem ofInt_wrap (X : BitVec 64) : BitVec.ofInt 64 (IntKind.i64.wrap (X.toNat : Int)) = X := by
  have hx := X.isLt
  apply BitVec.eq_of_toNat_eq
  rw [BitVec.toNat_ofInt, IntKind.wrap_i64]
  omega
theorem wrap_ofInt {n : Int} (h : inR n) : IntKind.i64.wrap ((BitVec.ofInt 64 n).toNat : Int) = n := by
  unfold inR at h
  rw [IntKind.wrap_i64, BitVec.toNat_ofInt]
  omega
theorem xor_xor {n : Int} (h : inR n) (k : Int) : bits .xor .i64 (bits .xor .i64 n k) k = n := by
  show IntKind.i64.wrap ((BitVec.ofInt 64 (IntKind.i64.wrap ((BitVec.ofInt 64 n ^^^ BitVec.ofInt 64 k).toNat : Int)) ^^^ BitVec.ofInt 64 k).toNat : Int) = n
  rw [ofInt_wrap, BitVec.xor_assoc, BitVec.xor_self, BitVec.xor_zero]
  exact wrap_ofInt h
/-- A flow whose amount is turned. -/
def xr (f : Fl) : Fl := ⟨f.d, f.c, bits .xor .i64 f.a 1⟩
theorem xr_wf {f : Fl} (h : f.wf) : (xr f).wf := by
  refine ⟨h.1, h.2.1, ?_⟩
  have := xor_inR f.a 1
  unfold inR at this
  simp [xr, Lit.wf, IntKind.min, IntKind.max, IntKind.bits, IntKind.signed]
  omega
theorem xr_xr {f : Fl} (h : f.wf) : xr (xr f) = f := by
  obtain ⟨d, c, a⟩ := f
  simp only [xr, Fl.mk.injEq, true_and]
  exact xor_xor (wf_inR h.2.2) 1
/-- A list whose first k are turned. -/
def gsK (l tl : List Fl) (k : Nat) : List Fl := (l.take k).map xr ++ (l.drop k ++ tl)
theorem gsK_zero (l tl : List Fl) : gsK l tl 0 = l ++ tl := by simp [gsK]
theorem gsK_all {l tl : List Fl} {n : Nat} (h : l.length = n) : gsK l tl n = l.map xr ++ tl := by
  unfold gsK
  rw [List.take_of_length_le (by omega), List.drop_of_length_le (by omega), List.nil_append]
theorem gsK_len {l tl : List Fl} {n k : Nat} (h : l.length = n) (hk : k ≤ n) : (gsK l tl k).length = n + tl.length := by
  simp [gsK]; omega
theorem gsK_at {l tl : List Fl} {n k : Nat} (h : l.length = n) (hk : k < n) : (gsK l tl k).getD k default = l.getD k default := by
  unfold gsK
  have e : ((l.take k).map xr).length = k := by simp; omega
  simp only [List.getD]
  rw [List.getElem?_append_right (by omega), e, Nat.sub_self, List.getElem?_append_left (by simp; omega), List.getElem?_drop, Nat.add_zero]
theorem gsK_set {l tl : List Fl} {n k : Nat} (h : l.length = n) (hk : k < n) : (gsK l tl k).set k (xr (l.getD k default)) = gsK l tl (k + 1) := by
  unfold gsK
  have e : ((l.take k).map xr).length = k := by simp; omega
  have d : l.drop k = l.getD k default :: l.drop (k + 1) := by rw [List.drop_eq_getElem_cons (by omega)]; simp [List.getD, show k < l.length by omega]
  have t : l.take (k + 1) = l.take k ++ [l.getD k default] := by rw [List.take_succ_eq_append_getElem (by omega)]; simp [List.getD, show k < l.length by omega]
  rw [List.set_append_right _ _ (by omega), e, Nat.sub_self, d, t]
  simp
theorem fcs_setA : ∀ (gs : List Fl) (i : Nat) (a : Int), i < gs.length → (fcs gs).set (i * 3 + 2) (.int .i64 a) = fcs (gs.set i ⟨(gs.getD i default).d, (gs.getD i default).c, a⟩)
  | [], i, f, h => by simp at h
  | g :: gs, 0, f, h => rfl
  | g :: gs, i + 1, f, h => by
    have ih := fcs_setA gs i f (by simpa using h)
    show (g.cells ++ fcs gs).set ((i + 1) * 3 + 2) _ = g.cells ++ fcs (gs.set i _)
    have e : g.cells.length = 3 := rfl
    rw [List.set_append_right _ _ (by omega), e, show (i + 1) * 3 + 2 - 3 = i * 3 + 2 by omega, ih]
    rfl
theorem Rf.setA {w : World} {g : Nat} {gs : List Fl} (h : Rf w g gs) (i : Nat) (hi : i < gs.length) (a : Int) : Rf (w.setCell ⟨g, i * 3 + 2, none⟩ (.int .i64 a)) g (gs.set i ⟨(gs.getD i default).d, (gs.getD i default).c, a⟩) := by
  have := (World.ownsRow.stored h (i * 3 + 2) (.int .i64 a)).1
  rw [fcs_setA gs i a hi] at this
  unfold Rf
  rw [List.length_set]
  exact this
/-- What an answer is. -/
def AnsOf (k N : Int) (n : Nat) (fs gs : List Fl) (ts : List (ByteArray × Int)) : Prop :=
  (k = 1 ∧ gs = canN fs ∧ ts = []) ∨ (k = 2 ∧ gs = [] ∧ ts = canT fs) ∨ (k = 3 ∧ (∃ q, Mq [fs.take (cutM N n), fs.drop (cutM N n)] gs q) ∧ ts = []) ∨ (k = 4 ∧ gs = keep N fs ∧ ts = []) ∨ ((¬ k = 1 ∧ ¬ k = 2 ∧ ¬ k = 3 ∧ ¬ k = 4) ∧ AnsP fs gs ∧ ts = [])
theorem AnsOf.one {k N : Int} {n : Nat} {fs gs gs' : List Fl} {ts ts' : List (ByteArray × Int)} (h : AnsOf k N n fs gs ts) (h' : AnsOf k N n fs gs' ts') : gs' = gs ∧ ts' = ts := by
  unfold AnsOf at h h'
  by_cases k1 : k = 1
  · subst k1; simp at h h'; exact ⟨by rw [h.1, h'.1], by rw [h.2, h'.2]⟩
  by_cases k2 : k = 2
  · subst k2; simp at h h'; exact ⟨by rw [h.1, h'.1], by rw [h.2, h'.2]⟩
  by_cases k3 : k = 3
  · subst k3; simp at h h'
    obtain ⟨⟨q, h1⟩, h2⟩ := h
    obtain ⟨⟨q', h1'⟩, h2'⟩ := h'
    exact ⟨(Mq.one h1 h1').1, by rw [h2, h2']⟩
  by_cases k4 : k = 4
  · subst k4; simp at h h'; exact ⟨by rw [h.1, h'.1], by rw [h.2, h'.2]⟩
  · simp [k1, k2, k3, k4] at h h'
    exact ⟨(AnsP.one h.1 h'.1).symm, by rw [h.2, h'.2]⟩
theorem answer_any (k : Int) (a : Option Addr) (n cap : Nat) (N : Int) (fs : List Fl) (w : World) (h : AqF w a n cap fs) (hc : n ≤ cap) (hn : n ≤ 1048576) (hN : N ≤ 9223372036854775807) (hf : ∀ f ∈ fs, f.wf) (sN : SortsN) (sT : SortsT) :
    Calls Try.prog 6 #[.agg #[.int .i64 k, .slice a n cap, .int .i64 N]] w fun e w' => AnsE w (AnsOf k N n fs) e w' := by
  have go : ∀ {P Q : List Fl → List (ByteArray × Int) → Prop} {e : Ending} {w' : World}, (∀ gs ts, P gs ts → Q gs ts) → AnsE w P e w' → AnsE w Q e w' := by
    rintro P Q e w' pq ⟨v, t, gs, ts, h1, h2, h3⟩
    exact ⟨v, t, gs, ts, h1, pq _ _ h2, h3⟩
  by_cases k1 : k = 1
  · subst k1; exact (answer_net a n cap N fs w h sN).mono fun e w' q => go (fun gs ts z => .inl ⟨rfl, z⟩) q
  by_cases k2 : k = 2
  · subst k2; exact (answer_totals a n cap N fs w h sT).mono fun e w' q => go (fun gs ts z => .inr (.inl ⟨rfl, z⟩)) q
  by_cases k3 : k = 3
  · subst k3; exact (answer_merge a n cap N fs w h hc hn hN).mono fun e w' q => go (fun gs ts z => .inr (.inr (.inl ⟨rfl, z⟩))) q
  by_cases k4 : k = 4
  · subst k4; exact (answer_until a n cap N fs w h).mono fun e w' q => go (fun gs ts z => .inr (.inr (.inr (.inl ⟨rfl, z⟩)))) q
  · exact (answer_parse k a n cap N fs w h hf k1 k2 k3 k4).mono fun e w' q => go (fun gs ts z => .inr (.inr (.inr (.inr ⟨⟨k1, k2, k3, k4⟩, z⟩)))) q
theorem hw_wf {fs : List Fl} {n : Nat} (hl : fs.length = n) (h : ∀ f ∈ fs, f.wf) : ∀ i, i < n → inR (fs.getD i default).a ∧ (fs.getD i default).c.size ≤ maxLen ∧ inR (fs.getD i default).d := fun i hi => by
  have := hw_of hl h i hi
  exact ⟨wf_inR this.2.2, this.2.1, wf_inR this.1⟩
/-- A list whose amounts are being turned. -/
structure TuI (w W : World) (g n k : Nat) (K N : Int) (s : Value) (l tl : List Fl) : Prop where
  fr : FrD (fun b => b = g) w W
  r : Rf W g (gsK l tl k)
  bx : W.heap[w.heap.size]? = some (.cells #[.int .i64 K, s, .int .i64 N] 27 (0, 0))
theorem TuI.set {w W : World} {g n k : Nat} {K N : Int} {s : Value} {l tl : List Fl} (h : TuI w W g n k K N s l tl) (hl : l.length = n) (hk : k < n) (hg : g < w.heap.size) : TuI w (W.setCell ⟨g, k * 3 + 2, none⟩ (.int .i64 (bits .xor .i64 (l.getD k default).a 1))) g n (k + 1) K N s l tl := by
  refine ⟨h.fr.set g _ _ (fun _ => rfl), ?_, ?_⟩
  · have := h.r.setA k (by rw [gsK_len hl (by omega)]; omega) (bits .xor .i64 (l.getD k default).a 1)
    rw [gsK_at hl hk] at this
    have e := gsK_set (tl := tl) hl hk
    unfold xr at e
    rwa [e] at this
  · have ne : ¬ g = w.heap.size := by omega
    have := h.bx
    simp only [World.setCell]
    rw [Array.getElem?_modify]
    simp [ne, this]
theorem TuI.step {w W W' : World} {g n k : Nat} {K N : Int} {s : Value} {l tl : List Fl} (h : TuI w W g n k K N s l tl) (b : Below W.heap.size W W') : TuI w W' g n k K N s l tl :=
  ⟨h.fr.trans (FrD.below b), World.ownsRow.kept h.r (below_gr0F b) (Classical.em _), (b.block _ (Array.getElem?_eq_some_iff.1 h.bx).1).trans h.bx⟩
theorem TuI.cells {w W : World} {g n k : Nat} {K N : Int} {s : Value} {l tl : List Fl} (h : TuI w W g n k K N s l tl) : W.cell? ⟨w.heap.size, 0, none⟩ = some (.int .i64 K) ∧ W.cell? ⟨w.heap.size, 1, none⟩ = some s ∧ W.cell? ⟨w.heap.size, 2, none⟩ = some (.int .i64 N) := by
  have := h.bx
  refine ⟨?_, ?_, ?_⟩ <;> simp [World.cell?, this]
set_option maxRecDepth 100000 in
set_option maxHeartbeats 4000000 in
theorem turned_any (g n m mc : Nat) (K N : Int) (xa : Option Addr) (fs : List Fl) (x y z : Fl) (w : World) (h : Rf w g (fs ++ [x, y, z])) (hl : fs.length = n) (hn : n ≤ 1048576) (hN : N ≤ 9223372036854775807) (hf : ∀ f ∈ fs, f.wf) (sN : SortsN) (sT : SortsT) :
    Calls Try.prog 10 #[.slice (some ⟨g, 0, none⟩) (n + 3) (n + 3), .int .i64 n, .agg #[.int .i64 K, .slice xa m mc, .int .i64 N]] w fun e w' => e = .returned (.bool true) ∧ FrD (fun b => b = g) w w' ∧ Rf w' g (fs ++ [x, y, z]) := by
  have hg := h.lt
  obtain ⟨tl, htl⟩ : ∃ tl : List Fl, [x, y, z] = tl := ⟨_, rfl⟩
  have T3 : tl.length = 3 := by rw [← htl]; rfl
  have HF := Lib.hid hf
  have XF := Lib.hid (p := ∀ f ∈ fs.map xr, f.wf) (fun f hq => by obtain ⟨f', h1, rfl⟩ := List.mem_map.1 hq; exact xr_wf (hf f' h1))
  have xl : (fs.map xr).length = n := by rw [List.length_map, hl]
  have XX : (fs.map xr).map xr = fs := by
    rw [List.map_map]
    conv => rhs; rw [← List.map_id fs]
    exact List.map_congr_left fun f hq => xr_xr (hf f hq)
  have KA := Lib.hid (fun W (q : FL W (some ⟨g, 0, none⟩) n (fs.map xr)) => answer_any K (some ⟨g, 0, none⟩) n (n + 3) N (fs.map xr) W ⟨q, fun e => by (cases e), hw_wf xl XF.out⟩ (by omega) hn hN XF.out sN sT)
  have T0 := Lib.hid (p := TuI w (w.alloc (.cells #[.int .i64 K, .slice xa m mc, .int .i64 N] 27)) g n 0 K N (.slice xa m mc) fs tl) ⟨(FrD.refl _ w).alloc _, by rw [gsK_zero, ← htl]; exact World.ownsRow.alloc h _, World.alloc_heap_new _ _⟩
  clear h hf
  have HL := Lib.hid hl
  have XL := Lib.hid xl
  have XXh := Lib.hid XX
  have HT := Lib.hid htl
  clear hl xl XX htl
  obtain ⟨fx, hfx⟩ : ∃ fx, fs.map xr = fx := ⟨_, rfl⟩
  rw [hfx] at KA XL XXh
  have FX := Lib.hid hfx
  clear hfx XF
  go_enter Try.func10, Try.ntmps10
  go_wp2
  go_loopw [7] (fun t wr => ∃ k : Nat, k ≤ n ∧ t = .int .i64 k ∧ TuI w wr g n k K N (.slice xa m mc) fs tl) (fun t _ => n - (intOf t).toNat)
  case atStart => exact ⟨0, by omega, rfl, T0.out⟩
  case round =>
    obtain ⟨k, hk, rfl, hT⟩ := hrel
    have TT := Lib.hid hT
    clear T0
    by_cases hlt : k < n
    · have kc : (k : Int) < (n : Int) := by omega
      have kc3 : (k : Int) < (n : Int) + 3 := by omega
      have c2 := (hT.r.fc k (by rw [gsK_len HL.out (by omega)]; omega)).2.2
      rw [gsK_at HL.out hlt] at c2
      have f2 := World.ownsRow.frozenAt hT.r (k * 3 + 2)
      have S2 := Lib.hid (hT.set HL.out hlt hg)
      generalize (fs.getD k default).a = A at *
      clear hT
      go_wp2
      go_roundw
      case rel => exact ⟨k + 1, by omega, by go_num, S2.out⟩
      case measure => simp [intOf]; omega
    · obtain rfl : k = n := by omega
      obtain ⟨d0, d1, d2⟩ := hT.cells
      have RX := Lib.hid (p := Rf wr g (fx ++ tl)) (by have := hT.r; rwa [gsK_all HL.out, FX.out] at this)
      clear hT
      have FX0 := Lib.hid (p := FL wr (some ⟨g, 0, none⟩) k fx) (rf_flM (x := x) (y := y) (z := z) (by rw [HT.out]; exact RX.out) XL.out (by omega))
      have TX := Lib.hid (p := TuI w wr g k 0 K N (.slice xa m mc) fx tl) ⟨TT.out.fr, by rw [gsK_zero]; exact RX.out, TT.out.bx⟩
      clear TT d0 d1 d2
      obtain ⟨d0, d1, d2⟩ := TX.out.cells
      go_wp2_with (go_at_call 6; refine (KA.out _ (FX0.out.later (al_bel wr _))).mono ?_; rintro e w4 ⟨v4, t4, gs4, ts4, rfl, _, h4⟩; have T4 := Lib.hid (TX.out.step ((al_bel wr _).trans (h4.bel.mono (al_bel wr _).size))); clear h4)
      go_loopw [12] (fun t wr => ∃ j : Nat, j ≤ k ∧ t = .int .i64 j ∧ TuI w wr g k j K N (.slice xa m mc) fx tl) (fun t _ => k - (intOf t).toNat)
      case atStart => exact ⟨0, by omega, rfl, T4.out⟩
      case round =>
        rename World => ws
        obtain ⟨j, hj, rfl, hT⟩ := hrel
        have TT := Lib.hid hT
        by_cases hlt2 : j < k
        · have kc : (j : Int) < (k : Int) := by omega
          have kc3 : (j : Int) < (k : Int) + 3 := by omega
          have c2 := (hT.r.fc j (by rw [gsK_len XL.out (by omega)]; omega)).2.2
          rw [gsK_at XL.out hlt2] at c2
          have f2 := World.ownsRow.frozenAt hT.r (j * 3 + 2)
          have S2 := Lib.hid (hT.set XL.out hlt2 hg)
          generalize (fx.getD j default).a = A at *
          clear hT
          go_wp2
          go_roundw
          case rel => exact ⟨j + 1, by omega, by go_num, S2.out⟩
          case measure => simp [intOf]; omega
        · obtain rfl : j = k := by omega
          have RZ := Lib.hid (p := Rf ws g (fs ++ [x, y, z])) (by have := hT.r; rwa [gsK_all XL.out, XXh.out, ← HT.out] at this)
          clear hT
          go_wp2
          go_ret
          exact ⟨rfl, TT.out.fr, RZ.out⟩
end Go.Proofs.Ythhacbelbkkcmaa

namespace Go.Proofs.Ythhacbelbkkcmaa
open Go.RowKit
set_option linter.unusedVariables false
set_option linter.unusedSimpArgs false

/-- A question. -/
structure Af where
  kd : Int
  a : Option Addr
  n : Nat
  cap : Nat
  N : Int
  fs : List Fl
instance : Inhabited Af := ⟨⟨0, none, 0, 0, 0, []⟩⟩
structure AfOk (w : World) (q : Af) : Prop where
  fl : FL w q.a q.n q.fs
  nc : q.a = none → q.cap = 0
  le : q.n ≤ q.cap
  n20 : q.n ≤ 1048576
  wf : ∀ f ∈ q.fs, f.wf
  N : q.N ≤ 9223372036854775807
theorem AfOk.later {w w' : World} {q : Af} (h : AfOk w q) (b : Below w.heap.size w w') : AfOk w' q := ⟨h.fl.later b, h.nc, h.le, h.n20, h.wf, h.N⟩
def AfL (w : World) (ad : Option Addr) (len : Nat) (xs : List Af) : Prop :=
  xs.length = len ∧ len ≤ 1048576 ∧ (∀ q ∈ xs, AfOk w q) ∧ (len = 0 ∨ ∃ b o, ad = some ⟨b, o, none⟩ ∧ b < w.heap.size ∧ ∀ i, i < len → w.cell? ⟨b, o + i * 3, none⟩ = some (.int .i64 (xs.getD i default).kd) ∧ w.cell? ⟨b, o + i * 3 + 1, none⟩ = some (.slice (xs.getD i default).a (xs.getD i default).n (xs.getD i default).cap) ∧ w.cell? ⟨b, o + i * 3 + 2, none⟩ = some (.int .i64 (xs.getD i default).N))
theorem AfL.ok {w : World} {ad : Option Addr} {len i : Nat} {xs : List Af} (h : AfL w ad len xs) (hi : i < len) : AfOk w (xs.getD i default) := by
  have e := h.1
  have : xs.getD i default = xs[i]'(by omega) := by simp [List.getD, e, hi]
  rw [this]
  exact h.2.2.1 _ (List.getElem_mem _)
theorem AfL.at {w W : World} {ad : Option Addr} {len i : Nat} {xs : List Af} (h : AfL w ad len xs) (hi : i < len) : ∃ b o, ad = some ⟨b, o, none⟩ ∧ ∀ W, Below w.heap.size w W → ∀ i, i < len → W.cell? ⟨b, o + i * 3, none⟩ = some (.int .i64 (xs.getD i default).kd) ∧ W.cell? ⟨b, o + i * 3 + 1, none⟩ = some (.slice (xs.getD i default).a (xs.getD i default).n (xs.getD i default).cap) ∧ W.cell? ⟨b, o + i * 3 + 2, none⟩ = some (.int .i64 (xs.getD i default).N) := by
  rcases h.2.2.2 with z | ⟨b, o, e, hb, hc⟩
  · omega
  · refine ⟨b, o, e, fun W hW i hi => ?_⟩
    obtain ⟨c0, c1, c2⟩ := hc i hi
    exact ⟨(hW.cell (p := ⟨b, _, none⟩) hb).trans c0, (hW.cell (p := ⟨b, _, none⟩) hb).trans c1, (hW.cell (p := ⟨b, _, none⟩) hb).trans c2⟩
/-- What is held. -/
structure En where
  a : Option Addr
  b : Option Addr
  n : Nat
  c : Nat
  m : Nat
  d : Nat
  mark : Int
instance : Inhabited En := ⟨⟨none, none, 0, 0, 0, 0, 0⟩⟩
def En.cells (e : En) : List Value := [.slice e.a e.n e.c, .slice e.b e.m e.d, .int .i64 e.mark]
def ecs (es : List En) : List Value := es.flatMap En.cells
theorem ecs_app (x y : List En) : ecs (x ++ y) = ecs x ++ ecs y := by simp [ecs]
theorem ecs_len (es : List En) : (ecs es).length = es.length * 3 := by
  induction es with
  | nil => rfl
  | cons f fs ih => simp [ecs, En.cells] at ih ⊢; omega
theorem ecs_at (fs : List En) : ∀ i, i < fs.length → ∀ j, j < 3 → (ecs fs)[i * 3 + j]? = (fs.getD i default).cells[j]? := by
  induction fs with
  | nil => intro i hi; simp at hi
  | cons f fs ih =>
    intro i hi j hj
    have e : ecs (f :: fs) = f.cells ++ ecs fs := rfl
    rw [e]
    match i with
    | 0 => rw [Nat.zero_mul, Nat.zero_add, List.getElem?_append_left (by simp [En.cells]; omega)]; rfl
    | i + 1 =>
      rw [List.getElem?_append_right (by simp [En.cells]; omega)]
      rw [show (i + 1) * 3 + j - f.cells.length = i * 3 + j by simp [En.cells]; omega, ih i (by simpa using hi) j hj]
      rfl
theorem ecs_one (es : List En) : ∀ u ∈ ecs es, u.oneCell' = true := by
  intro u hu
  obtain ⟨f, _, hf⟩ := List.mem_flatMap.1 hu
  simp [En.cells] at hf
  rcases hf with rfl | rfl | rfl <;> rfl
/-- Two rows of the calls' own, in blocks B to U. -/
structure Two (W : World) (B U : Nat) (a : Option Addr) (n c : Nat) (b : Option Addr) (m d : Nat) (gs : List Fl) (ts : List (ByteArray × Int)) : Prop where
  f : W.ownsRow B 40 3 (.slice a n c) n (fcs gs)
  t : W.ownsRow B 57 2 (.slice b m d) m (tcs ts)
  gl : gs.length = n
  tl : ts.length = m
  nb : n ≤ 4398046511000
  mb : m ≤ 4398046511000
  uf : ∀ z, (Value.slice a n c).ownBlock = some z → z < U
  ut : ∀ z, (Value.slice b m d).ownBlock = some z → z < U
theorem own_belowE {W W' : World} {B s n : Nat} {E : TypeId} {v : Value} {xs : List Value} (h : W.ownsRow B E s v n xs) (b : Below W.heap.size W W') : W'.ownsRow B E s v n xs := World.ownsRow.kept h (below_gr0F b) (Classical.em _)
section
variable {W W' : World} {B U : Nat} {a b : Option Addr} {n c m d : Nat} {gs : List Fl} {ts : List (ByteArray × Int)}
theorem Two.later (h : Two W B U a n c b m d gs ts) (k : Below W.heap.size W W') : Two W' B U a n c b m d gs ts := ⟨own_belowE h.f k, own_belowE h.t k, h.gl, h.tl, h.nb, h.mb, h.uf, h.ut⟩
theorem Two.fr {D : Nat → Prop} (h : Two W B U a n c b m d gs ts) (k : FrD D W W') (q : ∀ z, B ≤ z → z < U → ¬ D z) : Two W' B U a n c b m d gs ts :=
  ⟨k.own h.f (fun z e => q z (h.f.lt z e).1 (h.uf z e)), k.own h.t (fun z e => q z (h.t.lt z e).1 (h.ut z e)), h.gl, h.tl, h.nb, h.mb, h.uf, h.ut⟩
theorem Two.wide {B' U' : Nat} (h : Two W B U a n c b m d gs ts) (k : B' ≤ B) (q : U ≤ U') : Two W B' U' a n c b m d gs ts := ⟨own_monoF h.f k, own_monoF h.t k, h.gl, h.tl, h.nb, h.mb, fun z e => Nat.lt_of_lt_of_le (h.uf z e) q, fun z e => Nat.lt_of_lt_of_le (h.ut z e) q⟩
theorem Two.kept {B' s k : Nat} {v : Value} {xs : List Value} (h : Two W B U a n c b m d gs ts) (o : W.ownsRow B' 35 s v k xs) (g : W.grownBy W' v.ownBlock) : Two W' B U a n c b m d gs ts :=
  ⟨h.f.kept g (own_apE h.f o (by decide)), h.t.kept g (own_apE h.t o (by decide)), h.gl, h.tl, h.nb, h.mb, h.uf, h.ut⟩
theorem Two.fl (h : Two W B U a n c b m d gs ts) : FL W a n gs := by
  have l := h.gl
  have o := h.f
  subst l
  obtain ⟨a', c', q, z⟩ := fl_of_own o h.nb
  injection q with q
  rw [q]; exact z
theorem Two.tc (h : Two W B U a n c b m d gs ts) : TC W b ts := by
  have l := h.tl
  have o := h.t
  subst l
  obtain ⟨a', c', q, z⟩ := tc_of_own o
  injection q with q
  rw [q]; exact z
end
/-- What was handed out, full of its mark. -/
def EnOk (W : World) (B U : Nat) (e : En) : Prop := Two W B U e.a e.n e.c e.b e.m e.d (List.replicate e.n (mkH e.mark)) (List.replicate e.m (mkTt e.mark))
/-- What answer hands out, with its forms. -/
theorem ansE_form {w w' : World} {P : List Fl → List (ByteArray × Int) → Prop} {e : Ending} (h : AnsE w P e w') : ∃ a n c b m d gs ts, e = .returned (.tuple #[.slice a n c, .slice b m d, .bool true]) ∧ P gs ts ∧ Below w.heap.size w w' ∧ Two w' w.heap.size w'.heap.size a n c b m d gs ts := by
  obtain ⟨v, t, gs, ts, rfl, hp, r⟩ := h
  obtain ⟨a, c, rfl, _⟩ := fl_of_own r.f r.lf
  obtain ⟨b, d, rfl, _⟩ := tc_of_own r.t
  exact ⟨a, _, c, b, _, d, gs, ts, rfl, hp, r.bel, r.f, r.t, rfl, rfl, r.lf, r.lt, fun z e => (r.f.lt z e).2, fun z e => (r.t.lt z e).2⟩
theorem hold_two {W : World} {B U : Nat} {a b : Option Addr} {n c m d : Nat} {gs : List Fl} {ts : List (ByteArray × Int)} (h : Two W B U a n c b m d gs ts) (hB : B ≤ W.heap.size) (mark : Int) :
    Calls Try.prog 11 #[.slice a n c, .slice b m d, .int .i64 mark] W fun e w' => e = .returned (.agg #[.slice a n c, .slice b m d, .int .i64 mark]) ∧ FrD (fun z => B ≤ z ∧ z < U) W w' ∧ EnOk w' B U ⟨a, b, n, c, m, d, mark⟩ := by
  refine (hold_both a b n c m d B gs ts mark W h.f h.t h.gl h.tl h.nb h.mb hB).mono ?_
  rintro e w' ⟨rfl, h1, h2, h3⟩
  refine ⟨rfl, h1.wide ?_, h2, h3, by simp, by simp, h.nb, h.mb, h.uf, h.ut⟩
  rintro z hz (q | q)
  · exact ⟨(h.f.lt z q).1, h.uf z q⟩
  · exact ⟨(h.t.lt z q).1, h.ut z q⟩
theorem twin_n (a : Option Addr) (n cap : Nat) (fs : List Fl) (w : World) (h : FL w a n fs) (hcap : a = none → cap = 0) :
    Calls Try.prog 4 #[.slice a n cap] w fun e w' => ∃ x c, e = .returned (.slice x n c) ∧ Below w.heap.size w w' ∧ w'.ownsRow w.heap.size 40 3 (.slice x n c) n (fcs fs) := by
  refine (twin_any a n cap fs w h hcap).mono ?_
  rintro e w' ⟨v, rfl, h1, h2⟩
  have l := h.1
  have n43 := h.2.1
  subst l
  obtain ⟨x, c, rfl, h3⟩ := fl_of_own h2 n43
  exact ⟨x, c, rfl, h1, h2⟩
theorem own_fl {W : World} {B n : Nat} {a : Option Addr} {c : Nat} {gs : List Fl} (o : W.ownsRow B 40 3 (.slice a n c) n (fcs gs)) (l : gs.length = n) (h : n ≤ 4398046511000) : FL W a n gs := by
  subst l
  obtain ⟨a', c', q, z⟩ := fl_of_own o h
  injection q with q
  rw [q]; exact z
theorem roomy_n (a : Option Addr) (n cap : Nat) (fs : List Fl) (w : World) (h : FL w a n fs) :
    Calls Try.prog 5 #[.slice a n cap] w fun e w' => ∃ G, e = .returned (.slice (some ⟨G, 0, none⟩) (n + 3) (n + 3)) ∧ Below w.heap.size w w' ∧ w.heap.size ≤ G ∧ Rf w' G (fs ++ [mkFl n, mkFl (n + 1), mkFl (n + 2)]) := by
  refine (roomy_any a n cap fs w h).mono ?_
  rintro e w' ⟨rfl, h1, h2⟩
  exact ⟨_, rfl, h1, Nat.le_refl _, h2⟩
/-- Below a place all stays, where only blocks beyond it turn. -/
theorem FrD.bel {D : Nat → Prop} {w w' : World} {B : Nat} (h : FrD D w w') (hB : B ≤ w.heap.size) (k : ∀ z, z < B → ¬ D z) : Below B w w' :=
  ⟨h.os, h.tape, h.out, h.size, fun z hz => h.blk z (by omega) (k z hz)⟩
theorem infoHeld : (Try.prog.info? 35).map (fun i => (i.zero, i.size, i.bytes)) = some (some (.agg #[.slice none 0 0, .slice none 0 0, .int .i64 0]), 3, 56) := by kernel_rfl
/-- 'held = append(held, ..)'. -/
theorem wp_held {ops : Array Oper} {rest : List Oper} {o : Oper} {a : Act} {Q : Exit → Act → World → Prop} (w : World) (es us : List En) (hgd : o.guard = none) (s x : Operand)
    (ho : o.op = .call { callee := .builtin .append, args := #[s, x], argTypes := #[23, 23] }) (B : Nat) (v : Value) (hs : a.eval s = v) (k : Nat) (hk : us.length = k)
    (cs : Array Value) (hcs : cs.toList = ecs us) (hx : a.eval x = .slice (some ⟨w.heap.size, 0, none⟩) k k) (hown : w.ownsRow B 35 3 v es.length (ecs es)) (hl : es.length + k ≤ 4194304) (hb : B ≤ w.heap.size)
    (h : ∀ g cap w', w'.ownsRow B 35 3 (.slice (some ⟨g, 0, none⟩) (es.length + k) cap) (es ++ us).length (ecs (es ++ us)) → (w.alloc (.cells cs 35)).grownBy w' v.ownBlock → (v.ownBlock = some g ∨ g = w.heap.size + 1) → wpList Try.prog ops Q rest (a.put o.dst (.slice (some ⟨g, 0, none⟩) (es.length + k) cap)) w') (k0 : 0 < k) :
    wpList Try.prog ops Q (o :: rest) a (w.alloc (.cells cs 35)) := by
  obtain ⟨i0, hi, hz0, hz1, hz2⟩ := info_parts infoHeld
  subst hk
  refine wpList_append_lies _ hgd s x 23 ho B 35 i0 (.agg #[.slice none 0 0, .slice none 0 0, .int .i64 0]) 3 56 Try.underlying23 hi hz0 hz1 hz2 rfl (by decide) v _ _ hs (hown.alloc _) ⟨w.heap.size, 0, none⟩ us.length us.length (ecs us) hx (ecs_len us) ?_ (ecs_one us) k0 (by unfold maxLen; omega) (by omega) (by simp; omega) (w.heap.size + 1) (by simp) ?_
  · intro j u hj
    rw [Go.Addr.add_lit, Nat.zero_add, World.cell?_alloc_at _ _ _ _ rfl, ← hcs] at *
    simpa using hj
  · intro g cap w' h1 h2 h3 _
    exact h g cap w' (by rw [List.length_append, ecs_app]; exact h1) h2 h3
/-- The law at work. -/
structure LxI (w W : World) (i : Nat) (v : Value) (es : List En) : Prop where
  bel : Below w.heap.size w W
  l : es.length = 3 * i
  own : W.ownsRow w.heap.size 35 3 v es.length (ecs es)
  ent : ∀ e ∈ es, EnOk W w.heap.size W.heap.size e
theorem LxI.later {w W W' : World} {i : Nat} {v : Value} {es : List En} (h : LxI w W i v es) (b : Below W.heap.size W W') : LxI w W' i v es := ⟨h.bel.trans (b.mono h.bel.size), h.l, own_belowE h.own b, fun e he => ((h.ent e he).later b).wide (Nat.le_refl _) b.size⟩

end Go.Proofs.Ythhacbelbkkcmaa
