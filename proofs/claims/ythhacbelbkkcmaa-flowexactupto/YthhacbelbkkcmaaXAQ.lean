import Derived.Test.YthhacbelbkkcmaaXAP
import Derived.WalkMore
namespace Go.Proofs.Ythhacbelbkkcmaa
open Go.RowKit
set_option linter.unusedVariables false
set_option linter.unusedSimpArgs false

/-- A row of flows that the call has made. -/
def OV (w : World) (B : Nat) (v : Value) (l : List Fl) : Prop := w.ownsRow B 40 3 v l.length (fcs l)
theorem OV.later {w w' : World} {B : Nat} {v : Value} {l : List Fl} (h : OV w B v l) (b : Below w.heap.size w w') : OV w' B v l :=
  World.ownsRow.kept h (⟨b.os, b.tape, b.output, b.size, fun k hk _ => b.block k hk⟩ : w.grownBy w' none) (Classical.em _)
theorem OV.low {w : World} {B B' : Nat} {v : Value} {l : List Fl} (h : OV w B v l) (hb : B' ≤ B) : OV w B' v l := by
  refine ⟨h.1, ?_⟩
  rcases h.2 with q | ⟨g, cap, cur, e, hg, r⟩
  · exact .inl q
  · exact .inr ⟨g, cap, cur, e, Nat.le_trans hb hg, r⟩
theorem OV.set {w : World} {B : Nat} {v u : Value} {l : List Fl} {p : Addr} (h : OV w B v l) (hp : p.block < B) : OV (w.setCell p u) B v l := by
  refine ⟨h.1, ?_⟩
  rcases h.2 with q | ⟨g, cap, cur, e, hg, hh, r⟩
  · exact .inl q
  · refine .inr ⟨g, cap, cur, e, hg, ?_, r⟩
    have hne : ¬ p.block = g := by omega
    rw [← hh]
    simp [World.setCell, Array.getElem?_modify, hne]
theorem OV.sv {w : World} {B : Nat} {v : Value} {l : List Fl} (h : OV w B v l) (hl : l.length ≤ 4398046511000) : SV w v l := by
  obtain ⟨a, c, q, f⟩ := fl_of_own h hl
  refine ⟨a, c, q, f, ?_, ?_⟩
  · rcases h.2 with ⟨q', _⟩ | ⟨g, cap, cur, q', _⟩
    · rw [q'] at q; injection q with _ _ q; exact fun _ => q.symm
    · rw [q'] at q; injection q with q; exact fun r => by rw [r] at q; cases q
  · rcases h.2 with ⟨q', q''⟩ | ⟨g, cap, cur, q', _, _, hnc, _⟩
    · rw [q'']; exact Nat.zero_le _
    · rw [q'] at q; injection q with _ _ q; rw [← q]; exact hnc
/-- What mergePairs has made so far. -/
structure MG (w wr : World) (m i : Nat) (P : Nat → List Fl) : Prop where
  lt : w.heap.size < wr.heap.size
  bel : Below w.heap.size w wr
  room : ∀ j, j < m → (∃ u, wr.cell? ⟨w.heap.size, j, none⟩ = some u) ∧ wr.frozen? ⟨w.heap.size, j, none⟩ = false
  done : ∀ j, j < i → ∃ v, wr.cell? ⟨w.heap.size, j, none⟩ = some v ∧ OV wr (w.heap.size + 1) v (P j)
theorem MG.later {w wr wy : World} {m i : Nat} {P : Nat → List Fl} (h : MG w wr m i P) (b : Below wr.heap.size wr wy) : MG w wy m i P := by
  refine ⟨Nat.lt_of_lt_of_le h.lt b.size, h.bel.trans (b.mono h.bel.size), fun j hj => ?_, fun j hj => ?_⟩
  · obtain ⟨⟨u, h1⟩, h2⟩ := h.room j hj
    exact ⟨⟨u, (b.cell (p := ⟨w.heap.size, j, none⟩) h.lt).trans h1⟩, (b.frozen (p := ⟨w.heap.size, j, none⟩) h.lt).trans h2⟩
  · obtain ⟨v, h1, h2⟩ := h.done j hj
    exact ⟨v, (b.cell (p := ⟨w.heap.size, j, none⟩) h.lt).trans h1, h2.later b⟩
theorem MG.set {w wr : World} {m i : Nat} {P : Nat → List Fl} {v : Value} (h : MG w wr m i P) (hi : i < m) (hv : OV wr (w.heap.size + 1) v (P i)) : MG w (wr.setCell ⟨w.heap.size, i, none⟩ v) m (i + 1) P := by
  have hs : (wr.setCell ⟨w.heap.size, i, none⟩ v).heap.size = wr.heap.size := by simp
  refine ⟨by rw [hs]; exact h.lt, h.bel.setCell (p := ⟨w.heap.size, i, none⟩) (Nat.le_refl _) _, fun j hj => ?_, fun j hj => ?_⟩
  · obtain ⟨⟨u, h1⟩, h2⟩ := h.room j hj
    refine ⟨?_, by simpa using h2⟩
    by_cases e : j = i
    · subst e
      exact ⟨v, World.cell?_setCell_same' _ _ _ (by rw [h1]; rfl)⟩
    · exact ⟨u, (World.cell?_setCell_other _ _ _ _ (by simp [e])).trans h1⟩
  · by_cases e : j = i
    · subst e
      obtain ⟨⟨u, h1⟩, h2⟩ := h.room j hi
      exact ⟨v, World.cell?_setCell_same' _ _ _ (by rw [h1]; rfl), hv.set (Nat.lt_succ_self _)⟩
    · obtain ⟨v', h1, h2⟩ := h.done j (by omega)
      exact ⟨v', (World.cell?_setCell_other _ _ _ _ (by simp [e])).trans h1, h2.set (Nat.lt_succ_self _)⟩
/-- The rows of a list of lists are the call's own. -/
def LO (w : World) (B : Nat) (x : Option Addr) (n : Nat) (Ls : List (List Fl)) : Prop :=
  ∀ b o, x = some ⟨b, o, none⟩ → ∀ i, i < n → ∃ v, w.cell? ⟨b, o + i, none⟩ = some v ∧ OV w B v (Ls.getD i [])
theorem made_null (n j : Nat) (h : j < n) : (madeCells #[.slice none 0 0] n)[j]? = some (.slice none 0 0) := by
  simp [madeCells, h, Nat.mod_one]
theorem MG.start (w : World) (m : Nat) (P : Nat → List Fl) : MG w (w.alloc (.cells (madeCells #[.slice none 0 0] m) 24)) m 0 P := by
  refine ⟨by simp, (Below.refl _ _).alloc (Nat.le_refl _) _, fun j hj => ⟨⟨.slice none 0 0, ?_⟩, ?_⟩, fun j hj => by omega⟩
  · rw [World.cell?_alloc_new]
    · exact made_null m j hj
  · simp
theorem ro_made (w : World) (N : Nat) (hN : N ≤ 1048576) : RO (w.alloc (.cells (madeCells #[.int .i64 0, .string ⟨#[]⟩, .int .i64 0] (N * 3)) 40)) w.heap.size N [] :=
  ⟨rfl, .inr ⟨w.heap.size, N, _, rfl, Nat.le_refl _, heap_alloc_new w _, Nat.zero_le _, by unfold maxLen; omega, by rw [size_madeCells], by simp [fcs]⟩⟩
theorem grown_fc {w w' : World} {g b o : Nat} {f : Fl} (h : FC w b o f) (hg : w.grownBy w' (some g)) (hb : b < w.heap.size) (hne : b ≠ g) : FC w' b o f := by
  have e : w'.heap[b]? = w.heap[b]? := hg.block b hb (fun q => hne (Option.some.inj q))
  obtain ⟨c0, c1, c2⟩ := h
  refine ⟨?_, ?_, ?_⟩
  · rw [← c0]; unfold World.cell?; simp only [e]
  · rw [← c1]; unfold World.cell?; simp only [e]
  · rw [← c2]; unfold World.cell?; simp only [e]
theorem RO.bel {w w' : World} {g cap : Nat} {acc : List Fl} (h : RO w g cap acc) (b : Below w.heap.size w w') : RO w' g cap acc :=
  World.ownsRow.kept h (⟨b.os, b.tape, b.output, b.size, fun k hk _ => b.block k hk⟩ : w.grownBy w' none) (Classical.em _)
theorem SV.tail {w : World} {b o c : Nat} {x : Fl} {xs : List Fl} (h : SV w (.slice (some ⟨b, o, none⟩) (xs.length + 1) c) (x :: xs)) : SV w (.slice (if c = 1 then some ⟨b, o, none⟩ else some ⟨b, o + 3, none⟩) xs.length (c - 1)) xs := by
  obtain ⟨x', c', q, f, _, hl⟩ := h
  injection q with q1 q2 q3
  subst q1 q3
  by_cases h1 : c = 1
  · subst h1
    have e : xs = [] := by cases xs with
      | nil => rfl
      | cons _ _ => simp at hl
    subst e
    exact ⟨_, _, rfl, ⟨rfl, by simp, .inl rfl⟩, fun q => (by simp at q), by simp⟩
  · have := fl_drop f 1 (by simp)
    simp only [Nat.one_mul, List.drop_succ_cons, List.drop_zero] at this
    rw [if_neg h1]
    refine ⟨_, _, rfl, ?_, fun q => (by cases q), by simp at hl; omega⟩
    simpa using this
theorem SV.head {w : World} {v : Value} {x : Fl} {xs : List Fl} (h : SV w v (x :: xs)) : ∃ b o c, v = .slice (some ⟨b, o, none⟩) (xs.length + 1) c ∧ b < w.heap.size ∧ FC w b o x ∧ xs.length + 1 ≤ c := by
  obtain ⟨x', c', rfl, f, _, hl⟩ := h
  rcases f.2.2 with q | ⟨b, o, rfl, hb, hc⟩
  · simp at q
  · have := hc 0 (by simp)
    refine ⟨b, o, c', rfl, hb, ?_, by simpa using hl⟩
    simpa using this
theorem SV.nil {w : World} {v : Value} (h : SV w v []) : ∃ x c, v = .slice x 0 c := by
  obtain ⟨x, c, rfl, _⟩ := h
  exact ⟨x, c, rfl⟩
theorem SV.drop {w : World} {b o n c : Nat} {fs : List Fl} (h : SV w (.slice (some ⟨b, o, none⟩) n c) fs) (hn : fs.length = n) (k : Nat) (hk : k < n) : ¬ c = k ∧ SV w (.slice (some ⟨b, o + k * 3, none⟩) (n - k) (c - k)) (fs.drop k) := by
  obtain ⟨x', c', q, f, _, hl⟩ := h
  injection q with q1 q2 q3
  subst q1 q3
  subst hn
  have := fl_drop f k (by omega)
  refine ⟨by omega, _, _, by rw [List.length_drop], by rw [List.length_drop]; exact this, fun q => (by cases q), by rw [List.length_drop]; omega⟩
theorem OV_low {w : World} {B B' n : Nat} {v : Value} {xs : List Value} (h : w.ownsRow B 40 3 v n xs) (hb : B' ≤ B) : w.ownsRow B' 40 3 v n xs := by
  refine ⟨h.1, ?_⟩
  rcases h.2 with q | ⟨g, cap, cur, e, hg, r⟩
  · exact .inl q
  · exact .inr ⟨g, cap, cur, e, Nat.le_trans hb hg, r⟩
def lenV : Value → Nat
  | .slice _ n _ => n
  | _ => 0
set_option maxRecDepth 100000 in
set_option maxHeartbeats 4000000 in
theorem pairs_own (a : Option Addr) (n cap : Nat) (Ls : List (List Fl)) (w : World) (h : LL w a n Ls) (ht : ltot Ls ≤ 1048576) :
    Calls Try.prog 36 #[.slice a n cap] w fun e w' => ∃ x c, e = .returned (.slice x ((n + 1) / 2) c) ∧ Below w.heap.size w w' ∧ LL w' x ((n + 1) / 2) (mpairs Ls) ∧ LO w' w.heap.size x ((n + 1) / 2) (mpairs Ls) := by
  have hn : n ≤ 1048576 := h.2.1
  have HM := Lib.hid (p := (mpairs Ls).length = (n + 1) / 2) (by rw [mpairs_len, h.1])
  have PA := Lib.hid (p := ∀ i, i < (n + 1) / 2 → (mpairs Ls).getD i [] = mrg (Ls.getD (2 * i) []) (Ls.getD (2 * i + 1) [])) (fun i hi => mpairs_at Ls i (by rw [h.1]; exact hi))
  have LP := Lib.hid (ltot_pair Ls)
  have PL := Lib.hid (p := ∀ j, ((mpairs Ls).getD j []).length ≤ 1048576) (fun j => by have := ltot_two (mpairs Ls) j; rw [mpairs_tot] at this; omega)
  have LO := Lib.hid (p := ∀ i, n ≤ i → Ls.getD i [] = []) (fun i hi => by rw [List.getD_eq_getElem?_getD, List.getElem?_eq_none (by rw [h.1]; exact hi)]; rfl)
  obtain ⟨m, hm⟩ : ∃ m, (n + 1) / 2 = m := ⟨_, rfl⟩
  rw [hm] at HM PA ⊢
  have mk := make_lists m (by omega)
  have hq : IntKind.i64.wrap ((n : Int) + 1) = (n : Int) + 1 := by simp [IntKind.wrap, IntKind.bits, IntKind.signed]; omega
  have hq2 : ((n : Int) + 1).tdiv 2 = (m : Int) := by rw [Int.tdiv_eq_ediv_of_nonneg (by omega)]; omega
  have hq3 : IntKind.i64.wrap (m : Int) = (m : Int) := by simp [IntKind.wrap, IntKind.bits, IntKind.signed]; omega
  have H := Lib.hid h
  clear h
  go_enter Try.func36, Try.ntmps36
  go_wp2
  go_step3
  go_wp2
  go_step3
  go_wp2
  go_loopw [17] (fun t wr => ∃ i : Nat, i ≤ m ∧ t = .int .i64 (i : Int) ∧ MG w wr m i (fun j => (mpairs Ls).getD j [])) (fun t _ => m - (intOf t).toNat)
  case atStart => exact ⟨0, by omega, rfl, MG.start w m _⟩
  case round =>
    obtain ⟨i, hi, rfl, hG⟩ := hrel
    rename World => wr
    have GG := Lib.hid hG
    by_cases him : i < m
    · obtain ⟨b, o, rfl, hb, hc⟩ := H.out.row (by omega)
      have PI := Lib.hid (PA.out i him)
      have LI := LP.out i
      obtain ⟨v1, q1, f1⟩ := hc (2 * i) (by omega)
      have q1 := (hG.bel.cell (p := ⟨b, o + 2 * i, none⟩) hb).trans q1
      have VF := Lib.hid (f1.later hG.bel)
      have ki : (i : Int) < (m : Int) := by omega
      have kw1 : IntKind.i64.wrap (2 * (i : Int)) = 2 * (i : Int) := by simp [IntKind.wrap, IntKind.bits, IntKind.signed]; omega
      have kw2 : IntKind.i64.wrap (2 * (i : Int) + 1) = 2 * (i : Int) + 1 := by simp [IntKind.wrap, IntKind.bits, IntKind.signed]; omega
      have kn1 : 2 * (i : Int) < (n : Int) := by omega
      have kz1 : (0 : Int) ≤ 2 * (i : Int) := by omega
      have kt1 : (2 * (i : Int)).toNat = 2 * i := by omega
      clear f1 hG
      by_cases h2 : 2 * i + 1 < n
      · obtain ⟨v2, q2, f2⟩ := hc (2 * i + 1) (by omega)
        have q2 := (GG.out.bel.cell (p := ⟨b, o + (2 * i + 1), none⟩) hb).trans q2
        have f2 := f2.later GG.out.bel
        have kn2 : 2 * (i : Int) + 1 < (n : Int) := by omega
        have kz2 : (0 : Int) ≤ 2 * (i : Int) + 1 := by omega
        have kt2 : (2 * (i : Int) + 1).toNat = 2 * i + 1 := by omega
        clear hc
        generalize Ls.getD (2 * i) [] = F1 at *
        generalize Ls.getD (2 * i + 1) [] = S2 at *
        obtain ⟨xF, cF, rfl, _⟩ := VF.out
        obtain ⟨n1, hn1⟩ : ∃ n1, F1.length = n1 := ⟨_, rfl⟩
        rw [hn1] at LI q1 VF
        cases S2 with
        | nil =>
          obtain ⟨x2, c2, rfl⟩ := f2.nil
          simp only [List.length_nil, Nat.add_zero] at LI
          have PI2 := Lib.hid (p := (mpairs Ls).getD i [] = F1) (by rw [PI.out, mrg_r])
          have mk2 := make_run n1 (by omega)
          have ks : IntKind.i64.wrap (n1 : Int) = (n1 : Int) := by simp [IntKind.wrap, IntKind.bits, IntKind.signed]; omega
          have W0B := Lib.hid (p := Below wr.heap.size wr (wr.alloc (.cells (madeCells #[.int .i64 0, .string ⟨#[]⟩, .int .i64 0] (n1 * 3)) 40))) ((Below.refl _ _).alloc (Nat.le_refl _) _)
          have R0 := Lib.hid (ro_made wr n1 (by omega))
          have TL := Lib.hid (p := ([] ++ F1).length = n1) hn1
          have TL2 := Lib.hid hn1
          have kwi : IntKind.i64.wrap ((i : Int) + 1) = (i : Int) + 1 := by simp [IntKind.wrap, IntKind.bits, IntKind.signed]; omega
          clear hn1
          go_wp2
          generalize wr.alloc (.cells (madeCells #[.int .i64 0, .string ⟨#[]⟩, .int .i64 0] (n1 * 3)) 40) = W0 at *
          go_loopw [5, 7, 45] (fun f v t wy => f = .slice xF n1 cF ∧ v = .slice (some ⟨wr.heap.size, 0, none⟩) 0 n1 ∧ t = .int .i64 0 ∧ RO wy wr.heap.size n1 [] ∧ Below wr.heap.size wr wy) (fun _ _ _ _ => 0)
          case atStart => exact ⟨rfl, rfl, rfl, R0.out, W0B.out⟩
          case round =>
            obtain ⟨rfl, rfl, rfl, hR, hB⟩ := hrel
            rename World => wy
            have BY := Lib.hid hB
            have RY := Lib.hid hR
            have FZ := Lib.hid (VF.out.later hB)
            clear hR hB
            go_wp2_with (at_builtin; refine wpl_spare _ rfl _ _ rfl wr.heap.size n1 [] F1 _ rfl rfl FZ.out RY.out (by rw [TL2.out]; simp) ?_; rw [TL.out]; intro w6 ho hg; have O6 := Lib.hid ho; have B6 := Lib.hid (BY.out.grown hg BY.out.size (fun k e => by injection e with e; omega)); obtain ⟨⟨mu, m1⟩, m2⟩ := (GG.out.later B6.out).room i him; have M6 := Lib.hid ((GG.out.later B6.out).set him (v := .slice (some ⟨wr.heap.size, 0, none⟩) n1 n1) (by show OV w6 _ _ ((mpairs Ls).getD i []); rw [PI2.out]; have q := ho; unfold RO at q; rw [TL.out] at q; unfold OV; rw [TL2.out]; exact OV_low q GG.out.lt)); clear ho hg)
            go_roundw
            case rel => exact ⟨i + 1, by omega, by simp, M6.out⟩
            case measure => simp [intOf]; omega
        | cons y0 ys0 =>
        obtain ⟨bs, os, cS, rfl, hbs, _, _⟩ := f2.head
        have HS2 := Lib.hid (p := (y0 :: ys0).length = ys0.length + 1) rfl
        have HC2 := Lib.hid (p := ∀ k, k < ys0.length + 1 → FC wr bs (os + k * 3) ((y0 :: ys0).getD k default)) (fun k hk => by
          obtain ⟨x', c', q, f, _⟩ := f2
          injection q with q1 q2 q3
          subst q1
          rcases f.2.2 with q | ⟨b', o', q, _, hc⟩
          · simp at q
          · injection q with q
            injection q with qa qb
            subst qa qb
            exact hc k (by simpa using hk))
        have VS := Lib.hid f2
        clear f2
        generalize ys0.length + 1 = n2 at *
        generalize y0 :: ys0 = S2 at *
        have LI : n1 + n2 ≤ ltot Ls := by rw [← HS2.out]; exact LI
        obtain ⟨N, hN⟩ : ∃ N, n1 + n2 = N := ⟨_, rfl⟩
        have mk2 := make_run N (by omega)
        have ks : IntKind.i64.wrap ((n1 : Int) + (n2 : Int)) = (N : Int) := by simp [IntKind.wrap, IntKind.bits, IntKind.signed]; omega
        obtain ⟨TT, hTT⟩ : ∃ TT, mrg F1 S2 = TT := ⟨_, rfl⟩
        have ET := Lib.hid hTT
        have TL := Lib.hid (p := TT.length = N) (by rw [← hTT, mrg_len, hn1, HS2.out, hN])
        rw [hTT] at PI
        have W0B := Lib.hid (p := Below wr.heap.size wr (wr.alloc (.cells (madeCells #[.int .i64 0, .string ⟨#[]⟩, .int .i64 0] (N * 3)) 40))) ((Below.refl _ _).alloc (Nat.le_refl _) _)
        have R0 := Lib.hid (ro_made wr N (by omega))
        have Z0 := Lib.hid (p := wr.heap.size < (wr.alloc (.cells (madeCells #[.int .i64 0, .string ⟨#[]⟩, .int .i64 0] (N * 3)) 40)).heap.size) (by simp)
        clear hTT hn1
        go_wp2
        generalize wr.alloc (.cells (madeCells #[.int .i64 0, .string ⟨#[]⟩, .int .i64 0] (N * 3)) 40) = W0 at *
        go_loopw [5, 7, 45] (fun f v t wy => ∃ (k : Nat) (xs acc : List Fl), k ≤ n2 ∧ t = .int .i64 (k : Int) ∧ v = .slice (some ⟨wr.heap.size, 0, none⟩) acc.length N ∧ SV wr f xs ∧ RO wy wr.heap.size N acc ∧ Below wr.heap.size wr wy ∧ wr.heap.size < wy.heap.size ∧ acc ++ mrg xs (S2.drop k) = TT) (fun _ _ t _ => n2 - (intOf t).toNat)
        case atStart => exact ⟨0, F1, [], by omega, rfl, rfl, VF.out, R0.out, W0B.out, Z0.out, by simpa using ET.out⟩
        case round =>
          obtain ⟨k, xs0, acc0, hk, rfl, rfl, hf, hR, hB, hZ, hT⟩ := hrel
          rename World => wy
          have BY := Lib.hid hB
          have RY := Lib.hid hR
          have FY := Lib.hid hf
          have al : acc0.length + xs0.length + (n2 - k) = N := by
            have := congrArg List.length hT
            rw [List.length_append, mrg_len, List.length_drop, HS2.out, TL.out] at this
            omega
          by_cases hlt : k < n2
          · have HT := Lib.hid hT
            obtain ⟨c0, c1, c2⟩ := (HC2.out k hlt).later hB hbs
            have DK := Lib.hid (p := S2.drop k = S2.getD k default :: S2.drop (k + 1)) (by
              have hl : k < S2.length := by rw [HS2.out]; exact hlt
              rw [List.drop_eq_getElem_cons hl]
              congr 1
              simp [List.getD, hl])
            have SK := Lib.hid (VS.out.drop HS2.out k hlt).2
            have ck : ¬ cS = k := (VS.out.drop HS2.out k hlt).1
            rw [DK.out] at HT
            generalize S2.getD k default = y at *
            obtain ⟨yd, yc, ya⟩ := y
            simp only at c0 c1 c2
            have kk : (k : Int) < (n2 : Int) := by omega
            have kz : (0 : Int) ≤ (k : Int) := by omega
            have YB := Lib.hid (p := FC (wy.alloc (.cells #[.int .i64 yd, .string yc, .int .i64 ya] 40)) wy.heap.size 0 ⟨yd, yc, ya⟩) (by refine ⟨?_, ?_, ?_⟩ <;> simp)
            have YZ := Lib.hid (p := wy.heap.size < (wy.alloc (.cells #[.int .i64 yd, .string yc, .int .i64 ya] 40)).heap.size) (by simp)
            have B1 := Lib.hid (p := Below wr.heap.size wr (wy.alloc (.cells #[.int .i64 yd, .string yc, .int .i64 ya] 40))) (hB.alloc hB.size _)
            have R1 := Lib.hid (p := RO (wy.alloc (.cells #[.int .i64 yd, .string yc, .int .i64 ya] 40)) wr.heap.size N acc0) (hR.alloc _)
            clear hf hR hB hT
            go_wp2
            generalize wy.alloc (.cells #[.int .i64 yd, .string yc, .int .i64 ya] 40) = W1 at *
            go_loopw [5, 7] (fun f v wz => ∃ (xs acc : List Fl), v = .slice (some ⟨wr.heap.size, 0, none⟩) acc.length N ∧ SV wr f xs ∧ RO wz wr.heap.size N acc ∧ Below wr.heap.size wr wz ∧ wy.heap.size < wz.heap.size ∧ FC wz wy.heap.size 0 ⟨yd, yc, ya⟩ ∧ acc ++ mrg xs (⟨yd, yc, ya⟩ :: S2.drop (k + 1)) = TT) (fun f _ _ => lenV f)
            case atStart => exact ⟨xs0, acc0, rfl, FY.out, R1.out, B1.out, YZ.out, YB.out, HT.out⟩
            case round =>
              clear HT al FY RY R1 B1 YB YZ
              obtain ⟨xs, acc, rfl, hf, hR, hB, hZ1, hY, hT⟩ := hrel
              rename World => wz
              have al : acc.length + xs.length + (n2 - k) = N := by
                have := congrArg List.length hT
                rw [List.length_append, mrg_len, List.length_cons, List.length_drop, HS2.out, TL.out] at this
                omega
              have HT := Lib.hid hT
              have BZ := Lib.hid hB
              have RZ := Lib.hid hR
              have YY := Lib.hid hY
              obtain ⟨b0, b1, b2⟩ := hY
              simp only [Nat.zero_add] at b0 b1 b2
              cases xs with
              | nil =>
                obtain ⟨xf, cf, rfl⟩ := hf.nil
                have E3 := Lib.hid (p := acc ++ S2.drop k = TT) (by rw [← HT.out, mrg_l, DK.out])
                have DL := Lib.hid (p := (S2.drop k).length = n2 - k) (by rw [List.length_drop, HS2.out])
                have kwi : IntKind.i64.wrap ((i : Int) + 1) = (i : Int) + 1 := by simp [IntKind.wrap, IntKind.bits, IntKind.signed]; omega
                have kc2 : (k : Int) ≤ (n2 : Int) := by omega
                clear hf hR hB hT
                go_wp2
                go_quiet (fail)
                obtain ⟨W5, hW5⟩ : ∃ W5, wz.drewN nq = W5 := ⟨_, rfl⟩
                have Q5 : Below wz.heap.size wz W5 := by rw [← hW5]; exact ⟨rfl, rfl, rfl, Nat.le_refl _, fun _ _ => rfl⟩
                have RD := Lib.hid (p := RO W5 wr.heap.size N acc) (RZ.out.bel Q5)
                have BD := Lib.hid (p := Below wr.heap.size wr W5) (BZ.out.trans (Q5.mono BZ.out.size))
                have SK5 := Lib.hid (SK.out.later BD.out)
                rw [hW5]
                clear hW5 Q5 b0 b1 b2
                go_wp2_with (at_builtin; refine wpl_spare _ rfl _ _ rfl wr.heap.size N acc (S2.drop k) _ rfl rfl SK5.out RD.out (by rw [DL.out]; simp only [List.length_nil] at al; omega) ?_; rw [E3.out, TL.out]; intro w6 ho hg; have O6 := Lib.hid ho; have B6 := Lib.hid (BD.out.grown hg BD.out.size (fun k e => by injection e with e; omega)); obtain ⟨⟨mu, m1⟩, m2⟩ := (GG.out.later B6.out).room i him; have M6 := Lib.hid ((GG.out.later B6.out).set him (v := .slice (some ⟨wr.heap.size, 0, none⟩) N N) (by show OV w6 _ _ ((mpairs Ls).getD i []); rw [PI.out]; have q := ho; unfold RO at q; rw [TL.out] at q; unfold OV; rw [TL.out]; exact OV_low q GG.out.lt)); clear ho hg)
                go_roundw
                case rel => exact ⟨i + 1, by omega, by simp, M6.out⟩
                case measure => simp [intOf]; omega
              | cons x xs =>
                obtain ⟨bf, of, cf, rfl, hbf, hX, hcf⟩ := hf.head
                have FT := Lib.hid hf.tail
                have FX := Lib.hid hf
                have XC := Lib.hid hX
                obtain ⟨c0, c1, c2⟩ := hX.later hB hbf
                obtain ⟨xd, xc, xa⟩ := x
                simp only at c0 c1 c2
                have kl : (0 : Int) < ((xs.length + 1 : Nat) : Int) := by omega
                have kl2 : (1 : Int) ≤ (xs.length : Int) + 1 := by omega
                clear hf hX hR hB hT
                by_cases hd : xd ≤ yd
                · have HN := Lib.hid (p := (acc ++ [Fl.mk xd xc xa]) ++ mrg xs (⟨yd, yc, ya⟩ :: S2.drop (k + 1)) = TT) (by rw [← HT.out, mrg_le hd]; simp)
                  go_wp2
                  go_quiet (fail)
                  obtain ⟨W5, hW5⟩ : ∃ W5, wz.drewN nq = W5 := ⟨_, rfl⟩
                  have Q5 : Below wz.heap.size wz W5 := by rw [← hW5]; exact ⟨rfl, rfl, rfl, Nat.le_refl _, fun _ _ => rfl⟩
                  have RD := Lib.hid (p := RO W5.drew wr.heap.size N acc) (RZ.out.bel Q5.drew)
                  have BD := Lib.hid (p := Below wr.heap.size wr W5.drew) (BZ.out.trans (Q5.drew.mono BZ.out.size))
                  have YA := Lib.hid (p := FC (W5.drew.alloc (.cells #[.int .i64 xd, .string xc, .int .i64 xa] 40)) wy.heap.size 0 ⟨yd, yc, ya⟩) ((YY.out.later Q5.drew hZ1).later ((Below.refl _ _).alloc (Nat.le_refl _) _) (Nat.lt_of_lt_of_le hZ1 Q5.size))
                  have d0 : W5.cell? ⟨bf, of, none⟩ = some (.int .i64 xd) := by rw [← hW5]; exact c0
                  have d1 : W5.cell? ⟨bf, of + 1, none⟩ = some (.string xc) := by rw [← hW5]; exact c1
                  have d2 : W5.cell? ⟨bf, of + 2, none⟩ = some (.int .i64 xa) := by rw [← hW5]; exact c2
                  have s5 : wz.heap.size ≤ W5.heap.size := Q5.size
                  have hbW : bf < W5.drew.heap.size := Nat.lt_of_lt_of_le hbf BD.out.size
                  have a0 : (W5.drew.alloc (.cells #[.int .i64 xd, .string xc, .int .i64 xa] 40)).cell? ⟨bf, of, none⟩ = some (.int .i64 xd) := (World.cell?_alloc_lt _ _ _ hbW).trans d0
                  have a1 : (W5.drew.alloc (.cells #[.int .i64 xd, .string xc, .int .i64 xa] 40)).cell? ⟨bf, of + 1, none⟩ = some (.string xc) := (World.cell?_alloc_lt _ _ _ hbW).trans d1
                  have a2 : (W5.drew.alloc (.cells #[.int .i64 xd, .string xc, .int .i64 xa] 40)).cell? ⟨bf, of + 2, none⟩ = some (.int .i64 xa) := (World.cell?_alloc_lt _ _ _ hbW).trans d2
                  rw [hW5]
                  clear hW5 Q5 c0 c1 c2 b0 b1 b2
                  go_wp2
                  refine wp_region_held_drew (S := (fun w' => w'.cell? ⟨bf, of, none⟩ = some (.int .i64 xd) ∧ w'.cell? ⟨bf, of + 1, none⟩ = some (.string xc) ∧ w'.cell? ⟨bf, of + 2, none⟩ = some (.int .i64 xa))) (by kernel_rfl) ?_ (fun hHeld => ?_)
                  · (try dsimp only)
                    (refine ⟨?_, ?_, ?_⟩ <;> first | assumption | (simp [World.cell?_alloc_old, *]; done) | (go_simp; done))
                  refine wpAnyH_take (i := 0) (oi := { dst := some 62, op := Op.move (Operand.tmp 7), type := 24, pos := "merge.go:40", after := #[], guard := none }) (v := ?_) rfl (by kernel_rfl) (by kernel_rfl) (by kernel_rfl) (fun _ _ _ h => h) (Or.inl ⟨by rfl, ?_⟩) (by assumption) ?_
                  rotate_left 1
                  · intro w' hSw; (try dsimp only at hSw); go_simp; try with_reducible rfl
                  (try simp only [Act.put, List.setIfInBounds_toArray, List.set_cons_zero, List.set_cons_succ])
                  refine wpAnyH_take (i := 1) (oi := { dst := some 63, op := Op.move (Operand.tmp 5), type := 24, pos := "merge.go:40", after := #[], guard := none }) (v := ?_) rfl (by kernel_rfl) (by kernel_rfl) (by kernel_rfl) (fun _ _ _ h => h) (Or.inl ⟨by rfl, ?_⟩) (by assumption) ?_
                  rotate_left 1
                  · intro w' hSw; (try dsimp only at hSw); go_simp; try with_reducible rfl
                  (try simp only [Act.put, List.setIfInBounds_toArray, List.set_cons_zero, List.set_cons_succ])
                  refine wpAnyH_take (i := 6) (oi := { dst := some 68, op := Op.move (Operand.tmp 5), type := 24, pos := "merge.go:40", after := #[], guard := none }) (v := ?_) rfl (by kernel_rfl) (by kernel_rfl) (by kernel_rfl) (fun _ _ _ h => h) (Or.inl ⟨by rfl, ?_⟩) (by assumption) ?_
                  rotate_left 1
                  · intro w' hSw; (try dsimp only at hSw); go_simp; try with_reducible rfl
                  (try simp only [Act.put, List.setIfInBounds_toArray, List.set_cons_zero, List.set_cons_succ])
                  refine wpAnyH_take (i := 2) (oi := { dst := some 64, op := Op.indexAddr 24 (Operand.tmp 63) (Operand.const (Value.int IntKind.i64 0)), type := 0, pos := "merge.go:40", after := #[{ on := 1, ground := Ground.data }], guard := none }) (v := ?_) rfl (by kernel_rfl) (by kernel_rfl) (by kernel_rfl) (fun _ _ _ h => h) (Or.inl ⟨by rfl, ?_⟩) (by assumption) ?_
                  rotate_left 1
                  · intro w' hSw; (try dsimp only at hSw); go_simp; try with_reducible rfl
                  (try simp only [Act.put, List.setIfInBounds_toArray, List.set_cons_zero, List.set_cons_succ])
                  refine wpAnyH_take (i := 3) (oi := { dst := some 65, op := Op.load 40 (Operand.tmp 64), type := 40, pos := "merge.go:40", after := #[{ on := 2, ground := Ground.data }], guard := none }) (v := ?_) rfl (by kernel_rfl) (by kernel_rfl) (by kernel_rfl) (fun _ _ _ h => h) (Or.inl ⟨by rfl, ?_⟩) (by assumption) ?_
                  rotate_left 1
                  · intro w' hSw; (try dsimp only at hSw); go_simp; try with_reducible rfl
                  (try simp only [Act.put, List.setIfInBounds_toArray, List.set_cons_zero, List.set_cons_succ])
                  refine wpAnyH_take (i := 7) (oi := { dst := some 69, op := Op.slice 24 (Operand.tmp 68) (some (Operand.const (Value.int IntKind.i64 1))) none none, type := 24, pos := "merge.go:40", after := #[{ on := 6, ground := Ground.data }], guard := none }) (v := ?_) rfl (by kernel_rfl) (by kernel_rfl) (by kernel_rfl) (fun _ _ _ h => h) (Or.inl ⟨by rfl, ?_⟩) (by assumption) ?_
                  rotate_left 1
                  · intro w' hSw; (try dsimp only at hSw); go_simp; try with_reducible rfl
                  (try simp only [Act.put, List.setIfInBounds_toArray, List.set_cons_zero, List.set_cons_succ])
                  refine wpAnyH_ready (rs := [4]) (by kernel_rfl) (by simp) ?_
                  refine AllReadyH.cons (o := { dst := some 66, op := Op.buildSlice 24 1 #[(0, Operand.tmp 65)], type := 24, pos := "merge.go:40", after := #[{ on := 3, ground := Ground.data }], guard := none }) rfl (fun K hK => ?_) AllReadyH.nil
                  go_simp
                  refine hK.out _ _ ?_ (fun hHeld => ?_)
                  · (try dsimp only)
                    (refine ⟨?_, ?_, ?_⟩ <;> first | assumption | (simp [World.cell?_alloc_old, *]; done) | (go_simp; done))
                  clear hK K
                  (try simp only [Act.put, List.setIfInBounds_toArray, List.set_cons_zero, List.set_cons_succ])
                  refine wpAnyH_ready (rs := [5]) (by kernel_rfl) (by simp) ?_
                  refine AllReadyH.cons (o := { dst := some 67, op := Op.call { callee := Callee.builtin Builtin.append, args := #[Operand.tmp 62, Operand.tmp 66], argTypes := #[24, 24] }, type := 24, pos := "merge.go:40", after := #[{ on := 0, ground := Ground.data }, { on := 4, ground := Ground.data }], guard := none }) rfl (fun K hK => ?_) AllReadyH.nil
                  rw [if_pos (by rfl)]
                  refine wp_spare _ _ _ rfl wr.heap.size N acc [Fl.mk xd xc xa] _ rfl rfl (sv_one _ (Fl.mk xd xc xa)) (RD.out.alloc _) (by simp only [List.length_cons] at al; simp; omega) ?_
                  intro w6 ho hg
                  have O6 := Lib.hid ho
                  have B6 := Lib.hid ((BD.out.alloc BD.out.size _).grown hg (Nat.le_trans BD.out.size (by simp)) (fun k e => by injection e with e; omega))
                  have Y6 := Lib.hid (grown_fc YA.out hg (by simp; omega) (by omega))
                  have z6 : W5.heap.size < w6.heap.size := Nat.lt_of_lt_of_le (by simp) hg.size
                  obtain ⟨v0, v1, v2⟩ := (XC.out.later B6.out hbf)
                  simp only at v0 v1 v2
                  clear ho hg
                  refine hK.out _ _ ?_ (fun hHeld => ?_)
                  · (try dsimp only)
                    (refine ⟨?_, ?_, ?_⟩ <;> first | assumption | (simp [World.cell?_alloc_old, *]; done) | (go_simp; done))
                  clear hK K
                  (try simp only [Act.put, List.setIfInBounds_toArray, List.set_cons_zero, List.set_cons_succ])
                  refine wpAnyH_take (i := 8) (oi := { dst := some 7, op := Op.assign (Operand.tmp 67), type := 24, pos := "merge.go:40", after := #[{ on := 5, ground := Ground.data }, { on := 5, ground := Ground.chain }, { on := 0, ground := Ground.phase }, { on := 1, ground := Ground.phase }, { on := 2, ground := Ground.phase }, { on := 3, ground := Ground.phase }, { on := 4, ground := Ground.phase }, { on := 5, ground := Ground.phase }, { on := 6, ground := Ground.textOnly Departure.lateStores }, { on := 7, ground := Ground.textOnly Departure.lateStoresUnsure }], guard := none }) (v := ?_) rfl (by kernel_rfl) (by kernel_rfl) (by kernel_rfl) (fun _ _ _ h => h) (Or.inl ⟨by rfl, ?_⟩) (by assumption) ?_
                  rotate_left 1
                  · intro w' hSw; (try dsimp only at hSw); go_simp; try with_reducible rfl
                  (try simp only [Act.put, List.setIfInBounds_toArray, List.set_cons_zero, List.set_cons_succ])
                  refine wpAnyH_take (i := 9) (oi := { dst := some 5, op := Op.assign (Operand.tmp 69), type := 24, pos := "merge.go:40", after := #[{ on := 7, ground := Ground.data }, { on := 8, ground := Ground.chain }, { on := 0, ground := Ground.phase }, { on := 1, ground := Ground.phase }, { on := 2, ground := Ground.phase }, { on := 3, ground := Ground.phase }, { on := 4, ground := Ground.phase }, { on := 5, ground := Ground.phase }, { on := 6, ground := Ground.phase }, { on := 7, ground := Ground.phase }, { on := 8, ground := Ground.phase }], guard := none }) (v := ?_) rfl (by kernel_rfl) (by kernel_rfl) (by kernel_rfl) (fun _ _ _ h => h) (Or.inl ⟨by rfl, ?_⟩) (by assumption) ?_
                  rotate_left 1
                  · intro w' hSw; (try dsimp only at hSw); go_simp; try with_reducible rfl
                  (try simp only [Act.put, List.setIfInBounds_toArray, List.set_cons_zero, List.set_cons_succ])
                  refine wpAnyH_done (by kernel_rfl) ?_ _
                  go_wp2
                  go_roundw
                  case rel => exact ⟨xs, acc ++ [Fl.mk xd xc xa], by simp, FT.out, O6.out, B6.out, by omega, Y6.out, HN.out⟩
                  case measure => simp [lenV]
                · have HN := Lib.hid (p := (acc ++ [Fl.mk yd yc ya]) ++ mrg (⟨xd, xc, xa⟩ :: xs) (S2.drop (k + 1)) = TT) (by rw [← HT.out, mrg_gt hd]; simp)
                  have kl3 : ¬ ((xs.length : Int) + 1 = 0) := by omega
                  have kl4 : ((xs.length : Int) + 1 == 0) = false := by rw [beq_eq_false_iff_ne]; exact kl3
                  have kw9 : IntKind.i64.wrap ((k : Int) + 1) = (k : Int) + 1 := by simp [IntKind.wrap, IntKind.bits, IntKind.signed]; omega
                  go_wp2
                  go_quiet (fail)
                  obtain ⟨W5, hW5⟩ : ∃ W5, wz.drewN nq = W5 := ⟨_, rfl⟩
                  have Q5 : Below wz.heap.size wz W5 := by rw [← hW5]; exact ⟨rfl, rfl, rfl, Nat.le_refl _, fun _ _ => rfl⟩
                  have RD := Lib.hid (p := RO W5 wr.heap.size N acc) (RZ.out.bel Q5)
                  have BD := Lib.hid (p := Below wr.heap.size wr W5) (BZ.out.trans (Q5.mono BZ.out.size))
                  have d0 : W5.cell? ⟨wy.heap.size, 0, none⟩ = some (.int .i64 yd) := by rw [← hW5]; exact b0
                  have d1 : W5.cell? ⟨wy.heap.size, 1, none⟩ = some (.string yc) := by rw [← hW5]; exact b1
                  have d2 : W5.cell? ⟨wy.heap.size, 2, none⟩ = some (.int .i64 ya) := by rw [← hW5]; exact b2
                  have s5 : wz.heap.size ≤ W5.heap.size := Q5.size
                  rw [hW5]
                  clear hW5 Q5 c0 c1 c2 b0 b1 b2
                  go_wp2_with (at_builtin; refine wpl_spare _ rfl _ _ rfl wr.heap.size N acc [Fl.mk yd yc ya] _ rfl rfl (sv_one _ (Fl.mk yd yc ya)) (RD.out.alloc _) (by simp only [List.length_cons] at al; simp; omega) ?_; intro w6 ho hg; have O6 := Lib.hid ho; have B6 := Lib.hid ((BD.out.alloc BD.out.size _).grown hg (Nat.le_trans BD.out.size (by simp)) (fun k e => by injection e with e; omega)); have z6 : W5.heap.size < w6.heap.size := Nat.lt_of_lt_of_le (by simp) hg.size; clear ho hg)
                  go_roundw
                  case rel => exact ⟨k + 1, Fl.mk xd xc xa :: xs, acc ++ [Fl.mk yd yc ya], by omega, by simp, by simp, FX.out, O6.out, B6.out, by omega, HN.out⟩
                  case measure => simp [intOf]; omega
          · obtain rfl : k = n2 := by omega
            have E3 := Lib.hid (p := acc0 ++ xs0 = TT) (by rw [← hT, List.drop_of_length_le (by rw [HS2.out]; exact Nat.le_refl _), mrg_r])
            have FZ := Lib.hid (FY.out.later hB)
            have kk : ¬ (k : Int) < (k : Int) := by omega
            have kwi : IntKind.i64.wrap ((i : Int) + 1) = (i : Int) + 1 := by simp [IntKind.wrap, IntKind.bits, IntKind.signed]; omega
            obtain ⟨xf, cf, rfl, _⟩ := hf
            clear hR hB hT
            go_wp2_with (at_builtin; refine wpl_spare _ rfl _ _ rfl wr.heap.size N acc0 xs0 _ rfl rfl FZ.out RY.out (by omega) ?_; rw [E3.out, TL.out]; intro w6 ho hg; have O6 := Lib.hid ho; have B6 := Lib.hid (BY.out.grown hg BY.out.size (fun k e => by injection e with e; omega)); obtain ⟨⟨mu, m1⟩, m2⟩ := (GG.out.later B6.out).room i him; have M6 := Lib.hid ((GG.out.later B6.out).set him (v := .slice (some ⟨wr.heap.size, 0, none⟩) N N) (by show OV w6 _ _ ((mpairs Ls).getD i []); rw [PI.out]; have q := ho; unfold RO at q; rw [TL.out] at q; unfold OV; rw [TL.out]; exact OV_low q GG.out.lt)); clear ho hg)
            go_roundw
            case rel => exact ⟨i + 1, by omega, by simp, M6.out⟩
            case measure => simp [intOf]; omega
      · have PI := Lib.hid (p := (mpairs Ls).getD i [] = mrg (Ls.getD (2 * i) []) []) (by rw [PI.out, LO.out (2 * i + 1) (by omega)])
        rw [LO.out (2 * i + 1) (by omega)] at LI
        have kn2 : ¬ 2 * (i : Int) + 1 < (n : Int) := by omega
        clear hc
        generalize Ls.getD (2 * i) [] = F1 at *
        obtain ⟨xF, cF, rfl, _⟩ := VF.out
        obtain ⟨n1, hn1⟩ : ∃ n1, F1.length = n1 := ⟨_, rfl⟩
        rw [hn1] at LI q1 VF
        simp only [List.length_nil, Nat.add_zero] at LI
        have PI2 := Lib.hid (p := (mpairs Ls).getD i [] = F1) (by rw [PI.out, mrg_r])
        have mk2 := make_run n1 (by omega)
        have ks : IntKind.i64.wrap (n1 : Int) = (n1 : Int) := by simp [IntKind.wrap, IntKind.bits, IntKind.signed]; omega
        have W0B := Lib.hid (p := Below wr.heap.size wr (wr.alloc (.cells (madeCells #[.int .i64 0, .string ⟨#[]⟩, .int .i64 0] (n1 * 3)) 40))) ((Below.refl _ _).alloc (Nat.le_refl _) _)
        have R0 := Lib.hid (ro_made wr n1 (by omega))
        have TL := Lib.hid (p := ([] ++ F1).length = n1) hn1
        have TL2 := Lib.hid hn1
        have kwi : IntKind.i64.wrap ((i : Int) + 1) = (i : Int) + 1 := by simp [IntKind.wrap, IntKind.bits, IntKind.signed]; omega
        clear hn1
        go_wp2
        generalize wr.alloc (.cells (madeCells #[.int .i64 0, .string ⟨#[]⟩, .int .i64 0] (n1 * 3)) 40) = W0 at *
        go_loopw [5, 7, 45] (fun f v t wy => f = .slice xF n1 cF ∧ v = .slice (some ⟨wr.heap.size, 0, none⟩) 0 n1 ∧ t = .int .i64 0 ∧ RO wy wr.heap.size n1 [] ∧ Below wr.heap.size wr wy) (fun _ _ _ _ => 0)
        case atStart => exact ⟨rfl, rfl, rfl, R0.out, W0B.out⟩
        case round =>
          obtain ⟨rfl, rfl, rfl, hR, hB⟩ := hrel
          rename World => wy
          have BY := Lib.hid hB
          have RY := Lib.hid hR
          have FZ := Lib.hid (VF.out.later hB)
          clear hR hB
          go_wp2_with (at_builtin; refine wpl_spare _ rfl _ _ rfl wr.heap.size n1 [] F1 _ rfl rfl FZ.out RY.out (by rw [TL2.out]; simp) ?_; rw [TL.out]; intro w6 ho hg; have O6 := Lib.hid ho; have B6 := Lib.hid (BY.out.grown hg BY.out.size (fun k e => by injection e with e; omega)); obtain ⟨⟨mu, m1⟩, m2⟩ := (GG.out.later B6.out).room i him; have M6 := Lib.hid ((GG.out.later B6.out).set him (v := .slice (some ⟨wr.heap.size, 0, none⟩) n1 n1) (by show OV w6 _ _ ((mpairs Ls).getD i []); rw [PI2.out]; have q := ho; unfold RO at q; rw [TL.out] at q; unfold OV; rw [TL2.out]; exact OV_low q GG.out.lt)); clear ho hg)
          go_roundw
          case rel => exact ⟨i + 1, by omega, by simp, M6.out⟩
          case measure => simp [intOf]; omega
    · obtain rfl : i = m := by omega
      have ki : ¬ (i : Int) < (i : Int) := by omega
      clear hG
      go_wp2
      go_ret
      exact ⟨_, _, rfl, GG.out.bel, ⟨HM.out, by omega, .inr ⟨_, _, rfl, GG.out.lt, fun j hj => by
        obtain ⟨v, q1, q2⟩ := GG.out.done j hj
        exact ⟨v, by simpa using q1, q2.sv (by have := PL.out j; omega)⟩⟩⟩, fun b o q j hj => by
        injection q with q
        injection q with qa qb
        subst qa qb
        obtain ⟨v, q1, q2⟩ := GG.out.done j hj
        exact ⟨v, by simpa using q1, q2.low (Nat.le_succ _)⟩⟩
end Go.Proofs.Ythhacbelbkkcmaa
