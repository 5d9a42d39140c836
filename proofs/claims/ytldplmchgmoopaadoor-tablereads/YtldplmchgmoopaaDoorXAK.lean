import Derived.Test.YtldplmchgmoopaaDoorXAJ
import Derived.WalkMore
namespace Go.Proofs.YtldplmchgmoopaaDoor
open Go.RowKit Go.Shelf Go.Maps
set_option linter.unusedVariables false
set_option linter.unusedSimpArgs false

theorem make_set (W : World) : (Instr.makeMap 53 none).run Tryd.prog W = .ok (.map (some W.heap.size)) (W.alloc (.map #[] 0)) := by
  simp [Instr.makeMap, run_underlying Tryd.underlying53]
/-- What lies when Parse begins to read. -/
structure PS (w w1 : World) (g : Nat) (s : ByteArray) : Prop where
  tr : TR w1 g s 0 0 (.map (some (w.heap.size + 1))) (.slice none 0 0) (.slice none 0 0)
  mo : MapOwn w1 (w.heap.size + 1) 0 (.map [])
  bel : Below w.heap.size w w1
  rb : w1.heap[w.heap.size]? = some (.cells #[.slice none 0 0, .slice none 0 0] 32)
theorem parse_start (s : ByteArray) (w : World) {w1 : World} (sz : s.size ≤ 1048576) (h : (((w.alloc (.cells #[.slice none 0 0, .slice none 0 0] 32)).alloc (.map #[] 0)).alloc (.cells #[.string s, .int .i64 0, .int .i64 0, .map (some (w.heap.size + 1)), .slice none 0 0, .slice none 0 0] 55)) = w1) : PS w w1 (w.heap.size + 1 + 1) s := by
  subst h
  have h2 : ((w.alloc (.cells #[.slice none 0 0, .slice none 0 0] 32)).alloc (.map #[] 0)).heap.size = w.heap.size + 1 + 1 := by simp
  refine ⟨⟨?_, sz, Nat.zero_le _⟩, ?_, ?_, ?_⟩
  · have := World.alloc_heap_new ((w.alloc (.cells #[.slice none 0 0, .slice none 0 0] 32)).alloc (.map #[] 0)) (.cells #[.string s, .int .i64 0, .int .i64 0, .map (some (w.heap.size + 1)), .slice none 0 0, .slice none 0 0] 55)
    rw [h2] at this
    exact this
  · have := World.ownsMap_made (w.alloc (.cells #[.slice none 0 0, .slice none 0 0] 32)) Tryd.prog 9 (unitElem (H := Unit))
    rw [World.size_alloc] at this
    exact this.alloc _
  · exact (((Below.refl _ w).alloc (Nat.le_refl _) _).alloc (by simp) _).alloc (by simp; omega) _
  · exact (Below.heap_alloc _ _ _ (by simp; omega)).trans ((Below.heap_alloc _ _ _ (by simp)).trans (World.alloc_heap_new w _))
theorem rb_kept {w w1 W : World} {g : Nat} {s : ByteArray} (h : PS w w1 g s) (b : Below (w.heap.size + 1) w1 W) : W.heap[w.heap.size]? = some (.cells #[.slice none 0 0, .slice none 0 0] 32) := (b.block _ (Nat.lt_succ_self _)).trans h.rb
def PsE (R : PR) (w : World) (e : Ending) (w' : World) : Prop := ∃ t : Tb, e = .returned (.tuple #[t.val, .int .i64 (R.pl : Int), .int .i64 R.e]) ∧ PsT w.heap.size w' t R ∧ Below w.heap.size w w'
theorem rowP_rowR (s : ByteArray) (ns : List ByteArray) (rs : List (List Cl)) (i : Nat) : rowP s ns rs i = if (rowR s ns rs (wrd s i) (wEn s i) (wPl s i)).2.2.1 = 0 then .on (rowR s ns rs (wrd s i) (wEn s i) (wPl s i)).2.1 (some ns) (rowR s ns rs (wrd s i) (wEn s i) (wPl s i)).2.2.2 else .fin ⟨(rowR s ns rs (wrd s i) (wEn s i) (wPl s i)).1, (rowR s ns rs (wrd s i) (wEn s i) (wPl s i)).2.2.1, [], []⟩ := by
  unfold rowP rowR
  cases dayP (wrd s i) with
  | none => rfl
  | some d =>
    simp only
    by_cases h1 : d < rs.length
    · rw [if_pos h1, if_pos h1]; rfl
    · rw [if_neg h1, if_neg h1]
      by_cases h2 : 4096 ≤ d
      · rw [if_pos h2, if_pos h2]; rfl
      · rw [if_neg h2, if_neg h2]
        by_cases h3 : (cellsP s ns.length (wEn s i) []).2.2.1 = 0
        · simp only [h3, if_true]
        · simp only [h3, if_false]
theorem st_end {s : ByteArray} {i : Nat} {st : Option (List ByteArray)} {rs : List (List Cl)} {R : PR} (h : prP s i st rs = R) (h1 : wEn s i = wPl s i) (h2 : wEn s i = s.size) : R = st.elim ⟨s.size, 51, [], []⟩ (fun ns => ⟨0, 0, ns, rs⟩) := by
  rw [← h]
  refine prP_fin ?_
  unfold stepP
  rw [if_pos h1, if_pos h2]
  cases st <;> rfl
theorem st_line {s : ByteArray} {i : Nat} {st : Option (List ByteArray)} {rs : List (List Cl)} {R : PR} (hi : i ≤ s.size) (h : prP s i st rs = R) (h1 : wEn s i = wPl s i) (h2 : ¬ wEn s i = s.size) : prP s (wEn s i + 1) st rs = R := by
  have q : stepP s i st rs = .on (wEn s i + 1) st rs := by unfold stepP; rw [if_pos h1, if_neg h2]
  obtain ⟨a, b⟩ := stepP_on hi q
  rw [← h, prP_on q a b]
theorem st_odd {s : ByteArray} {i : Nat} {rs : List (List Cl)} {R : PR} (h : prP s i none rs = R) (h1 : ¬ wEn s i = wPl s i) (h2 : wrd s i ≠ wDay) : R = ⟨wPl s i, 51, [], []⟩ := by
  rw [← h]
  refine prP_fin ?_
  unfold stepP
  rw [if_neg h1]
  simp only
  rw [if_neg h2]
theorem st_head {s : ByteArray} {i : Nat} {rs : List (List Cl)} {R : PR} (hi : i ≤ s.size) (h : prP s i none rs = R) (h1 : ¬ wEn s i = wPl s i) (h2 : wrd s i = wDay) (h3 : (headP s (wEn s i) []).2.2.1 = 0) : prP s (headP s (wEn s i) []).2.1 (some (headP s (wEn s i) []).2.2.2) rs = R ∧ i < (headP s (wEn s i) []).2.1 ∧ (headP s (wEn s i) []).2.1 ≤ s.size ∧ Gd (headP s (wEn s i) []).2.2.2 [] := by
  have q : stepP s i none rs = .on (headP s (wEn s i) []).2.1 (some (headP s (wEn s i) []).2.2.2) rs := by unfold stepP; rw [if_neg h1]; simp only; rw [if_pos h2, if_pos h3]
  obtain ⟨a, b⟩ := stepP_on hi q
  refine ⟨by rw [← h, prP_on q a b], a, b, ?_⟩
  obtain ⟨x, y, z⟩ := headP_gd s _ (wEn s i) [] rfl (wEn_le hi) (by simp) (fun n hn => by cases hn) List.nodup_nil
  exact ⟨x, y, z, fun r hr => (by cases hr), fun r hr => (by cases hr), by simp⟩
theorem st_headE {s : ByteArray} {i : Nat} {rs : List (List Cl)} {R : PR} (h : prP s i none rs = R) (h1 : ¬ wEn s i = wPl s i) (h2 : wrd s i = wDay) (h3 : ¬ (headP s (wEn s i) []).2.2.1 = 0) : R = ⟨(headP s (wEn s i) []).1, (headP s (wEn s i) []).2.2.1, [], []⟩ := by
  rw [← h]
  refine prP_fin ?_
  unfold stepP
  rw [if_neg h1]
  simp only
  rw [if_pos h2, if_neg h3]
theorem st_row {s : ByteArray} {i : Nat} {ns : List ByteArray} {rs : List (List Cl)} {R : PR} {Q : Nat × Nat × Int × List (List Cl)} (hQ : rowR s ns rs (wrd s i) (wEn s i) (wPl s i) = Q) (hi : i ≤ s.size) (g : Gd ns rs) (h : prP s i (some ns) rs = R) (h1 : ¬ wEn s i = wPl s i) (h3 : Q.2.2.1 = 0) : prP s Q.2.1 (some ns) Q.2.2.2 = R ∧ i < Q.2.1 ∧ Q.2.1 ≤ s.size ∧ Gd ns Q.2.2.2 := by
  have q : stepP s i (some ns) rs = .on Q.2.1 (some ns) Q.2.2.2 := by
    unfold stepP
    rw [if_neg h1]
    show rowP s ns rs i = _
    rw [rowP_rowR, hQ, if_pos h3]
  obtain ⟨a, b⟩ := stepP_on hi q
  refine ⟨by rw [← h, prP_on q a b], a, b, ?_⟩
  exact (stepP_gd hi (fun k => by cases k) (fun ns' k => by injection k with k; subst k; exact g) q).2 ns rfl
theorem st_rowE {s : ByteArray} {i : Nat} {ns : List ByteArray} {rs : List (List Cl)} {R : PR} {Q : Nat × Nat × Int × List (List Cl)} (hQ : rowR s ns rs (wrd s i) (wEn s i) (wPl s i) = Q) (h : prP s i (some ns) rs = R) (h1 : ¬ wEn s i = wPl s i) (h3 : ¬ Q.2.2.1 = 0) : R = ⟨Q.1, Q.2.2.1, [], []⟩ := by
  rw [← h]
  refine prP_fin ?_
  unfold stepP
  rw [if_neg h1]
  show rowP s ns rs i = _
  rw [rowP_rowR, hQ, if_neg h3]
/-- The reader ahead of its head, and behind it. -/
structure PA (w1 W : World) (B g mb : Nat) (s : ByteArray) (i : Nat) (R : PR) : Prop where
  rd : ∃ p D, RdS w1 W B g mb s i p [] [] (.slice none 0 0) (.slice none 0 0) D
  hi : i ≤ s.size
  pr : prP s i none [] = R
structure PB (w1 W : World) (B g mb : Nat) (s : ByteArray) (i p : Nat) (ns : List ByteArray) (qs : List Rw) (nm rw : Value) (D : DataW Unit) (R : PR) : Prop where
  rd : RdS w1 W B g mb s i p ns qs nm rw D
  hi : i ≤ s.size
  pr : prP s i (some ns) (qs.map (·.cs)) = R
  gd : Gd ns (qs.map (·.cs))
theorem tbox_own {w w' : World} {B x : Nat} {E : TypeId} {a : Value} {n : Nat} {xs : List Value} {cs : Array Value} (h : w.ownsRow B E 1 a n xs) (hb : w.heap[x]? = some (.cells cs 32)) (hE : 32 ≠ E) (k : w.grownBy w' (some x)) : w'.ownsRow B E 1 a n xs := h.kept k (.inr (ty_apart h hb hE))
theorem parse_long2 (s : ByteArray) (w : World) (hs : 1048576 < s.size) : Calls Tryd.prog 5 #[.string s] w fun e w' => PsE (parseP s) w e w' := by
  have e1 : parseP s = ⟨0, 6, [], []⟩ := by unfold parseP; rw [if_pos hs]
  rw [e1]
  have szI : (1048576 : Int) < (s.size : Int) := by omega
  have A := Lib.hid ((Below.refl w.heap.size w).alloc (Nat.le_refl _) (.cells #[.slice none 0 0, .slice none 0 0] 32))
  go_enter Tryd.func5, Tryd.ntmps5
  go_wp2
  go_step3
  go_wp2
  obtain ⟨r2, r3, _, _⟩ := box_all2 (World.alloc_heap_new w (.cells #[.slice none 0 0, .slice none 0 0] 32))
  try rw [Exit.noGoto_ret]
  refine bodyPost_ret (v := .tuple #[.agg #[.slice none 0 0, .slice none 0 0], .int .i64 0, .int .i64 6]) (by simp [results, Tryd.results5, go_sem, r2, r3]) rfl ?_
  exact ⟨nilT, rfl, psT_nil _ _ _ _, A.out⟩
set_option maxRecDepth 100000 in
set_option maxHeartbeats 16000000 in
theorem parse_short (s : ByteArray) (w : World) (sz : s.size ≤ 1048576) (ht : Pows w) (hE : Ev w) : Calls Tryd.prog 5 #[.string s] w fun e w' => PsE (parseP s) w e w' := by
  have e1 : parseP s = prP s 0 none [] := by unfold parseP; rw [if_neg (by omega)]
  obtain ⟨R, hR⟩ : ∃ R, parseP s = R := ⟨_, rfl⟩
  rw [hR]
  have HR := Lib.hid (e1.symm.trans hR)
  have szI : ¬ (1048576 : Int) < (s.size : Int) := by omega
  have hmk := make_set
  obtain ⟨w1, hw1⟩ : ∃ w1, (((w.alloc (.cells #[.slice none 0 0, .slice none 0 0] 32)).alloc (.map #[] 0)).alloc (.cells #[.string s, .int .i64 0, .int .i64 0, .map (some (w.heap.size + 1)), .slice none 0 0, .slice none 0 0] 55)) = w1 := ⟨_, rfl⟩
  have IN := Lib.hid (parse_start s w sz hw1)
  obtain ⟨g, hg⟩ : ∃ g, w.heap.size + 1 + 1 = g := ⟨_, rfl⟩
  have IG := Lib.hid (hg ▸ IN.out)
  have gB : w.heap.size + 1 ≤ g := by omega
  have gM : w.heap.size + 1 ≠ g := by omega
  have HW := Lib.hid hw1
  have HG := Lib.hid hg
  have PE := Lib.hid (p := ∀ W, Below (w.heap.size + 1) w1 W → Pows W ∧ Ev W) (fun W b => ⟨pows_below ht (IN.out.bel.trans (b.mono (Nat.le_succ _))), ev_below hE (IN.out.bel.trans (b.mono (Nat.le_succ _)))⟩)
  have KW := Lib.hid (fun i p m nm rw W (t : TR W g s i p m nm rw) => word_all g s i p m nm rw W t)
  have RB := Lib.hid (fun W b => rb_kept IG.out (W := W) b)
  have S0 := Lib.hid (p := RdS w1 w1 (w.heap.size + 1) g (w.heap.size + 1) s 0 0 [] [] (.slice none 0 0) (.slice none 0 0) (.map [])) ⟨⟨IG.out.tr, IG.out.mo, setIs_nil, World.ownsRow_nil _ _ _ _, Below.refl _ _⟩, rwO_nil _ _⟩
  clear hw1 hg hR e1 ht hE
  go_enter Tryd.func5, Tryd.ntmps5
  go_wp2
  go_step3
  go_wp2
  rw [HW.out, HG.out]
  go_step3
  go_wp2
  go_loopw [6] (fun t wr => (t = .bool false ∧ ∃ i, PA w1 wr (w.heap.size + 1) g (w.heap.size + 1) s i R) ∨ (t = .bool true ∧ ∃ i p ns qs nm rw D, PB w1 wr (w.heap.size + 1) g (w.heap.size + 1) s i p ns qs nm rw D R)) (fun t wr => s.size - posT g wr)
  case atStart => exact .inl ⟨rfl, 0, ⟨0, .map [], S0.out⟩, Nat.zero_le _, HR.out⟩
  case round =>
    rename World => wr
    rcases hrel with ⟨rfl, i, hA⟩ | ⟨rfl, i, p, ns, qs, nm, rw, D, hB⟩
    · obtain ⟨p, D, hR⟩ := hA.rd
      have RR := Lib.hid hR
      have P0 := Lib.hid hR.hd.tr.pos
      have hi := hA.hi
      have PR := Lib.hid hA.pr
      have w1' := wPl_ge s i
      have w2' := wEn_ge s i
      have w3' := wEn_le hi
      clear hA hR
      by_cases h0 : wEn s i = wPl s i
      · have eW : wrd s i = ⟨#[]⟩ := wrd_none h0
        by_cases hend : wEn s i = s.size
        · have R0 := Lib.hid (st_end PR.out h0 hend)
          go_wp2_with (first
            | (go_at_call 14; refine (KW.out _ _ _ _ _ _ RR.out.hd.tr).mono ?_; rintro e w2 ⟨rfl, t2, g2⟩; have R2 := Lib.hid (RR.out.word gM gB t2 g2); clear t2 g2; rw [eW])
            | (go_at_call 15; refine (nextLine_no g s _ _ _ _ _ _ R2.out.hd.tr hend).mono ?_; rintro e w3 ⟨rfl, t3, g3⟩; have R3 := Lib.hid (R2.out.word gM gB t3 g3); obtain ⟨d0, d1, d2, d3, d4, d5⟩ := t3.c; have hb3 := Lib.hid (RB.out _ R3.out.hd.bel); obtain ⟨r0, r1, f0, f1⟩ := box_all2 (RB.out _ R3.out.hd.bel); clear t3 g3))
          obtain ⟨r2, r3, _, _⟩ := box_all2 (box_set2 (u := .slice none 0 0) (v := .slice none 0 0) hb3.out)
          try rw [Exit.noGoto_ret]
          refine bodyPost_ret (v := .tuple #[.agg #[.slice none 0 0, .slice none 0 0], .int .i64 (s.size : Int), .int .i64 51]) (by simp [results, Tryd.results5, go_sem, r2, r3]) rfl ?_
          rw [R0.out]
          exact ⟨nilT, rfl, psT_nil _ _ _ _, (((IN.out.bel.trans (R3.out.hd.bel.mono (Nat.le_succ _))).setCell (p := ⟨w.heap.size, 0, none⟩) (Nat.le_refl _) _).setCell (p := ⟨w.heap.size, 1, none⟩) (Nat.le_refl _) _)⟩
        · have hlt : wEn s i < s.size := by omega
          have R0 := Lib.hid (st_line hi PR.out h0 hend)
          go_wp2_with (first
            | (go_at_call 14; refine (KW.out _ _ _ _ _ _ RR.out.hd.tr).mono ?_; rintro e w2 ⟨rfl, t2, g2⟩; have R2 := Lib.hid (RR.out.word gM gB t2 g2); clear t2 g2; rw [eW])
            | (go_at_call 15; refine (nextLine_yes g s _ _ _ _ _ _ R2.out.hd.tr hlt).mono ?_; rintro e w3 ⟨rfl, t3, g3⟩; have R3 := Lib.hid (R2.out.word gM gB t3 g3); clear t3 g3))
          go_roundw
          case rel => exact .inl ⟨rfl, wEn s i + 1, ⟨_, _, R3.out⟩, by omega, R0.out⟩
          case measure => rw [P0.out, R3.out.hd.tr.pos]; omega
      · have us : 1 ≤ (wrd s i).size := by have := wrd_size hi; omega
        have iE := isEmpty_no us
        by_cases hd : wrd s i = wDay
        · have eW : wrd s i = ⟨#[100, 97, 121]⟩ := hd
          have KH := Lib.hid (fun W (t : HdS w1 W (w.heap.size + 1) g (w.heap.size + 1) s (wEn s i) (wPl s i) [] (.slice none 0 0) (.slice none 0 0) D) => head_any g (w.heap.size + 1) (w.heap.size + 1) s (wEn s i) (wPl s i) _ _ D w1 W t gM gB (Nat.le_refl _))
          by_cases he : (headP s (wEn s i) []).2.2.1 = 0
          · have R0 := Lib.hid (st_head hi PR.out h0 hd he)
            rw [he] at KH
            clear hd he iE
            go_wp2_with (first
              | (go_at_call 14; refine (KW.out _ _ _ _ _ _ RR.out.hd.tr).mono ?_; rintro e w2 ⟨rfl, t2, g2⟩; have R2 := Lib.hid (RR.out.word gM gB t2 g2); clear t2 g2; rw [eW])
              | (go_at_call 16; refine (KH.out _ R2.out.hd).mono ?_; rintro e w3 ⟨rfl, hH⟩; obtain ⟨nm3, D3, hH⟩ := hH; have H3 := Lib.hid hH; obtain ⟨d0, d1, d2, d3, d4, d5⟩ := hH.tr.c; have hb3 := Lib.hid (RB.out _ hH.bel); obtain ⟨r0, r1, f0, f1⟩ := box_all2 (RB.out _ hH.bel); clear hH))
            have S3 := Lib.hid (p := RdS w1 w3 (w.heap.size + 1) g (w.heap.size + 1) s _ _ _ [] nm3 (.slice none 0 0) D3) ⟨H3.out, rwO_nil _ _⟩
            go_roundw
            case rel => exact .inr ⟨rfl, _, _, _, [], _, _, _, S3.out, R0.out.2.2.1, R0.out.1, R0.out.2.2.2⟩
            case measure => rw [P0.out, H3.out.tr.pos]; have := R0.out; omega
          · have R0 := Lib.hid (st_headE PR.out h0 hd he)
            obtain ⟨E, hE⟩ : ∃ E, (headP s (wEn s i) []).2.2.1 = E := ⟨_, rfl⟩
            rw [hE] at KH R0 he
            have e0 : (E == 0) = false := by rw [beq_eq_false_iff_ne]; exact he
            clear hd iE hE
            go_wp2_with (first
              | (go_at_call 14; refine (KW.out _ _ _ _ _ _ RR.out.hd.tr).mono ?_; rintro e w2 ⟨rfl, t2, g2⟩; have R2 := Lib.hid (RR.out.word gM gB t2 g2); clear t2 g2; rw [eW])
              | (go_at_call 16; refine (KH.out _ R2.out.hd).mono ?_; rintro e w3 ⟨rfl, hH⟩; obtain ⟨nm3, D3, hH⟩ := hH; have H3 := Lib.hid hH; obtain ⟨d0, d1, d2, d3, d4, d5⟩ := hH.tr.c; have hb3 := Lib.hid (RB.out _ hH.bel); obtain ⟨r0, r1, f0, f1⟩ := box_all2 (RB.out _ hH.bel); clear hH))
            go_region
            all_goals
              go_wp2
              obtain ⟨r2, r3, _, _⟩ := box_all2 (box_set2 (u := .slice none 0 0) (v := .slice none 0 0) hb3.out)
              try rw [Exit.noGoto_ret]
              refine bodyPost_ret (v := .tuple #[.agg #[.slice none 0 0, .slice none 0 0], .int .i64 ((headP s (wEn s i) []).1 : Int), .int .i64 E]) (by simp [results, Tryd.results5, go_sem, r2, r3]) rfl ?_
              rw [R0.out]
              exact ⟨nilT, rfl, psT_nil _ _ _ _, (((IN.out.bel.trans ((H3.out.bel).mono (Nat.le_succ _))).setCell (p := ⟨w.heap.size, 0, none⟩) (Nat.le_refl _) _).setCell (p := ⟨w.heap.size, 1, none⟩) (Nat.le_refl _) _).drew⟩
        · have R0 := Lib.hid (st_odd PR.out h0 hd)
          have KH := Lib.hid (fun W => head_bad g (wrd s i) hd W)
          go_wp2_with (first
            | (go_at_call 14; refine (KW.out _ _ _ _ _ _ RR.out.hd.tr).mono ?_; rintro e w2 ⟨rfl, t2, g2⟩; have R2 := Lib.hid (RR.out.word gM gB t2 g2); clear t2 g2)
            | (go_at_call 16; refine (KH.out _).mono ?_; rintro e w3 ⟨rfl, hw⟩; have hw2 := hw.symm; subst hw2; clear hw; obtain ⟨d0, d1, d2, d3, d4, d5⟩ := R2.out.hd.tr.c; have hb3 := Lib.hid (RB.out _ R2.out.hd.bel); obtain ⟨r0, r1, f0, f1⟩ := box_all2 (RB.out _ R2.out.hd.bel)))
          go_region
          all_goals
            go_wp2
            obtain ⟨r2, r3, _, _⟩ := box_all2 (box_set2 (u := .slice none 0 0) (v := .slice none 0 0) hb3.out)
            try rw [Exit.noGoto_ret]
            refine bodyPost_ret (v := .tuple #[.agg #[.slice none 0 0, .slice none 0 0], .int .i64 (wPl s i : Int), .int .i64 51]) (by simp [results, Tryd.results5, go_sem, r2, r3]) rfl ?_
            rw [R0.out]
            exact ⟨nilT, rfl, psT_nil _ _ _ _, (((IN.out.bel.trans ((R2.out.hd.bel).mono (Nat.le_succ _))).setCell (p := ⟨w.heap.size, 0, none⟩) (Nat.le_refl _) _).setCell (p := ⟨w.heap.size, 1, none⟩) (Nat.le_refl _) _).drew⟩
    · have RR := Lib.hid hB.rd
      have P0 := Lib.hid hB.rd.hd.tr.pos
      have hi := hB.hi
      have PR := Lib.hid hB.pr
      have GD := Lib.hid hB.gd
      have w1' := wPl_ge s i
      have w2' := wEn_ge s i
      have w3' := wEn_le hi
      obtain ⟨an, cn, rfl⟩ := rowL_form hB.rd.hd.no
      obtain ⟨ar, cr, rfl⟩ := rowL_form hB.rd.ro.own
      clear hB
      by_cases h0 : wEn s i = wPl s i
      · have eW : wrd s i = ⟨#[]⟩ := wrd_none h0
        by_cases hend : wEn s i = s.size
        · have R0 := Lib.hid (st_end PR.out h0 hend)
          go_wp2_with (first
            | (go_at_call 14; refine (KW.out _ _ _ _ _ _ RR.out.hd.tr).mono ?_; rintro e w2 ⟨rfl, t2, g2⟩; have R2 := Lib.hid (RR.out.word gM gB t2 g2); clear t2 g2; rw [eW])
            | (go_at_call 15; refine (nextLine_no g s _ _ _ _ _ _ R2.out.hd.tr hend).mono ?_; rintro e w3 ⟨rfl, t3, g3⟩; have R3 := Lib.hid (R2.out.word gM gB t3 g3); obtain ⟨d0, d1, d2, d3, d4, d5⟩ := t3.c; have hb3 := Lib.hid (RB.out _ R3.out.hd.bel); obtain ⟨r0, r1, f0, f1⟩ := box_all2 (RB.out _ R3.out.hd.bel); clear t3 g3))
          obtain ⟨r2, r3, _, _⟩ := box_all2 (box_set2 (u := .slice an ns.length cn) (v := .slice ar qs.length cr) hb3.out)
          try rw [Exit.noGoto_ret]
          refine bodyPost_ret (v := .tuple #[.agg #[.slice an ns.length cn, .slice ar qs.length cr], .int .i64 0, .int .i64 0]) (by simp [results, Tryd.results5, go_sem, r2, r3]) rfl ?_
          rw [R0.out]
          have g1 := grT_set w3 w.heap.size 0 (.slice an ns.length cn)
          have g2 := grT_set (w3.setCell ⟨w.heap.size, 0, none⟩ (.slice an ns.length cn)) w.heap.size 1 (.slice ar qs.length cr)
          have b1 := Joins.block_setCell (i := 0) hb3.out (.slice an ns.length cn)
          refine ⟨⟨an, ns.length, cn, ns, ar, qs.length, cr, qs⟩, rfl, psT_of ?_ ?_ GD.out _ _, (((IN.out.bel.trans (R3.out.hd.bel.mono (Nat.le_succ _))).setCell (p := ⟨w.heap.size, 0, none⟩) (Nat.le_refl _) _).setCell (p := ⟨w.heap.size, 1, none⟩) (Nat.le_refl _) _)⟩
          · exact own_mono (tbox_own (tbox_own R3.out.hd.no hb3.out (by decide) g1) b1 (by decide) g2) (Nat.le_succ _)
          · have := (R3.out.ro.turn hb3.out (by decide) (by decide) g1).turn b1 (by decide) (by decide) g2
            exact ⟨own_mono this.own (Nat.le_succ _), fun q hq => by obtain ⟨z, z1, z2, z3⟩ := this.ok q hq; exact ⟨z, z1, Nat.le_of_succ_le z2, z3⟩, this.nd⟩
        · have hlt : wEn s i < s.size := by omega
          have R0 := Lib.hid (st_line hi PR.out h0 hend)
          go_wp2_with (first
            | (go_at_call 14; refine (KW.out _ _ _ _ _ _ RR.out.hd.tr).mono ?_; rintro e w2 ⟨rfl, t2, g2⟩; have R2 := Lib.hid (RR.out.word gM gB t2 g2); clear t2 g2; rw [eW])
            | (go_at_call 15; refine (nextLine_yes g s _ _ _ _ _ _ R2.out.hd.tr hlt).mono ?_; rintro e w3 ⟨rfl, t3, g3⟩; have R3 := Lib.hid (R2.out.word gM gB t3 g3); clear t3 g3))
          go_roundw
          case rel => exact .inr ⟨rfl, wEn s i + 1, _, ns, qs, _, _, _, R3.out, by omega, R0.out, GD.out⟩
          case measure => rw [P0.out, R3.out.hd.tr.pos]; omega
      · have us : 1 ≤ (wrd s i).size := by have := wrd_size hi; omega
        have ul : (wrd s i).size ≤ 1048576 := by have := wrd_size hi; omega
        have iE := isEmpty_no us
        obtain ⟨Q, hQ⟩ : ∃ Q, rowR s ns (qs.map (·.cs)) (wrd s i) (wEn s i) (wPl s i) = Q := ⟨_, rfl⟩
        have KR := Lib.hid (fun W (t : RdS w1 W (w.heap.size + 1) g (w.heap.size + 1) s (wEn s i) (wPl s i) ns qs (.slice an ns.length cn) (.slice ar qs.length cr) D) => row_any g (w.heap.size + 1) (w.heap.size + 1) s (wEn s i) (wPl s i) ns qs _ _ D w1 W (wrd s i) t gM gB (Nat.le_refl _) GD.out.n64 PE.out us ul Q hQ)
        by_cases he : Q.2.2.1 = 0
        · have R0 := Lib.hid (st_row hQ hi GD.out PR.out h0 he)
          rw [he] at KR
          clear hQ he
          go_wp2_with (first
            | (go_at_call 14; refine (KW.out _ _ _ _ _ _ RR.out.hd.tr).mono ?_; rintro e w2 ⟨rfl, t2, g2⟩; have R2 := Lib.hid (RR.out.word gM gB t2 g2); clear t2 g2)
            | (go_at_call 17; refine (KR.out _ R2.out).mono ?_; rintro e w3 ⟨rfl, hZ⟩; obtain ⟨qs3, rw3, hS, hM⟩ := hZ; have S3 := Lib.hid hS; have M3 := Lib.hid hM; obtain ⟨d0, d1, d2, d3, d4, d5⟩ := hS.hd.tr.c; have hb3 := Lib.hid (RB.out _ hS.hd.bel); obtain ⟨r0, r1, f0, f1⟩ := box_all2 (RB.out _ hS.hd.bel); clear hS hM))
          go_roundw
          case rel => exact .inr ⟨rfl, _, _, ns, qs3, _, _, _, S3.out, R0.out.2.2.1, by rw [M3.out]; exact R0.out.1, by rw [M3.out]; exact R0.out.2.2.2⟩
          case measure => rw [P0.out, S3.out.hd.tr.pos]; have := R0.out; omega
        · have R0 := Lib.hid (st_rowE hQ PR.out h0 he)
          obtain ⟨E, hE⟩ : ∃ E, Q.2.2.1 = E := ⟨_, rfl⟩
          rw [hE] at KR R0 he
          have e0 : (E == 0) = false := by rw [beq_eq_false_iff_ne]; exact he
          clear hQ hE
          go_wp2_with (first
            | (go_at_call 14; refine (KW.out _ _ _ _ _ _ RR.out.hd.tr).mono ?_; rintro e w2 ⟨rfl, t2, g2⟩; have R2 := Lib.hid (RR.out.word gM gB t2 g2); clear t2 g2)
            | (go_at_call 17; refine (KR.out _ R2.out).mono ?_; rintro e w3 ⟨rfl, hZ⟩; obtain ⟨qs3, rw3, hS, hM⟩ := hZ; have S3 := Lib.hid hS; have M3 := Lib.hid hM; obtain ⟨d0, d1, d2, d3, d4, d5⟩ := hS.hd.tr.c; have hb3 := Lib.hid (RB.out _ hS.hd.bel); obtain ⟨r0, r1, f0, f1⟩ := box_all2 (RB.out _ hS.hd.bel); clear hS hM))
          go_region
          all_goals
            go_wp2
            obtain ⟨r2, r3, _, _⟩ := box_all2 (box_set2 (u := .slice none 0 0) (v := .slice none 0 0) hb3.out)
            try rw [Exit.noGoto_ret]
            refine bodyPost_ret (v := .tuple #[.agg #[.slice none 0 0, .slice none 0 0], .int .i64 (Q.1 : Int), .int .i64 E]) (by simp [results, Tryd.results5, go_sem, r2, r3]) rfl ?_
            rw [R0.out]
            exact ⟨nilT, rfl, psT_nil _ _ _ _, (((IN.out.bel.trans ((S3.out.hd.bel).mono (Nat.le_succ _))).setCell (p := ⟨w.heap.size, 0, none⟩) (Nat.le_refl _) _).setCell (p := ⟨w.heap.size, 1, none⟩) (Nat.le_refl _) _).drew⟩
theorem parseT_any (s : ByteArray) (w : World) (ht : Pows w) (hE : Ev w) : Calls Tryd.prog 5 #[.string s] w fun e w' => PsE (parseP s) w e w' := by
  by_cases h : 1048576 < s.size
  · exact parse_long2 s w h
  · exact parse_short s w (by omega) ht hE
end Go.Proofs.YtldplmchgmoopaaDoor
