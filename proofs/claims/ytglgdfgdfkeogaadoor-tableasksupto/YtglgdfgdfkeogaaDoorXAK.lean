import Derived.Test.YtglgdfgdfkeogaaDoorXAJ
import Derived.Test.YtglgdfgdfkeogaaDoorXAF
namespace Go.Proofs.YtglgdfgdfkeogaaDoor
open Go.RowKit
set_option linter.unusedVariables false
set_option linter.unusedSimpArgs false

def AgE (ss : List ByteArray) (rs : List (List Cl)) (ss' : List ByteArray) (rs' : List (List Cl)) (last : Int) (e : Ending) : Prop := ∃ v : Bool, e = .returned (.bool v) ∧ (v = true ↔ AgreeP ss rs ss' rs' last)

set_option maxRecDepth 100000 in
set_option maxHeartbeats 4000000 in
theorem agreeT_any (an ar an' ar' : Option Addr) (ln cn lr cr ln' cn' lr' cr' : Nat) (ss ss' : List ByteArray) (rs rs' : List Rw) (last : Int) (w : World) (h : NL w an ln ss) (k : RL w ar lr rs) (h' : NL w an' ln' ss') (k' : RL w ar' lr' rs') :
    Calls Tryd.prog 24 #[.agg #[.slice an ln cn, .slice ar lr cr], .agg #[.slice an' ln' cn', .slice ar' lr' cr'], .int .i64 last] w fun e w' => AgE ss (rs.map (·.cs)) ss' (rs'.map (·.cs)) last e ∧ Below w.heap.size w w' := by
  have hB0 : Below w.heap.size w ((w.alloc (.cells #[.slice an ln cn, .slice ar lr cr] 25)).alloc (.cells #[.slice an' ln' cn', .slice ar' lr' cr'] 25)) := ((Below.refl _ w).alloc (Nat.le_refl _) _).alloc (by simp) _
  have p0 : ((w.alloc (.cells #[.slice an ln cn, .slice ar lr cr] 25)).alloc (.cells #[.slice an' ln' cn', .slice ar' lr' cr'] 25)).cell? ⟨w.heap.size, 0, none⟩ = some (.slice an ln cn) := by go_simp
  have p1 : ((w.alloc (.cells #[.slice an ln cn, .slice ar lr cr] 25)).alloc (.cells #[.slice an' ln' cn', .slice ar' lr' cr'] 25)).cell? ⟨w.heap.size, 1, none⟩ = some (.slice ar lr cr) := by go_simp
  have p2 : ((w.alloc (.cells #[.slice an ln cn, .slice ar lr cr] 25)).alloc (.cells #[.slice an' ln' cn', .slice ar' lr' cr'] 25)).cell? ⟨w.heap.size + 1, 0, none⟩ = some (.slice an' ln' cn') := by go_simp
  have p3 : ((w.alloc (.cells #[.slice an ln cn, .slice ar lr cr] 25)).alloc (.cells #[.slice an' ln' cn', .slice ar' lr' cr'] 25)).cell? ⟨w.heap.size + 1, 1, none⟩ = some (.slice ar' lr' cr') := by go_simp
  have s0 : ((w.alloc (.cells #[.slice an ln cn, .slice ar lr cr] 25)).alloc (.cells #[.slice an' ln' cn', .slice ar' lr' cr'] 25)).heap.size = w.heap.size + 1 + 1 := by simp
  obtain ⟨w0, hw0⟩ : ∃ w0, (w.alloc (.cells #[.slice an ln cn, .slice ar lr cr] 25)).alloc (.cells #[.slice an' ln' cn', .slice ar' lr' cr'] 25) = w0 := ⟨_, rfl⟩
  rw [hw0] at hB0 p0 p1 p2 p3 s0
  have K1 := Lib.hid (confirms_any an ar an' ar' ln cn lr cr ln' cn' lr' cr' ss ss' rs rs' last w0 (h.later hB0) (k.later hB0) (h'.later hB0) (k'.later hB0))
  have K2 := Lib.hid (fun W (b : Below w0.heap.size w0 W) => confirms_any an' ar' an ar ln' cn' lr' cr' ln cn lr cr ss' ss rs' rs last W ((h'.later hB0).later b) ((k'.later hB0).later b) ((h.later hB0).later b) ((k.later hB0).later b))
  have IF := Lib.hid (agree_iff ss ss' (rs.map (·.cs)) (rs'.map (·.cs)) last)
  have B0 := Lib.hid hB0
  have C0 := Lib.hid (p := ∀ W, Below w0.heap.size w0 W → W.cell? ⟨w.heap.size, 0, none⟩ = some (.slice an ln cn) ∧ W.cell? ⟨w.heap.size, 1, none⟩ = some (.slice ar lr cr) ∧ W.cell? ⟨w.heap.size + 1, 0, none⟩ = some (.slice an' ln' cn') ∧ W.cell? ⟨w.heap.size + 1, 1, none⟩ = some (.slice ar' lr' cr')) (fun W b => ⟨(b.cell (p := ⟨w.heap.size, 0, none⟩) (show w.heap.size < _ by omega)).trans p0, (b.cell (p := ⟨w.heap.size, 1, none⟩) (show w.heap.size < _ by omega)).trans p1, (b.cell (p := ⟨w.heap.size + 1, 0, none⟩) (show w.heap.size + 1 < _ by omega)).trans p2, (b.cell (p := ⟨w.heap.size + 1, 1, none⟩) (show w.heap.size + 1 < _ by omega)).trans p3⟩)
  have CE := Lib.hid (p := ∀ v : Bool, (v = true ↔ AgreeP ss (rs.map (·.cs)) ss' (rs'.map (·.cs)) last) → AgE ss (rs.map (·.cs)) ss' (rs'.map (·.cs)) last (.returned (.bool v))) (fun v hv => ⟨v, rfl, hv⟩)
  generalize AgreeP ss (rs.map (·.cs)) ss' (rs'.map (·.cs)) last = P at *
  generalize AgE ss (rs.map (·.cs)) ss' (rs'.map (·.cs)) last = Z at *
  clear h k h' k' hB0
  go_enter Tryd.func24, Tryd.ntmps24
  go_wp2_with fail
  refine K1.out.mono ?_
  rintro e w1 ⟨⟨v, rfl, hv⟩, h1⟩
  have B1 := Lib.hid h1
  have BW := Lib.hid (B0.out.trans (h1.mono B0.out.size))
  clear p0 p1 p2 p3
  obtain ⟨p0, p1, p2, p3⟩ := C0.out _ h1
  clear h1
  cases v with
  | false =>
    have Y := Lib.hid (CE.out false ⟨(fun q => by cases q), fun q => absurd (hv.2 (IF.out.2 q).1) (by simp)⟩)
    clear hv
    go_wp2
    go_ret
    exact ⟨Y.out, BW.out⟩
  | true =>
    have HV := Lib.hid (hv.1 rfl)
    clear hv
    go_wp2_with fail
    refine (K2.out _ B1.out).mono ?_
    rintro e w2 ⟨⟨u, rfl, hu⟩, h1⟩
    have BX := Lib.hid (BW.out.trans (h1.mono BW.out.size))
    clear h1
    have Y := Lib.hid (CE.out u ⟨fun q => IF.out.1 ⟨HV.out, hu.1 q⟩, fun q => hu.2 (IF.out.2 q).2⟩)
    clear hu
    go_wp2
    go_ret
    exact ⟨Y.out, BX.out⟩

/-- What the document's Agree looks at. -/
structure GZ (w W : World) (an ar an' ar' : Option Addr) (ln cn lr cr ln' cn' lr' cr' : Nat) (ss ss' : List ByteArray) (rs rs' : List Rw) : Prop where
  a0 : W.cell? ⟨w.heap.size, 0, none⟩ = some (.slice an ln cn)
  a1 : W.cell? ⟨w.heap.size, 1, none⟩ = some (.slice ar lr cr)
  b0 : W.cell? ⟨w.heap.size + 1, 0, none⟩ = some (.slice an' ln' cn')
  b1 : W.cell? ⟨w.heap.size + 1, 1, none⟩ = some (.slice ar' lr' cr')
  nl : NL W an ln ss
  rl : RL W ar lr rs
  nl' : NL W an' ln' ss'
  rl' : RL W ar' lr' rs'
  bel : Below w.heap.size w W
  sz : w.heap.size + 1 < W.heap.size
theorem GZ.later {w W W' : World} {an ar an' ar' : Option Addr} {ln cn lr cr ln' cn' lr' cr' : Nat} {ss ss' : List ByteArray} {rs rs' : List Rw} (h : GZ w W an ar an' ar' ln cn lr cr ln' cn' lr' cr' ss ss' rs rs') (d : Below W.heap.size W W') : GZ w W' an ar an' ar' ln cn lr cr ln' cn' lr' cr' ss ss' rs rs' := by
  have s := h.sz
  exact ⟨(d.cell (p := ⟨w.heap.size, 0, none⟩) (show w.heap.size < _ by omega)).trans h.a0, (d.cell (p := ⟨w.heap.size, 1, none⟩) (show w.heap.size < _ by omega)).trans h.a1, (d.cell (p := ⟨w.heap.size + 1, 0, none⟩) s).trans h.b0, (d.cell (p := ⟨w.heap.size + 1, 1, none⟩) s).trans h.b1, h.nl.later d, h.rl.later d, h.nl'.later d, h.rl'.later d, h.bel.trans (d.mono (by omega)), Nat.lt_of_lt_of_le s d.size⟩
theorem GZ.start (an ar an' ar' : Option Addr) (ln cn lr cr ln' cn' lr' cr' : Nat) {ss ss' : List ByteArray} {rs rs' : List Rw} {w : World} (h : NL w an ln ss) (k : RL w ar lr rs) (h' : NL w an' ln' ss') (k' : RL w ar' lr' rs') :
    GZ w ((w.alloc (.cells #[.slice an ln cn, .slice ar lr cr] 25)).alloc (.cells #[.slice an' ln' cn', .slice ar' lr' cr'] 25)) an ar an' ar' ln cn lr cr ln' cn' lr' cr' ss ss' rs rs' := by
  have hB0 : Below w.heap.size w ((w.alloc (.cells #[.slice an ln cn, .slice ar lr cr] 25)).alloc (.cells #[.slice an' ln' cn', .slice ar' lr' cr'] 25)) := ((Below.refl _ w).alloc (Nat.le_refl _) _).alloc (by simp) _
  exact ⟨by go_simp, by go_simp, by go_simp, by go_simp, h.later hB0, k.later hB0, h'.later hB0, k'.later hB0, hB0, by simp⟩
theorem names_row {w : World} {B : Nat} {v : Value} {n : Nat} {ss : List ByteArray} (h : w.ownsRow B 9 1 v n (ss.map Value.string)) : ∃ a c, v = .slice a n c ∧ (0 < n → ∃ g, a = some ⟨g, 0, none⟩ ∧ g < w.heap.size ∧ ∀ i, i < n → w.cell? ⟨g, i, none⟩ = some (.string (ss.getD i default))) := by
  have hl : ss.length = n := by have := h.1; simpa using this
  rcases h.2 with ⟨rfl, h0⟩ | ⟨g, c, cur, rfl, hB, hg, h1⟩
  · exact ⟨none, 0, by rw [h0], fun q => absurd q (by omega)⟩
  · refine ⟨_, c, rfl, fun _ => ⟨g, rfl, (Array.getElem?_eq_some_iff.1 hg).1, fun i hi => ?_⟩⟩
    rw [World.ownsRow.cellAt h i (by omega), List.getElem?_map]
    have hi' : i < ss.length := by omega
    simp [List.getD, hi']

set_option maxRecDepth 100000 in
set_option maxHeartbeats 4000000 in
theorem rAgree_any (an ar an' ar' : Option Addr) (ln cn lr cr ln' cn' lr' cr' : Nat) (ss ss' : List ByteArray) (rs rs' : List Rw) (last : Int) (w : World) (h : NL w an ln ss) (k : RL w ar lr rs) (h' : NL w an' ln' ss') (k' : RL w ar' lr' rs') (hn : an = none → ln = 0 ∧ cn = 0) (hn' : an' = none → ln' = 0 ∧ cn' = 0) (hsum : ln + ln' ≤ 8796093022000) :
    Calls Tryd.prog 25 #[.agg #[.slice an ln cn, .slice ar lr cr], .agg #[.slice an' ln' cn', .slice ar' lr' cr'], .int .i64 last] w fun e w' => AgE ss (rs.map (·.cs)) ss' (rs'.map (·.cs)) last e ∧ Below w.heap.size w w' := by
  have G0 := Lib.hid (GZ.start an ar an' ar' ln cn lr cr ln' cn' lr' cr' h k h' k')
  have sl := h.1
  have sl' := h'.1
  have hlr := k.2.1
  have hlr' := k'.2.1
  have hln := h.2.1
  have hln' := h'.2.1
  have rl := k.1
  have rl' := k'.1
  clear h k h' k'
  obtain ⟨w0, hw0⟩ : ∃ w0, (w.alloc (.cells #[.slice an ln cn, .slice ar lr cr] 25)).alloc (.cells #[.slice an' ln' cn', .slice ar' lr' cr'] 25) = w0 := ⟨_, rfl⟩
  rw [hw0] at G0
  have a0 := G0.out.a0
  have a1 := G0.out.a1
  have b0 := G0.out.b0
  have b1 := G0.out.b1
  -- the greater number of rows, and the last day
  obtain ⟨M, hM⟩ : ∃ M : Nat, (if lr < lr' then lr' else lr) = M := ⟨_, rfl⟩
  obtain ⟨L, hL⟩ : ∃ L : Int, (if (M : Int) ≤ last then (M : Int) - 1 else last) = L := ⟨_, rfl⟩
  have hL1 : L < (M : Int) := by rw [← hL]; split <;> omega
  have AGR := Lib.hid (p := (∀ d : Nat, (d : Int) ≤ L → ∀ n ∈ ss ++ ss', cellT ss (rs.map (·.cs)) n d = cellT ss' (rs'.map (·.cs)) n d) ↔ AgreeP ss (rs.map (·.cs)) ss' (rs'.map (·.cs)) last) (by
    have e : ∀ d : Nat, ((d : Int) ≤ L) ↔ ((d : Int) ≤ last ∧ (d < (rs.map (·.cs)).length ∨ d < (rs'.map (·.cs)).length)) := fun d => by
      rw [List.length_map, List.length_map, rl, rl', ← hL, ← hM]
      split <;> split <;> omega
    exact ⟨fun g d h1 h2 => g d ((e d).2 ⟨h1, h2⟩), fun g d h1 => g d ((e d).1 h1).1 ((e d).1 h1).2⟩)
  have GETN := Lib.hid (p := ∀ i, i < ln + ln' → (ss ++ ss').getD i default ∈ ss ++ ss') (fun i hi => by
    have hi' : i < (ss ++ ss').length := by rw [List.length_append]; omega
    rw [show (ss ++ ss').getD i default = (ss ++ ss')[i] by simp only [List.getD, List.getElem?_eq_getElem hi', Option.getD_some]]; exact List.getElem_mem hi')
  have CE := Lib.hid (p := ∀ v : Bool, (v = true ↔ AgreeP ss (rs.map (·.cs)) ss' (rs'.map (·.cs)) last) → AgE ss (rs.map (·.cs)) ss' (rs'.map (·.cs)) last (.returned (.bool v))) (fun v hv => ⟨v, rfl, hv⟩)
  have NO := Lib.hid (p := ∀ d i : Nat, (d : Int) ≤ L → i < ln + ln' → cellT ss (rs.map (·.cs)) ((ss ++ ss').getD i default) d ≠ cellT ss' (rs'.map (·.cs)) ((ss ++ ss').getD i default) d → AgE ss (rs.map (·.cs)) ss' (rs'.map (·.cs)) last (.returned (.bool false))) (fun d i h1 h2 h3 => CE.out false ⟨(fun q => by cases q), fun q => absurd (AGR.out.2 q d h1 _ (GETN.out i h2)) h3⟩)
  have YES := Lib.hid (p := (∀ d : Nat, (d : Int) ≤ L → ∀ i, i < ln + ln' → cellT ss (rs.map (·.cs)) ((ss ++ ss').getD i default) d = cellT ss' (rs'.map (·.cs)) ((ss ++ ss').getD i default) d) → AgE ss (rs.map (·.cs)) ss' (rs'.map (·.cs)) last (.returned (.bool true))) (fun g => CE.out true ⟨fun _ => AGR.out.1 (fun d hd n hn => by
    obtain ⟨i, hi, rfl⟩ := List.getElem_of_mem hn
    have hi2 : i < ln + ln' := by rw [List.length_append] at hi; omega
    have := g d hd i hi2
    rwa [show (ss ++ ss').getD i default = (ss ++ ss')[i] by simp only [List.getD, List.getElem?_eq_getElem hi, Option.getD_some]] at this), fun _ => rfl⟩)
  have KA := Lib.hid (fun W s d hd (G : GZ w W an ar an' ar' ln cn lr cr ln' cn' lr' cr' ss ss' rs rs') => rCell_any an ar ln cn lr cr d s ss rs W G.nl G.rl hd)
  have KB := Lib.hid (fun W s d hd (G : GZ w W an ar an' ar' ln cn lr cr ln' cn' lr' cr' ss ss' rs rs') => rCell_any an' ar' ln' cn' lr' cr' d s ss' rs' W G.nl' G.rl' hd)
  generalize AgE ss (rs.map (·.cs)) ss' (rs'.map (·.cs)) last = Z at *
  clear CE AGR
  obtain ⟨CA, hCA⟩ : ∃ CA, cellT ss (rs.map (·.cs)) = CA := ⟨_, rfl⟩
  obtain ⟨CB, hCB⟩ : ∃ CB, cellT ss' (rs'.map (·.cs)) = CB := ⟨_, rfl⟩
  rw [hCA] at NO YES KA
  rw [hCB] at NO YES KB
  have W0 := Lib.hid (p := w0.ownsRow w0.heap.size 9 1 (.slice none 0 0) 0 []) ⟨rfl, .inl ⟨rfl, rfl⟩⟩
  have H0 := Lib.hid (nl_news G0.out.nl)
  have H1 := Lib.hid (fun W (d : Below w0.heap.size w0 W) => nl_news (G0.out.nl'.later d))
  have ML := Lib.hid (p := (ss.map Value.string).length = ln * 1) (by simp [sl])
  have ML' := Lib.hid (p := (ss'.map Value.string).length = ln' * 1) (by simp [sl'])
  have NR := Lib.hid (p := ∀ W v, World.ownsRow W w0.heap.size 9 1 v (0 + ln + ln') ([] ++ ss.map Value.string ++ ss'.map Value.string) → ∃ a c, v = .slice a (ln + ln') c ∧ (0 < ln + ln' → ∃ g, a = some ⟨g, 0, none⟩ ∧ g < W.heap.size ∧ ∀ i, i < ln + ln' → W.cell? ⟨g, i, none⟩ = some (.string ((ss ++ ss').getD i default)))) (fun W v o => by
    rw [Nat.zero_add, List.nil_append, ← List.map_append] at o
    exact names_row o)
  have PM := Lib.hid True.intro
  clear hCA hCB rl rl'
  rcases (show lr < lr' ∨ ¬ lr < lr' by omega) with hq | hq
  · have hM' : lr' = M := by rw [← hM]; simp [hq]
    subst hM'
    have q1 : (lr : Int) < (lr' : Int) := by omega
    by_cases hz : (lr' : Int) ≤ last
    · have hL' : (lr' : Int) - 1 = L := by rw [← hL]; simp [hz]
      subst hL'
      clear hM hL hq
      go_enter Tryd.func25, Tryd.ntmps25
      go_wp2_with (first
        | (have qq := PM; at_builtin; refine wp_appG Tryd.underlying22 infoS rfl (by decide) _ w0.heap.size (Nat.le_refl _) an ln cn (ss.map Value.string) ML.out H0.out hn (strs_one ss) rfl _ _ rfl _ 0 [] rfl W0.out rfl (by unfold maxLen; omega) (by omega) ?_; intro v1 w1 h1 h2; have O1 := Lib.hid h1; have B1 := Lib.hid ((Below.refl w0.heap.size w0).grown h2 (Nat.le_refl _) (fun k e => (W0.out.lt k e).1)); clear h1 h2 PM qq a0 a1 b0 b1; obtain ⟨a0, a1, b0, b1, _⟩ := G0.out.later B1.out)
        | (at_builtin; refine wp_appG Tryd.underlying22 infoS rfl (by decide) _ w0.heap.size B1.out.size an' ln' cn' (ss'.map Value.string) ML'.out (H1.out _ B1.out) hn' (strs_one ss') rfl _ _ rfl _ (0 + ln) ([] ++ ss.map Value.string) rfl O1.out rfl (by unfold maxLen; omega) (by omega) ?_; intro v2 w2 h1 h2; obtain ⟨aN, cN, rfl, hN⟩ := NR.out _ _ h1; have HN := Lib.hid hN; have B2 := Lib.hid (B1.out.grown h2 B1.out.size (fun k e => (O1.out.lt k e).1)); clear h1 h2 hN a0 a1 b0 b1; obtain ⟨a0, a1, b0, b1, _⟩ := G0.out.later B2.out))
      have G2 := Lib.hid (G0.out.later B2.out)
      clear a0 a1 b0 b1
      go_loopw [9] (fun t wr => ∃ d : Nat, d ≤ lr' ∧ t = .int .i64 d ∧ RowKit.Hid (∀ d' : Nat, d' < d → ∀ i, i < ln + ln' → CA ((ss ++ ss').getD i default) d' = CB ((ss ++ ss').getD i default) d') ∧ Below w2.heap.size w2 wr) (fun t _ => lr' - (intOf t).toNat)
      case atStart => exact ⟨0, by omega, rfl, fun d hd => absurd hd (by omega), Below.refl _ _⟩
      case round =>
        rename World => wr
        obtain ⟨d, hd, rfl, hG, hB⟩ := hrel
        have BB := Lib.hid hB
        have GR := Lib.hid (G2.out.later hB)
        by_cases hdl : (d : Int) ≤ (lr' : Int) - 1
        · have dm : d < lr' := by omega
          have NXD := Lib.hid (p := (∀ i, i < ln + ln' → CA ((ss ++ ss').getD i default) d = CB ((ss ++ ss').getD i default) d) → ∀ d' : Nat, d' < d + 1 → ∀ i, i < ln + ln' → CA ((ss ++ ss').getD i default) d' = CB ((ss ++ ss').getD i default) d') (fun g d' hd' => by
            rcases (show d' < d ∨ d' = d by omega) with q | q
            · exact hG.out d' q
            · rw [q]; exact g)
          have NOD := Lib.hid (fun i => NO.out d i hdl)
          clear hB hG
          go_wp2
          go_loopw [10] (fun t ws => ∃ i : Nat, i ≤ ln + ln' ∧ t = .int .i64 i ∧ RowKit.Hid (∀ i' : Nat, i' < i → CA ((ss ++ ss').getD i' default) d = CB ((ss ++ ss').getD i' default) d) ∧ Below w2.heap.size w2 ws) (fun t _ => ln + ln' - (intOf t).toNat)
          case atStart => exact ⟨0, by omega, rfl, fun c hc => absurd hc (by omega), BB.out⟩
          case round =>
            rename World => ws
            obtain ⟨i, hi, rfl, hH, hC⟩ := hrel
            have CBB := Lib.hid hC
            by_cases hil : i < ln + ln'
            · obtain ⟨g, rfl, hg, hcs⟩ := HN.out (by omega)
              have n0 := (hC.cell (p := ⟨g, i, none⟩) hg).trans (hcs i hil)
              have GS := Lib.hid (p := GZ w ws.drew an ar an' ar' ln cn lr cr ln' cn' lr' cr' ss ss' rs rs') (G2.out.later hC.drew)
              obtain ⟨a0, a1, b0, b1, _⟩ := G2.out.later hC
              have ic : (i : Int) < (ln : Int) + (ln' : Int) := by omega
              have NXI := Lib.hid (p := CA ((ss ++ ss').getD i default) d = CB ((ss ++ ss').getD i default) d → ∀ i' : Nat, i' < i + 1 → CA ((ss ++ ss').getD i' default) d = CB ((ss ++ ss').getD i' default) d) (fun g i' hi' => by
                rcases (show i' < i ∨ i' = i by omega) with q | q
                · exact hH.out i' q
                · rw [q]; exact g)
              have NOX := Lib.hid (NOD.out i hil)
              have BD := Lib.hid (p := Below w2.heap.size w2 ws.drew) hC.drew
              have NM := Lib.hid (fun W (d : Below w2.heap.size w2 W) => (d.cell (p := ⟨g, i, none⟩) hg).trans (hcs i hil))
              have LA := Lib.hid (fun W (G : GZ w W an ar an' ar' ln cn lr cr ln' cn' lr' cr' ss ss' rs rs') => KA.out W ((ss ++ ss').getD i default) d (by omega) G)
              have LB := Lib.hid (fun W (G : GZ w W an ar an' ar' ln cn lr cr ln' cn' lr' cr' ss ss' rs rs') => KB.out W ((ss ++ ss').getD i default) d (by omega) G)
              clear hcs hC hH
              generalize (ss ++ ss').getD i default = s at *
              generalize CA s d = x at *
              generalize CB s d = y at *
              obtain ⟨xh, xv⟩ := x
              obtain ⟨yh, yv⟩ := y
              simp only at LA LB NXI NOX
              by_cases hxy : xh = yh ∧ xv = yv
              · obtain ⟨rfl, rfl⟩ := hxy
                have Y := Lib.hid (NXI.out rfl)
                go_wp2
                go_region_held3 (fun w' => w'.cell? ⟨w.heap.size, 0, none⟩ = some (.slice an ln cn) ∧ w'.cell? ⟨w.heap.size, 1, none⟩ = some (.slice ar lr cr) ∧ w'.cell? ⟨w.heap.size + 1, 0, none⟩ = some (.slice an' ln' cn') ∧ w'.cell? ⟨w.heap.size + 1, 1, none⟩ = some (.slice ar' lr' cr') ∧ w'.cell? ⟨g, i, none⟩ = some (.string s))
                  (refine ⟨?_, ?_, ?_, ?_, ?_⟩ <;> first | assumption | (go_simp; done))
                  (first
                  | (go_at_call 42; with_reducible show Calls _ _ #[.agg #[.slice an ln cn, .slice ar lr cr], _, _] _ _; refine (LA.out _ GS.out).mono ?_; rintro e wx ⟨rfl, hx⟩; have GT := Lib.hid (GS.out.later hx); have BE := Lib.hid (BD.out.trans (hx.mono BD.out.size)); clear hx GS BD a0 a1 b0 b1 n0; have GS := GT; have BD := BE; obtain ⟨a0, a1, b0, b1, _⟩ := id GS.out; have n0 := NM.out _ BD.out; clear GT BE)
                  | (go_at_call 42; with_reducible show Calls _ _ #[.agg #[.slice an' ln' cn', .slice ar' lr' cr'], _, _] _ _; refine (LB.out _ GS.out).mono ?_; rintro e wx ⟨rfl, hx⟩; have GT := Lib.hid (GS.out.later hx); have BE := Lib.hid (BD.out.trans (hx.mono BD.out.size)); clear hx GS BD a0 a1 b0 b1 n0; have GS := GT; have BD := BE; obtain ⟨a0, a1, b0, b1, _⟩ := id GS.out; have n0 := NM.out _ BD.out; clear GT BE))
                all_goals
                  go_wp2
                  go_roundw
                  case rel => exact ⟨i + 1, by omega, by go_num, Y.out, BD.out⟩
                  case measure => simp [intOf]; omega
              · have Y := Lib.hid (NOX.out (fun q => by injection q with q1 q2; exact hxy ⟨q1, q2⟩))
                by_cases hh : xh = yh
                · subst hh
                  have hv : (xv == yv) = false := by rw [beq_eq_false_iff_ne]; exact fun e2 => hxy ⟨rfl, e2⟩
                  have hv2 : ¬ xv = yv := fun e2 => hxy ⟨rfl, e2⟩
                  clear hxy
                  cases xh
                  · skip
                    go_wp2
                    go_region_held3 (fun w' => w'.cell? ⟨w.heap.size, 0, none⟩ = some (.slice an ln cn) ∧ w'.cell? ⟨w.heap.size, 1, none⟩ = some (.slice ar lr cr) ∧ w'.cell? ⟨w.heap.size + 1, 0, none⟩ = some (.slice an' ln' cn') ∧ w'.cell? ⟨w.heap.size + 1, 1, none⟩ = some (.slice ar' lr' cr') ∧ w'.cell? ⟨g, i, none⟩ = some (.string s))
                  (refine ⟨?_, ?_, ?_, ?_, ?_⟩ <;> first | assumption | (go_simp; done))
                  (first
                  | (go_at_call 42; with_reducible show Calls _ _ #[.agg #[.slice an ln cn, .slice ar lr cr], _, _] _ _; refine (LA.out _ GS.out).mono ?_; rintro e wx ⟨rfl, hx⟩; have GT := Lib.hid (GS.out.later hx); have BE := Lib.hid (BD.out.trans (hx.mono BD.out.size)); clear hx GS BD a0 a1 b0 b1 n0; have GS := GT; have BD := BE; obtain ⟨a0, a1, b0, b1, _⟩ := id GS.out; have n0 := NM.out _ BD.out; clear GT BE)
                  | (go_at_call 42; with_reducible show Calls _ _ #[.agg #[.slice an' ln' cn', .slice ar' lr' cr'], _, _] _ _; refine (LB.out _ GS.out).mono ?_; rintro e wx ⟨rfl, hx⟩; have GT := Lib.hid (GS.out.later hx); have BE := Lib.hid (BD.out.trans (hx.mono BD.out.size)); clear hx GS BD a0 a1 b0 b1 n0; have GS := GT; have BD := BE; obtain ⟨a0, a1, b0, b1, _⟩ := id GS.out; have n0 := NM.out _ BD.out; clear GT BE))
                    all_goals go_wp2
                    all_goals go_ret
                    all_goals exact ⟨Y.out, GS.out.bel⟩
                  · skip
                    go_wp2
                    go_region_held3 (fun w' => w'.cell? ⟨w.heap.size, 0, none⟩ = some (.slice an ln cn) ∧ w'.cell? ⟨w.heap.size, 1, none⟩ = some (.slice ar lr cr) ∧ w'.cell? ⟨w.heap.size + 1, 0, none⟩ = some (.slice an' ln' cn') ∧ w'.cell? ⟨w.heap.size + 1, 1, none⟩ = some (.slice ar' lr' cr') ∧ w'.cell? ⟨g, i, none⟩ = some (.string s))
                  (refine ⟨?_, ?_, ?_, ?_, ?_⟩ <;> first | assumption | (go_simp; done))
                  (first
                  | (go_at_call 42; with_reducible show Calls _ _ #[.agg #[.slice an ln cn, .slice ar lr cr], _, _] _ _; refine (LA.out _ GS.out).mono ?_; rintro e wx ⟨rfl, hx⟩; have GT := Lib.hid (GS.out.later hx); have BE := Lib.hid (BD.out.trans (hx.mono BD.out.size)); clear hx GS BD a0 a1 b0 b1 n0; have GS := GT; have BD := BE; obtain ⟨a0, a1, b0, b1, _⟩ := id GS.out; have n0 := NM.out _ BD.out; clear GT BE)
                  | (go_at_call 42; with_reducible show Calls _ _ #[.agg #[.slice an' ln' cn', .slice ar' lr' cr'], _, _] _ _; refine (LB.out _ GS.out).mono ?_; rintro e wx ⟨rfl, hx⟩; have GT := Lib.hid (GS.out.later hx); have BE := Lib.hid (BD.out.trans (hx.mono BD.out.size)); clear hx GS BD a0 a1 b0 b1 n0; have GS := GT; have BD := BE; obtain ⟨a0, a1, b0, b1, _⟩ := id GS.out; have n0 := NM.out _ BD.out; clear GT BE))
                    all_goals go_wp2
                    all_goals go_ret
                    all_goals exact ⟨Y.out, GS.out.bel⟩
                · clear hxy
                  cases xh <;> cases yh
                  · exact absurd rfl hh
                  · skip
                    go_wp2
                    go_region_held3 (fun w' => w'.cell? ⟨w.heap.size, 0, none⟩ = some (.slice an ln cn) ∧ w'.cell? ⟨w.heap.size, 1, none⟩ = some (.slice ar lr cr) ∧ w'.cell? ⟨w.heap.size + 1, 0, none⟩ = some (.slice an' ln' cn') ∧ w'.cell? ⟨w.heap.size + 1, 1, none⟩ = some (.slice ar' lr' cr') ∧ w'.cell? ⟨g, i, none⟩ = some (.string s))
                  (refine ⟨?_, ?_, ?_, ?_, ?_⟩ <;> first | assumption | (go_simp; done))
                  (first
                  | (go_at_call 42; with_reducible show Calls _ _ #[.agg #[.slice an ln cn, .slice ar lr cr], _, _] _ _; refine (LA.out _ GS.out).mono ?_; rintro e wx ⟨rfl, hx⟩; have GT := Lib.hid (GS.out.later hx); have BE := Lib.hid (BD.out.trans (hx.mono BD.out.size)); clear hx GS BD a0 a1 b0 b1 n0; have GS := GT; have BD := BE; obtain ⟨a0, a1, b0, b1, _⟩ := id GS.out; have n0 := NM.out _ BD.out; clear GT BE)
                  | (go_at_call 42; with_reducible show Calls _ _ #[.agg #[.slice an' ln' cn', .slice ar' lr' cr'], _, _] _ _; refine (LB.out _ GS.out).mono ?_; rintro e wx ⟨rfl, hx⟩; have GT := Lib.hid (GS.out.later hx); have BE := Lib.hid (BD.out.trans (hx.mono BD.out.size)); clear hx GS BD a0 a1 b0 b1 n0; have GS := GT; have BD := BE; obtain ⟨a0, a1, b0, b1, _⟩ := id GS.out; have n0 := NM.out _ BD.out; clear GT BE))
                    all_goals go_wp2
                    all_goals go_ret
                    all_goals exact ⟨Y.out, GS.out.bel⟩
                  · skip
                    go_wp2
                    go_region_held3 (fun w' => w'.cell? ⟨w.heap.size, 0, none⟩ = some (.slice an ln cn) ∧ w'.cell? ⟨w.heap.size, 1, none⟩ = some (.slice ar lr cr) ∧ w'.cell? ⟨w.heap.size + 1, 0, none⟩ = some (.slice an' ln' cn') ∧ w'.cell? ⟨w.heap.size + 1, 1, none⟩ = some (.slice ar' lr' cr') ∧ w'.cell? ⟨g, i, none⟩ = some (.string s))
                  (refine ⟨?_, ?_, ?_, ?_, ?_⟩ <;> first | assumption | (go_simp; done))
                  (first
                  | (go_at_call 42; with_reducible show Calls _ _ #[.agg #[.slice an ln cn, .slice ar lr cr], _, _] _ _; refine (LA.out _ GS.out).mono ?_; rintro e wx ⟨rfl, hx⟩; have GT := Lib.hid (GS.out.later hx); have BE := Lib.hid (BD.out.trans (hx.mono BD.out.size)); clear hx GS BD a0 a1 b0 b1 n0; have GS := GT; have BD := BE; obtain ⟨a0, a1, b0, b1, _⟩ := id GS.out; have n0 := NM.out _ BD.out; clear GT BE)
                  | (go_at_call 42; with_reducible show Calls _ _ #[.agg #[.slice an' ln' cn', .slice ar' lr' cr'], _, _] _ _; refine (LB.out _ GS.out).mono ?_; rintro e wx ⟨rfl, hx⟩; have GT := Lib.hid (GS.out.later hx); have BE := Lib.hid (BD.out.trans (hx.mono BD.out.size)); clear hx GS BD a0 a1 b0 b1 n0; have GS := GT; have BD := BE; obtain ⟨a0, a1, b0, b1, _⟩ := id GS.out; have n0 := NM.out _ BD.out; clear GT BE))
                    all_goals go_wp2
                    all_goals go_ret
                    all_goals exact ⟨Y.out, GS.out.bel⟩
                  · exact absurd rfl hh
            · obtain rfl : i = ln + ln' := by omega
              have Y := Lib.hid (NXD.out hH.out)
              have nc : ¬ ((ln : Int) + (ln' : Int)) < (ln : Int) + (ln' : Int) := by omega
              clear hC hH
              go_wp2
              go_roundw
              case rel => exact ⟨d + 1, by omega, by go_num, Y.out, CBB.out⟩
              case measure => simp [intOf]; omega
        · have Y := Lib.hid (YES.out (fun d' hd' => hG.out d' (by omega)))
          clear hB hG
          go_wp2
          go_ret
          exact ⟨Y.out, GR.out.bel⟩
    · have hL' : last = L := by rw [← hL]; simp [hz]
      subst hL'
      clear hM hL hq
      go_enter Tryd.func25, Tryd.ntmps25
      go_wp2_with (first
        | (have qq := PM; at_builtin; refine wp_appG Tryd.underlying22 infoS rfl (by decide) _ w0.heap.size (Nat.le_refl _) an ln cn (ss.map Value.string) ML.out H0.out hn (strs_one ss) rfl _ _ rfl _ 0 [] rfl W0.out rfl (by unfold maxLen; omega) (by omega) ?_; intro v1 w1 h1 h2; have O1 := Lib.hid h1; have B1 := Lib.hid ((Below.refl w0.heap.size w0).grown h2 (Nat.le_refl _) (fun k e => (W0.out.lt k e).1)); clear h1 h2 PM qq a0 a1 b0 b1; obtain ⟨a0, a1, b0, b1, _⟩ := G0.out.later B1.out)
        | (at_builtin; refine wp_appG Tryd.underlying22 infoS rfl (by decide) _ w0.heap.size B1.out.size an' ln' cn' (ss'.map Value.string) ML'.out (H1.out _ B1.out) hn' (strs_one ss') rfl _ _ rfl _ (0 + ln) ([] ++ ss.map Value.string) rfl O1.out rfl (by unfold maxLen; omega) (by omega) ?_; intro v2 w2 h1 h2; obtain ⟨aN, cN, rfl, hN⟩ := NR.out _ _ h1; have HN := Lib.hid hN; have B2 := Lib.hid (B1.out.grown h2 B1.out.size (fun k e => (O1.out.lt k e).1)); clear h1 h2 hN a0 a1 b0 b1; obtain ⟨a0, a1, b0, b1, _⟩ := G0.out.later B2.out))
      have G2 := Lib.hid (G0.out.later B2.out)
      clear a0 a1 b0 b1
      go_loopw [9] (fun t wr => ∃ d : Nat, d ≤ lr' ∧ t = .int .i64 d ∧ RowKit.Hid (∀ d' : Nat, d' < d → ∀ i, i < ln + ln' → CA ((ss ++ ss').getD i default) d' = CB ((ss ++ ss').getD i default) d') ∧ Below w2.heap.size w2 wr) (fun t _ => lr' - (intOf t).toNat)
      case atStart => exact ⟨0, by omega, rfl, fun d hd => absurd hd (by omega), Below.refl _ _⟩
      case round =>
        rename World => wr
        obtain ⟨d, hd, rfl, hG, hB⟩ := hrel
        have BB := Lib.hid hB
        have GR := Lib.hid (G2.out.later hB)
        by_cases hdl : (d : Int) ≤ last
        · have dm : d < lr' := by omega
          have NXD := Lib.hid (p := (∀ i, i < ln + ln' → CA ((ss ++ ss').getD i default) d = CB ((ss ++ ss').getD i default) d) → ∀ d' : Nat, d' < d + 1 → ∀ i, i < ln + ln' → CA ((ss ++ ss').getD i default) d' = CB ((ss ++ ss').getD i default) d') (fun g d' hd' => by
            rcases (show d' < d ∨ d' = d by omega) with q | q
            · exact hG.out d' q
            · rw [q]; exact g)
          have NOD := Lib.hid (fun i => NO.out d i hdl)
          clear hB hG
          go_wp2
          go_loopw [10] (fun t ws => ∃ i : Nat, i ≤ ln + ln' ∧ t = .int .i64 i ∧ RowKit.Hid (∀ i' : Nat, i' < i → CA ((ss ++ ss').getD i' default) d = CB ((ss ++ ss').getD i' default) d) ∧ Below w2.heap.size w2 ws) (fun t _ => ln + ln' - (intOf t).toNat)
          case atStart => exact ⟨0, by omega, rfl, fun c hc => absurd hc (by omega), BB.out⟩
          case round =>
            rename World => ws
            obtain ⟨i, hi, rfl, hH, hC⟩ := hrel
            have CBB := Lib.hid hC
            by_cases hil : i < ln + ln'
            · obtain ⟨g, rfl, hg, hcs⟩ := HN.out (by omega)
              have n0 := (hC.cell (p := ⟨g, i, none⟩) hg).trans (hcs i hil)
              have GS := Lib.hid (p := GZ w ws.drew an ar an' ar' ln cn lr cr ln' cn' lr' cr' ss ss' rs rs') (G2.out.later hC.drew)
              obtain ⟨a0, a1, b0, b1, _⟩ := G2.out.later hC
              have ic : (i : Int) < (ln : Int) + (ln' : Int) := by omega
              have NXI := Lib.hid (p := CA ((ss ++ ss').getD i default) d = CB ((ss ++ ss').getD i default) d → ∀ i' : Nat, i' < i + 1 → CA ((ss ++ ss').getD i' default) d = CB ((ss ++ ss').getD i' default) d) (fun g i' hi' => by
                rcases (show i' < i ∨ i' = i by omega) with q | q
                · exact hH.out i' q
                · rw [q]; exact g)
              have NOX := Lib.hid (NOD.out i hil)
              have BD := Lib.hid (p := Below w2.heap.size w2 ws.drew) hC.drew
              have NM := Lib.hid (fun W (d : Below w2.heap.size w2 W) => (d.cell (p := ⟨g, i, none⟩) hg).trans (hcs i hil))
              have LA := Lib.hid (fun W (G : GZ w W an ar an' ar' ln cn lr cr ln' cn' lr' cr' ss ss' rs rs') => KA.out W ((ss ++ ss').getD i default) d (by omega) G)
              have LB := Lib.hid (fun W (G : GZ w W an ar an' ar' ln cn lr cr ln' cn' lr' cr' ss ss' rs rs') => KB.out W ((ss ++ ss').getD i default) d (by omega) G)
              clear hcs hC hH
              generalize (ss ++ ss').getD i default = s at *
              generalize CA s d = x at *
              generalize CB s d = y at *
              obtain ⟨xh, xv⟩ := x
              obtain ⟨yh, yv⟩ := y
              simp only at LA LB NXI NOX
              by_cases hxy : xh = yh ∧ xv = yv
              · obtain ⟨rfl, rfl⟩ := hxy
                have Y := Lib.hid (NXI.out rfl)
                go_wp2
                go_region_held3 (fun w' => w'.cell? ⟨w.heap.size, 0, none⟩ = some (.slice an ln cn) ∧ w'.cell? ⟨w.heap.size, 1, none⟩ = some (.slice ar lr cr) ∧ w'.cell? ⟨w.heap.size + 1, 0, none⟩ = some (.slice an' ln' cn') ∧ w'.cell? ⟨w.heap.size + 1, 1, none⟩ = some (.slice ar' lr' cr') ∧ w'.cell? ⟨g, i, none⟩ = some (.string s))
                  (refine ⟨?_, ?_, ?_, ?_, ?_⟩ <;> first | assumption | (go_simp; done))
                  (first
                  | (go_at_call 42; with_reducible show Calls _ _ #[.agg #[.slice an ln cn, .slice ar lr cr], _, _] _ _; refine (LA.out _ GS.out).mono ?_; rintro e wx ⟨rfl, hx⟩; have GT := Lib.hid (GS.out.later hx); have BE := Lib.hid (BD.out.trans (hx.mono BD.out.size)); clear hx GS BD a0 a1 b0 b1 n0; have GS := GT; have BD := BE; obtain ⟨a0, a1, b0, b1, _⟩ := id GS.out; have n0 := NM.out _ BD.out; clear GT BE)
                  | (go_at_call 42; with_reducible show Calls _ _ #[.agg #[.slice an' ln' cn', .slice ar' lr' cr'], _, _] _ _; refine (LB.out _ GS.out).mono ?_; rintro e wx ⟨rfl, hx⟩; have GT := Lib.hid (GS.out.later hx); have BE := Lib.hid (BD.out.trans (hx.mono BD.out.size)); clear hx GS BD a0 a1 b0 b1 n0; have GS := GT; have BD := BE; obtain ⟨a0, a1, b0, b1, _⟩ := id GS.out; have n0 := NM.out _ BD.out; clear GT BE))
                all_goals
                  go_wp2
                  go_roundw
                  case rel => exact ⟨i + 1, by omega, by go_num, Y.out, BD.out⟩
                  case measure => simp [intOf]; omega
              · have Y := Lib.hid (NOX.out (fun q => by injection q with q1 q2; exact hxy ⟨q1, q2⟩))
                by_cases hh : xh = yh
                · subst hh
                  have hv : (xv == yv) = false := by rw [beq_eq_false_iff_ne]; exact fun e2 => hxy ⟨rfl, e2⟩
                  have hv2 : ¬ xv = yv := fun e2 => hxy ⟨rfl, e2⟩
                  clear hxy
                  cases xh
                  · skip
                    go_wp2
                    go_region_held3 (fun w' => w'.cell? ⟨w.heap.size, 0, none⟩ = some (.slice an ln cn) ∧ w'.cell? ⟨w.heap.size, 1, none⟩ = some (.slice ar lr cr) ∧ w'.cell? ⟨w.heap.size + 1, 0, none⟩ = some (.slice an' ln' cn') ∧ w'.cell? ⟨w.heap.size + 1, 1, none⟩ = some (.slice ar' lr' cr') ∧ w'.cell? ⟨g, i, none⟩ = some (.string s))
                  (refine ⟨?_, ?_, ?_, ?_, ?_⟩ <;> first | assumption | (go_simp; done))
                  (first
                  | (go_at_call 42; with_reducible show Calls _ _ #[.agg #[.slice an ln cn, .slice ar lr cr], _, _] _ _; refine (LA.out _ GS.out).mono ?_; rintro e wx ⟨rfl, hx⟩; have GT := Lib.hid (GS.out.later hx); have BE := Lib.hid (BD.out.trans (hx.mono BD.out.size)); clear hx GS BD a0 a1 b0 b1 n0; have GS := GT; have BD := BE; obtain ⟨a0, a1, b0, b1, _⟩ := id GS.out; have n0 := NM.out _ BD.out; clear GT BE)
                  | (go_at_call 42; with_reducible show Calls _ _ #[.agg #[.slice an' ln' cn', .slice ar' lr' cr'], _, _] _ _; refine (LB.out _ GS.out).mono ?_; rintro e wx ⟨rfl, hx⟩; have GT := Lib.hid (GS.out.later hx); have BE := Lib.hid (BD.out.trans (hx.mono BD.out.size)); clear hx GS BD a0 a1 b0 b1 n0; have GS := GT; have BD := BE; obtain ⟨a0, a1, b0, b1, _⟩ := id GS.out; have n0 := NM.out _ BD.out; clear GT BE))
                    all_goals go_wp2
                    all_goals go_ret
                    all_goals exact ⟨Y.out, GS.out.bel⟩
                  · skip
                    go_wp2
                    go_region_held3 (fun w' => w'.cell? ⟨w.heap.size, 0, none⟩ = some (.slice an ln cn) ∧ w'.cell? ⟨w.heap.size, 1, none⟩ = some (.slice ar lr cr) ∧ w'.cell? ⟨w.heap.size + 1, 0, none⟩ = some (.slice an' ln' cn') ∧ w'.cell? ⟨w.heap.size + 1, 1, none⟩ = some (.slice ar' lr' cr') ∧ w'.cell? ⟨g, i, none⟩ = some (.string s))
                  (refine ⟨?_, ?_, ?_, ?_, ?_⟩ <;> first | assumption | (go_simp; done))
                  (first
                  | (go_at_call 42; with_reducible show Calls _ _ #[.agg #[.slice an ln cn, .slice ar lr cr], _, _] _ _; refine (LA.out _ GS.out).mono ?_; rintro e wx ⟨rfl, hx⟩; have GT := Lib.hid (GS.out.later hx); have BE := Lib.hid (BD.out.trans (hx.mono BD.out.size)); clear hx GS BD a0 a1 b0 b1 n0; have GS := GT; have BD := BE; obtain ⟨a0, a1, b0, b1, _⟩ := id GS.out; have n0 := NM.out _ BD.out; clear GT BE)
                  | (go_at_call 42; with_reducible show Calls _ _ #[.agg #[.slice an' ln' cn', .slice ar' lr' cr'], _, _] _ _; refine (LB.out _ GS.out).mono ?_; rintro e wx ⟨rfl, hx⟩; have GT := Lib.hid (GS.out.later hx); have BE := Lib.hid (BD.out.trans (hx.mono BD.out.size)); clear hx GS BD a0 a1 b0 b1 n0; have GS := GT; have BD := BE; obtain ⟨a0, a1, b0, b1, _⟩ := id GS.out; have n0 := NM.out _ BD.out; clear GT BE))
                    all_goals go_wp2
                    all_goals go_ret
                    all_goals exact ⟨Y.out, GS.out.bel⟩
                · clear hxy
                  cases xh <;> cases yh
                  · exact absurd rfl hh
                  · skip
                    go_wp2
                    go_region_held3 (fun w' => w'.cell? ⟨w.heap.size, 0, none⟩ = some (.slice an ln cn) ∧ w'.cell? ⟨w.heap.size, 1, none⟩ = some (.slice ar lr cr) ∧ w'.cell? ⟨w.heap.size + 1, 0, none⟩ = some (.slice an' ln' cn') ∧ w'.cell? ⟨w.heap.size + 1, 1, none⟩ = some (.slice ar' lr' cr') ∧ w'.cell? ⟨g, i, none⟩ = some (.string s))
                  (refine ⟨?_, ?_, ?_, ?_, ?_⟩ <;> first | assumption | (go_simp; done))
                  (first
                  | (go_at_call 42; with_reducible show Calls _ _ #[.agg #[.slice an ln cn, .slice ar lr cr], _, _] _ _; refine (LA.out _ GS.out).mono ?_; rintro e wx ⟨rfl, hx⟩; have GT := Lib.hid (GS.out.later hx); have BE := Lib.hid (BD.out.trans (hx.mono BD.out.size)); clear hx GS BD a0 a1 b0 b1 n0; have GS := GT; have BD := BE; obtain ⟨a0, a1, b0, b1, _⟩ := id GS.out; have n0 := NM.out _ BD.out; clear GT BE)
                  | (go_at_call 42; with_reducible show Calls _ _ #[.agg #[.slice an' ln' cn', .slice ar' lr' cr'], _, _] _ _; refine (LB.out _ GS.out).mono ?_; rintro e wx ⟨rfl, hx⟩; have GT := Lib.hid (GS.out.later hx); have BE := Lib.hid (BD.out.trans (hx.mono BD.out.size)); clear hx GS BD a0 a1 b0 b1 n0; have GS := GT; have BD := BE; obtain ⟨a0, a1, b0, b1, _⟩ := id GS.out; have n0 := NM.out _ BD.out; clear GT BE))
                    all_goals go_wp2
                    all_goals go_ret
                    all_goals exact ⟨Y.out, GS.out.bel⟩
                  · skip
                    go_wp2
                    go_region_held3 (fun w' => w'.cell? ⟨w.heap.size, 0, none⟩ = some (.slice an ln cn) ∧ w'.cell? ⟨w.heap.size, 1, none⟩ = some (.slice ar lr cr) ∧ w'.cell? ⟨w.heap.size + 1, 0, none⟩ = some (.slice an' ln' cn') ∧ w'.cell? ⟨w.heap.size + 1, 1, none⟩ = some (.slice ar' lr' cr') ∧ w'.cell? ⟨g, i, none⟩ = some (.string s))
                  (refine ⟨?_, ?_, ?_, ?_, ?_⟩ <;> first | assumption | (go_simp; done))
                  (first
                  | (go_at_call 42; with_reducible show Calls _ _ #[.agg #[.slice an ln cn, .slice ar lr cr], _, _] _ _; refine (LA.out _ GS.out).mono ?_; rintro e wx ⟨rfl, hx⟩; have GT := Lib.hid (GS.out.later hx); have BE := Lib.hid (BD.out.trans (hx.mono BD.out.size)); clear hx GS BD a0 a1 b0 b1 n0; have GS := GT; have BD := BE; obtain ⟨a0, a1, b0, b1, _⟩ := id GS.out; have n0 := NM.out _ BD.out; clear GT BE)
                  | (go_at_call 42; with_reducible show Calls _ _ #[.agg #[.slice an' ln' cn', .slice ar' lr' cr'], _, _] _ _; refine (LB.out _ GS.out).mono ?_; rintro e wx ⟨rfl, hx⟩; have GT := Lib.hid (GS.out.later hx); have BE := Lib.hid (BD.out.trans (hx.mono BD.out.size)); clear hx GS BD a0 a1 b0 b1 n0; have GS := GT; have BD := BE; obtain ⟨a0, a1, b0, b1, _⟩ := id GS.out; have n0 := NM.out _ BD.out; clear GT BE))
                    all_goals go_wp2
                    all_goals go_ret
                    all_goals exact ⟨Y.out, GS.out.bel⟩
                  · exact absurd rfl hh
            · obtain rfl : i = ln + ln' := by omega
              have Y := Lib.hid (NXD.out hH.out)
              have nc : ¬ ((ln : Int) + (ln' : Int)) < (ln : Int) + (ln' : Int) := by omega
              clear hC hH
              go_wp2
              go_roundw
              case rel => exact ⟨d + 1, by omega, by go_num, Y.out, CBB.out⟩
              case measure => simp [intOf]; omega
        · have Y := Lib.hid (YES.out (fun d' hd' => hG.out d' (by omega)))
          clear hB hG
          go_wp2
          go_ret
          exact ⟨Y.out, GR.out.bel⟩
  · have hM' : lr = M := by rw [← hM]; simp [hq]
    subst hM'
    have q1 : ¬ (lr : Int) < (lr' : Int) := by omega
    by_cases hz : (lr : Int) ≤ last
    · have hL' : (lr : Int) - 1 = L := by rw [← hL]; simp [hz]
      subst hL'
      clear hM hL hq
      go_enter Tryd.func25, Tryd.ntmps25
      go_wp2_with (first
        | (have qq := PM; at_builtin; refine wp_appG Tryd.underlying22 infoS rfl (by decide) _ w0.heap.size (Nat.le_refl _) an ln cn (ss.map Value.string) ML.out H0.out hn (strs_one ss) rfl _ _ rfl _ 0 [] rfl W0.out rfl (by unfold maxLen; omega) (by omega) ?_; intro v1 w1 h1 h2; have O1 := Lib.hid h1; have B1 := Lib.hid ((Below.refl w0.heap.size w0).grown h2 (Nat.le_refl _) (fun k e => (W0.out.lt k e).1)); clear h1 h2 PM qq a0 a1 b0 b1; obtain ⟨a0, a1, b0, b1, _⟩ := G0.out.later B1.out)
        | (at_builtin; refine wp_appG Tryd.underlying22 infoS rfl (by decide) _ w0.heap.size B1.out.size an' ln' cn' (ss'.map Value.string) ML'.out (H1.out _ B1.out) hn' (strs_one ss') rfl _ _ rfl _ (0 + ln) ([] ++ ss.map Value.string) rfl O1.out rfl (by unfold maxLen; omega) (by omega) ?_; intro v2 w2 h1 h2; obtain ⟨aN, cN, rfl, hN⟩ := NR.out _ _ h1; have HN := Lib.hid hN; have B2 := Lib.hid (B1.out.grown h2 B1.out.size (fun k e => (O1.out.lt k e).1)); clear h1 h2 hN a0 a1 b0 b1; obtain ⟨a0, a1, b0, b1, _⟩ := G0.out.later B2.out))
      have G2 := Lib.hid (G0.out.later B2.out)
      clear a0 a1 b0 b1
      go_loopw [9] (fun t wr => ∃ d : Nat, d ≤ lr ∧ t = .int .i64 d ∧ RowKit.Hid (∀ d' : Nat, d' < d → ∀ i, i < ln + ln' → CA ((ss ++ ss').getD i default) d' = CB ((ss ++ ss').getD i default) d') ∧ Below w2.heap.size w2 wr) (fun t _ => lr - (intOf t).toNat)
      case atStart => exact ⟨0, by omega, rfl, fun d hd => absurd hd (by omega), Below.refl _ _⟩
      case round =>
        rename World => wr
        obtain ⟨d, hd, rfl, hG, hB⟩ := hrel
        have BB := Lib.hid hB
        have GR := Lib.hid (G2.out.later hB)
        by_cases hdl : (d : Int) ≤ (lr : Int) - 1
        · have dm : d < lr := by omega
          have NXD := Lib.hid (p := (∀ i, i < ln + ln' → CA ((ss ++ ss').getD i default) d = CB ((ss ++ ss').getD i default) d) → ∀ d' : Nat, d' < d + 1 → ∀ i, i < ln + ln' → CA ((ss ++ ss').getD i default) d' = CB ((ss ++ ss').getD i default) d') (fun g d' hd' => by
            rcases (show d' < d ∨ d' = d by omega) with q | q
            · exact hG.out d' q
            · rw [q]; exact g)
          have NOD := Lib.hid (fun i => NO.out d i hdl)
          clear hB hG
          go_wp2
          go_loopw [10] (fun t ws => ∃ i : Nat, i ≤ ln + ln' ∧ t = .int .i64 i ∧ RowKit.Hid (∀ i' : Nat, i' < i → CA ((ss ++ ss').getD i' default) d = CB ((ss ++ ss').getD i' default) d) ∧ Below w2.heap.size w2 ws) (fun t _ => ln + ln' - (intOf t).toNat)
          case atStart => exact ⟨0, by omega, rfl, fun c hc => absurd hc (by omega), BB.out⟩
          case round =>
            rename World => ws
            obtain ⟨i, hi, rfl, hH, hC⟩ := hrel
            have CBB := Lib.hid hC
            by_cases hil : i < ln + ln'
            · obtain ⟨g, rfl, hg, hcs⟩ := HN.out (by omega)
              have n0 := (hC.cell (p := ⟨g, i, none⟩) hg).trans (hcs i hil)
              have GS := Lib.hid (p := GZ w ws.drew an ar an' ar' ln cn lr cr ln' cn' lr' cr' ss ss' rs rs') (G2.out.later hC.drew)
              obtain ⟨a0, a1, b0, b1, _⟩ := G2.out.later hC
              have ic : (i : Int) < (ln : Int) + (ln' : Int) := by omega
              have NXI := Lib.hid (p := CA ((ss ++ ss').getD i default) d = CB ((ss ++ ss').getD i default) d → ∀ i' : Nat, i' < i + 1 → CA ((ss ++ ss').getD i' default) d = CB ((ss ++ ss').getD i' default) d) (fun g i' hi' => by
                rcases (show i' < i ∨ i' = i by omega) with q | q
                · exact hH.out i' q
                · rw [q]; exact g)
              have NOX := Lib.hid (NOD.out i hil)
              have BD := Lib.hid (p := Below w2.heap.size w2 ws.drew) hC.drew
              have NM := Lib.hid (fun W (d : Below w2.heap.size w2 W) => (d.cell (p := ⟨g, i, none⟩) hg).trans (hcs i hil))
              have LA := Lib.hid (fun W (G : GZ w W an ar an' ar' ln cn lr cr ln' cn' lr' cr' ss ss' rs rs') => KA.out W ((ss ++ ss').getD i default) d (by omega) G)
              have LB := Lib.hid (fun W (G : GZ w W an ar an' ar' ln cn lr cr ln' cn' lr' cr' ss ss' rs rs') => KB.out W ((ss ++ ss').getD i default) d (by omega) G)
              clear hcs hC hH
              generalize (ss ++ ss').getD i default = s at *
              generalize CA s d = x at *
              generalize CB s d = y at *
              obtain ⟨xh, xv⟩ := x
              obtain ⟨yh, yv⟩ := y
              simp only at LA LB NXI NOX
              by_cases hxy : xh = yh ∧ xv = yv
              · obtain ⟨rfl, rfl⟩ := hxy
                have Y := Lib.hid (NXI.out rfl)
                go_wp2
                go_region_held3 (fun w' => w'.cell? ⟨w.heap.size, 0, none⟩ = some (.slice an ln cn) ∧ w'.cell? ⟨w.heap.size, 1, none⟩ = some (.slice ar lr cr) ∧ w'.cell? ⟨w.heap.size + 1, 0, none⟩ = some (.slice an' ln' cn') ∧ w'.cell? ⟨w.heap.size + 1, 1, none⟩ = some (.slice ar' lr' cr') ∧ w'.cell? ⟨g, i, none⟩ = some (.string s))
                  (refine ⟨?_, ?_, ?_, ?_, ?_⟩ <;> first | assumption | (go_simp; done))
                  (first
                  | (go_at_call 42; with_reducible show Calls _ _ #[.agg #[.slice an ln cn, .slice ar lr cr], _, _] _ _; refine (LA.out _ GS.out).mono ?_; rintro e wx ⟨rfl, hx⟩; have GT := Lib.hid (GS.out.later hx); have BE := Lib.hid (BD.out.trans (hx.mono BD.out.size)); clear hx GS BD a0 a1 b0 b1 n0; have GS := GT; have BD := BE; obtain ⟨a0, a1, b0, b1, _⟩ := id GS.out; have n0 := NM.out _ BD.out; clear GT BE)
                  | (go_at_call 42; with_reducible show Calls _ _ #[.agg #[.slice an' ln' cn', .slice ar' lr' cr'], _, _] _ _; refine (LB.out _ GS.out).mono ?_; rintro e wx ⟨rfl, hx⟩; have GT := Lib.hid (GS.out.later hx); have BE := Lib.hid (BD.out.trans (hx.mono BD.out.size)); clear hx GS BD a0 a1 b0 b1 n0; have GS := GT; have BD := BE; obtain ⟨a0, a1, b0, b1, _⟩ := id GS.out; have n0 := NM.out _ BD.out; clear GT BE))
                all_goals
                  go_wp2
                  go_roundw
                  case rel => exact ⟨i + 1, by omega, by go_num, Y.out, BD.out⟩
                  case measure => simp [intOf]; omega
              · have Y := Lib.hid (NOX.out (fun q => by injection q with q1 q2; exact hxy ⟨q1, q2⟩))
                by_cases hh : xh = yh
                · subst hh
                  have hv : (xv == yv) = false := by rw [beq_eq_false_iff_ne]; exact fun e2 => hxy ⟨rfl, e2⟩
                  have hv2 : ¬ xv = yv := fun e2 => hxy ⟨rfl, e2⟩
                  clear hxy
                  cases xh
                  · skip
                    go_wp2
                    go_region_held3 (fun w' => w'.cell? ⟨w.heap.size, 0, none⟩ = some (.slice an ln cn) ∧ w'.cell? ⟨w.heap.size, 1, none⟩ = some (.slice ar lr cr) ∧ w'.cell? ⟨w.heap.size + 1, 0, none⟩ = some (.slice an' ln' cn') ∧ w'.cell? ⟨w.heap.size + 1, 1, none⟩ = some (.slice ar' lr' cr') ∧ w'.cell? ⟨g, i, none⟩ = some (.string s))
                  (refine ⟨?_, ?_, ?_, ?_, ?_⟩ <;> first | assumption | (go_simp; done))
                  (first
                  | (go_at_call 42; with_reducible show Calls _ _ #[.agg #[.slice an ln cn, .slice ar lr cr], _, _] _ _; refine (LA.out _ GS.out).mono ?_; rintro e wx ⟨rfl, hx⟩; have GT := Lib.hid (GS.out.later hx); have BE := Lib.hid (BD.out.trans (hx.mono BD.out.size)); clear hx GS BD a0 a1 b0 b1 n0; have GS := GT; have BD := BE; obtain ⟨a0, a1, b0, b1, _⟩ := id GS.out; have n0 := NM.out _ BD.out; clear GT BE)
                  | (go_at_call 42; with_reducible show Calls _ _ #[.agg #[.slice an' ln' cn', .slice ar' lr' cr'], _, _] _ _; refine (LB.out _ GS.out).mono ?_; rintro e wx ⟨rfl, hx⟩; have GT := Lib.hid (GS.out.later hx); have BE := Lib.hid (BD.out.trans (hx.mono BD.out.size)); clear hx GS BD a0 a1 b0 b1 n0; have GS := GT; have BD := BE; obtain ⟨a0, a1, b0, b1, _⟩ := id GS.out; have n0 := NM.out _ BD.out; clear GT BE))
                    all_goals go_wp2
                    all_goals go_ret
                    all_goals exact ⟨Y.out, GS.out.bel⟩
                  · skip
                    go_wp2
                    go_region_held3 (fun w' => w'.cell? ⟨w.heap.size, 0, none⟩ = some (.slice an ln cn) ∧ w'.cell? ⟨w.heap.size, 1, none⟩ = some (.slice ar lr cr) ∧ w'.cell? ⟨w.heap.size + 1, 0, none⟩ = some (.slice an' ln' cn') ∧ w'.cell? ⟨w.heap.size + 1, 1, none⟩ = some (.slice ar' lr' cr') ∧ w'.cell? ⟨g, i, none⟩ = some (.string s))
                  (refine ⟨?_, ?_, ?_, ?_, ?_⟩ <;> first | assumption | (go_simp; done))
                  (first
                  | (go_at_call 42; with_reducible show Calls _ _ #[.agg #[.slice an ln cn, .slice ar lr cr], _, _] _ _; refine (LA.out _ GS.out).mono ?_; rintro e wx ⟨rfl, hx⟩; have GT := Lib.hid (GS.out.later hx); have BE := Lib.hid (BD.out.trans (hx.mono BD.out.size)); clear hx GS BD a0 a1 b0 b1 n0; have GS := GT; have BD := BE; obtain ⟨a0, a1, b0, b1, _⟩ := id GS.out; have n0 := NM.out _ BD.out; clear GT BE)
                  | (go_at_call 42; with_reducible show Calls _ _ #[.agg #[.slice an' ln' cn', .slice ar' lr' cr'], _, _] _ _; refine (LB.out _ GS.out).mono ?_; rintro e wx ⟨rfl, hx⟩; have GT := Lib.hid (GS.out.later hx); have BE := Lib.hid (BD.out.trans (hx.mono BD.out.size)); clear hx GS BD a0 a1 b0 b1 n0; have GS := GT; have BD := BE; obtain ⟨a0, a1, b0, b1, _⟩ := id GS.out; have n0 := NM.out _ BD.out; clear GT BE))
                    all_goals go_wp2
                    all_goals go_ret
                    all_goals exact ⟨Y.out, GS.out.bel⟩
                · clear hxy
                  cases xh <;> cases yh
                  · exact absurd rfl hh
                  · skip
                    go_wp2
                    go_region_held3 (fun w' => w'.cell? ⟨w.heap.size, 0, none⟩ = some (.slice an ln cn) ∧ w'.cell? ⟨w.heap.size, 1, none⟩ = some (.slice ar lr cr) ∧ w'.cell? ⟨w.heap.size + 1, 0, none⟩ = some (.slice an' ln' cn') ∧ w'.cell? ⟨w.heap.size + 1, 1, none⟩ = some (.slice ar' lr' cr') ∧ w'.cell? ⟨g, i, none⟩ = some (.string s))
                  (refine ⟨?_, ?_, ?_, ?_, ?_⟩ <;> first | assumption | (go_simp; done))
                  (first
                  | (go_at_call 42; with_reducible show Calls _ _ #[.agg #[.slice an ln cn, .slice ar lr cr], _, _] _ _; refine (LA.out _ GS.out).mono ?_; rintro e wx ⟨rfl, hx⟩; have GT := Lib.hid (GS.out.later hx); have BE := Lib.hid (BD.out.trans (hx.mono BD.out.size)); clear hx GS BD a0 a1 b0 b1 n0; have GS := GT; have BD := BE; obtain ⟨a0, a1, b0, b1, _⟩ := id GS.out; have n0 := NM.out _ BD.out; clear GT BE)
                  | (go_at_call 42; with_reducible show Calls _ _ #[.agg #[.slice an' ln' cn', .slice ar' lr' cr'], _, _] _ _; refine (LB.out _ GS.out).mono ?_; rintro e wx ⟨rfl, hx⟩; have GT := Lib.hid (GS.out.later hx); have BE := Lib.hid (BD.out.trans (hx.mono BD.out.size)); clear hx GS BD a0 a1 b0 b1 n0; have GS := GT; have BD := BE; obtain ⟨a0, a1, b0, b1, _⟩ := id GS.out; have n0 := NM.out _ BD.out; clear GT BE))
                    all_goals go_wp2
                    all_goals go_ret
                    all_goals exact ⟨Y.out, GS.out.bel⟩
                  · skip
                    go_wp2
                    go_region_held3 (fun w' => w'.cell? ⟨w.heap.size, 0, none⟩ = some (.slice an ln cn) ∧ w'.cell? ⟨w.heap.size, 1, none⟩ = some (.slice ar lr cr) ∧ w'.cell? ⟨w.heap.size + 1, 0, none⟩ = some (.slice an' ln' cn') ∧ w'.cell? ⟨w.heap.size + 1, 1, none⟩ = some (.slice ar' lr' cr') ∧ w'.cell? ⟨g, i, none⟩ = some (.string s))
                  (refine ⟨?_, ?_, ?_, ?_, ?_⟩ <;> first | assumption | (go_simp; done))
                  (first
                  | (go_at_call 42; with_reducible show Calls _ _ #[.agg #[.slice an ln cn, .slice ar lr cr], _, _] _ _; refine (LA.out _ GS.out).mono ?_; rintro e wx ⟨rfl, hx⟩; have GT := Lib.hid (GS.out.later hx); have BE := Lib.hid (BD.out.trans (hx.mono BD.out.size)); clear hx GS BD a0 a1 b0 b1 n0; have GS := GT; have BD := BE; obtain ⟨a0, a1, b0, b1, _⟩ := id GS.out; have n0 := NM.out _ BD.out; clear GT BE)
                  | (go_at_call 42; with_reducible show Calls _ _ #[.agg #[.slice an' ln' cn', .slice ar' lr' cr'], _, _] _ _; refine (LB.out _ GS.out).mono ?_; rintro e wx ⟨rfl, hx⟩; have GT := Lib.hid (GS.out.later hx); have BE := Lib.hid (BD.out.trans (hx.mono BD.out.size)); clear hx GS BD a0 a1 b0 b1 n0; have GS := GT; have BD := BE; obtain ⟨a0, a1, b0, b1, _⟩ := id GS.out; have n0 := NM.out _ BD.out; clear GT BE))
                    all_goals go_wp2
                    all_goals go_ret
                    all_goals exact ⟨Y.out, GS.out.bel⟩
                  · exact absurd rfl hh
            · obtain rfl : i = ln + ln' := by omega
              have Y := Lib.hid (NXD.out hH.out)
              have nc : ¬ ((ln : Int) + (ln' : Int)) < (ln : Int) + (ln' : Int) := by omega
              clear hC hH
              go_wp2
              go_roundw
              case rel => exact ⟨d + 1, by omega, by go_num, Y.out, CBB.out⟩
              case measure => simp [intOf]; omega
        · have Y := Lib.hid (YES.out (fun d' hd' => hG.out d' (by omega)))
          clear hB hG
          go_wp2
          go_ret
          exact ⟨Y.out, GR.out.bel⟩
    · have hL' : last = L := by rw [← hL]; simp [hz]
      subst hL'
      clear hM hL hq
      go_enter Tryd.func25, Tryd.ntmps25
      go_wp2_with (first
        | (have qq := PM; at_builtin; refine wp_appG Tryd.underlying22 infoS rfl (by decide) _ w0.heap.size (Nat.le_refl _) an ln cn (ss.map Value.string) ML.out H0.out hn (strs_one ss) rfl _ _ rfl _ 0 [] rfl W0.out rfl (by unfold maxLen; omega) (by omega) ?_; intro v1 w1 h1 h2; have O1 := Lib.hid h1; have B1 := Lib.hid ((Below.refl w0.heap.size w0).grown h2 (Nat.le_refl _) (fun k e => (W0.out.lt k e).1)); clear h1 h2 PM qq a0 a1 b0 b1; obtain ⟨a0, a1, b0, b1, _⟩ := G0.out.later B1.out)
        | (at_builtin; refine wp_appG Tryd.underlying22 infoS rfl (by decide) _ w0.heap.size B1.out.size an' ln' cn' (ss'.map Value.string) ML'.out (H1.out _ B1.out) hn' (strs_one ss') rfl _ _ rfl _ (0 + ln) ([] ++ ss.map Value.string) rfl O1.out rfl (by unfold maxLen; omega) (by omega) ?_; intro v2 w2 h1 h2; obtain ⟨aN, cN, rfl, hN⟩ := NR.out _ _ h1; have HN := Lib.hid hN; have B2 := Lib.hid (B1.out.grown h2 B1.out.size (fun k e => (O1.out.lt k e).1)); clear h1 h2 hN a0 a1 b0 b1; obtain ⟨a0, a1, b0, b1, _⟩ := G0.out.later B2.out))
      have G2 := Lib.hid (G0.out.later B2.out)
      clear a0 a1 b0 b1
      go_loopw [9] (fun t wr => ∃ d : Nat, d ≤ lr ∧ t = .int .i64 d ∧ RowKit.Hid (∀ d' : Nat, d' < d → ∀ i, i < ln + ln' → CA ((ss ++ ss').getD i default) d' = CB ((ss ++ ss').getD i default) d') ∧ Below w2.heap.size w2 wr) (fun t _ => lr - (intOf t).toNat)
      case atStart => exact ⟨0, by omega, rfl, fun d hd => absurd hd (by omega), Below.refl _ _⟩
      case round =>
        rename World => wr
        obtain ⟨d, hd, rfl, hG, hB⟩ := hrel
        have BB := Lib.hid hB
        have GR := Lib.hid (G2.out.later hB)
        by_cases hdl : (d : Int) ≤ last
        · have dm : d < lr := by omega
          have NXD := Lib.hid (p := (∀ i, i < ln + ln' → CA ((ss ++ ss').getD i default) d = CB ((ss ++ ss').getD i default) d) → ∀ d' : Nat, d' < d + 1 → ∀ i, i < ln + ln' → CA ((ss ++ ss').getD i default) d' = CB ((ss ++ ss').getD i default) d') (fun g d' hd' => by
            rcases (show d' < d ∨ d' = d by omega) with q | q
            · exact hG.out d' q
            · rw [q]; exact g)
          have NOD := Lib.hid (fun i => NO.out d i hdl)
          clear hB hG
          go_wp2
          go_loopw [10] (fun t ws => ∃ i : Nat, i ≤ ln + ln' ∧ t = .int .i64 i ∧ RowKit.Hid (∀ i' : Nat, i' < i → CA ((ss ++ ss').getD i' default) d = CB ((ss ++ ss').getD i' default) d) ∧ Below w2.heap.size w2 ws) (fun t _ => ln + ln' - (intOf t).toNat)
          case atStart => exact ⟨0, by omega, rfl, fun c hc => absurd hc (by omega), BB.out⟩
          case round =>
            rename World => ws
            obtain ⟨i, hi, rfl, hH, hC⟩ := hrel
            have CBB := Lib.hid hC
            by_cases hil : i < ln + ln'
            · obtain ⟨g, rfl, hg, hcs⟩ := HN.out (by omega)
              have n0 := (hC.cell (p := ⟨g, i, none⟩) hg).trans (hcs i hil)
              have GS := Lib.hid (p := GZ w ws.drew an ar an' ar' ln cn lr cr ln' cn' lr' cr' ss ss' rs rs') (G2.out.later hC.drew)
              obtain ⟨a0, a1, b0, b1, _⟩ := G2.out.later hC
              have ic : (i : Int) < (ln : Int) + (ln' : Int) := by omega
              have NXI := Lib.hid (p := CA ((ss ++ ss').getD i default) d = CB ((ss ++ ss').getD i default) d → ∀ i' : Nat, i' < i + 1 → CA ((ss ++ ss').getD i' default) d = CB ((ss ++ ss').getD i' default) d) (fun g i' hi' => by
                rcases (show i' < i ∨ i' = i by omega) with q | q
                · exact hH.out i' q
                · rw [q]; exact g)
              have NOX := Lib.hid (NOD.out i hil)
              have BD := Lib.hid (p := Below w2.heap.size w2 ws.drew) hC.drew
              have NM := Lib.hid (fun W (d : Below w2.heap.size w2 W) => (d.cell (p := ⟨g, i, none⟩) hg).trans (hcs i hil))
              have LA := Lib.hid (fun W (G : GZ w W an ar an' ar' ln cn lr cr ln' cn' lr' cr' ss ss' rs rs') => KA.out W ((ss ++ ss').getD i default) d (by omega) G)
              have LB := Lib.hid (fun W (G : GZ w W an ar an' ar' ln cn lr cr ln' cn' lr' cr' ss ss' rs rs') => KB.out W ((ss ++ ss').getD i default) d (by omega) G)
              clear hcs hC hH
              generalize (ss ++ ss').getD i default = s at *
              generalize CA s d = x at *
              generalize CB s d = y at *
              obtain ⟨xh, xv⟩ := x
              obtain ⟨yh, yv⟩ := y
              simp only at LA LB NXI NOX
              by_cases hxy : xh = yh ∧ xv = yv
              · obtain ⟨rfl, rfl⟩ := hxy
                have Y := Lib.hid (NXI.out rfl)
                go_wp2
                go_region_held3 (fun w' => w'.cell? ⟨w.heap.size, 0, none⟩ = some (.slice an ln cn) ∧ w'.cell? ⟨w.heap.size, 1, none⟩ = some (.slice ar lr cr) ∧ w'.cell? ⟨w.heap.size + 1, 0, none⟩ = some (.slice an' ln' cn') ∧ w'.cell? ⟨w.heap.size + 1, 1, none⟩ = some (.slice ar' lr' cr') ∧ w'.cell? ⟨g, i, none⟩ = some (.string s))
                  (refine ⟨?_, ?_, ?_, ?_, ?_⟩ <;> first | assumption | (go_simp; done))
                  (first
                  | (go_at_call 42; with_reducible show Calls _ _ #[.agg #[.slice an ln cn, .slice ar lr cr], _, _] _ _; refine (LA.out _ GS.out).mono ?_; rintro e wx ⟨rfl, hx⟩; have GT := Lib.hid (GS.out.later hx); have BE := Lib.hid (BD.out.trans (hx.mono BD.out.size)); clear hx GS BD a0 a1 b0 b1 n0; have GS := GT; have BD := BE; obtain ⟨a0, a1, b0, b1, _⟩ := id GS.out; have n0 := NM.out _ BD.out; clear GT BE)
                  | (go_at_call 42; with_reducible show Calls _ _ #[.agg #[.slice an' ln' cn', .slice ar' lr' cr'], _, _] _ _; refine (LB.out _ GS.out).mono ?_; rintro e wx ⟨rfl, hx⟩; have GT := Lib.hid (GS.out.later hx); have BE := Lib.hid (BD.out.trans (hx.mono BD.out.size)); clear hx GS BD a0 a1 b0 b1 n0; have GS := GT; have BD := BE; obtain ⟨a0, a1, b0, b1, _⟩ := id GS.out; have n0 := NM.out _ BD.out; clear GT BE))
                all_goals
                  go_wp2
                  go_roundw
                  case rel => exact ⟨i + 1, by omega, by go_num, Y.out, BD.out⟩
                  case measure => simp [intOf]; omega
              · have Y := Lib.hid (NOX.out (fun q => by injection q with q1 q2; exact hxy ⟨q1, q2⟩))
                by_cases hh : xh = yh
                · subst hh
                  have hv : (xv == yv) = false := by rw [beq_eq_false_iff_ne]; exact fun e2 => hxy ⟨rfl, e2⟩
                  have hv2 : ¬ xv = yv := fun e2 => hxy ⟨rfl, e2⟩
                  clear hxy
                  cases xh
                  · skip
                    go_wp2
                    go_region_held3 (fun w' => w'.cell? ⟨w.heap.size, 0, none⟩ = some (.slice an ln cn) ∧ w'.cell? ⟨w.heap.size, 1, none⟩ = some (.slice ar lr cr) ∧ w'.cell? ⟨w.heap.size + 1, 0, none⟩ = some (.slice an' ln' cn') ∧ w'.cell? ⟨w.heap.size + 1, 1, none⟩ = some (.slice ar' lr' cr') ∧ w'.cell? ⟨g, i, none⟩ = some (.string s))
                  (refine ⟨?_, ?_, ?_, ?_, ?_⟩ <;> first | assumption | (go_simp; done))
                  (first
                  | (go_at_call 42; with_reducible show Calls _ _ #[.agg #[.slice an ln cn, .slice ar lr cr], _, _] _ _; refine (LA.out _ GS.out).mono ?_; rintro e wx ⟨rfl, hx⟩; have GT := Lib.hid (GS.out.later hx); have BE := Lib.hid (BD.out.trans (hx.mono BD.out.size)); clear hx GS BD a0 a1 b0 b1 n0; have GS := GT; have BD := BE; obtain ⟨a0, a1, b0, b1, _⟩ := id GS.out; have n0 := NM.out _ BD.out; clear GT BE)
                  | (go_at_call 42; with_reducible show Calls _ _ #[.agg #[.slice an' ln' cn', .slice ar' lr' cr'], _, _] _ _; refine (LB.out _ GS.out).mono ?_; rintro e wx ⟨rfl, hx⟩; have GT := Lib.hid (GS.out.later hx); have BE := Lib.hid (BD.out.trans (hx.mono BD.out.size)); clear hx GS BD a0 a1 b0 b1 n0; have GS := GT; have BD := BE; obtain ⟨a0, a1, b0, b1, _⟩ := id GS.out; have n0 := NM.out _ BD.out; clear GT BE))
                    all_goals go_wp2
                    all_goals go_ret
                    all_goals exact ⟨Y.out, GS.out.bel⟩
                  · skip
                    go_wp2
                    go_region_held3 (fun w' => w'.cell? ⟨w.heap.size, 0, none⟩ = some (.slice an ln cn) ∧ w'.cell? ⟨w.heap.size, 1, none⟩ = some (.slice ar lr cr) ∧ w'.cell? ⟨w.heap.size + 1, 0, none⟩ = some (.slice an' ln' cn') ∧ w'.cell? ⟨w.heap.size + 1, 1, none⟩ = some (.slice ar' lr' cr') ∧ w'.cell? ⟨g, i, none⟩ = some (.string s))
                  (refine ⟨?_, ?_, ?_, ?_, ?_⟩ <;> first | assumption | (go_simp; done))
                  (first
                  | (go_at_call 42; with_reducible show Calls _ _ #[.agg #[.slice an ln cn, .slice ar lr cr], _, _] _ _; refine (LA.out _ GS.out).mono ?_; rintro e wx ⟨rfl, hx⟩; have GT := Lib.hid (GS.out.later hx); have BE := Lib.hid (BD.out.trans (hx.mono BD.out.size)); clear hx GS BD a0 a1 b0 b1 n0; have GS := GT; have BD := BE; obtain ⟨a0, a1, b0, b1, _⟩ := id GS.out; have n0 := NM.out _ BD.out; clear GT BE)
                  | (go_at_call 42; with_reducible show Calls _ _ #[.agg #[.slice an' ln' cn', .slice ar' lr' cr'], _, _] _ _; refine (LB.out _ GS.out).mono ?_; rintro e wx ⟨rfl, hx⟩; have GT := Lib.hid (GS.out.later hx); have BE := Lib.hid (BD.out.trans (hx.mono BD.out.size)); clear hx GS BD a0 a1 b0 b1 n0; have GS := GT; have BD := BE; obtain ⟨a0, a1, b0, b1, _⟩ := id GS.out; have n0 := NM.out _ BD.out; clear GT BE))
                    all_goals go_wp2
                    all_goals go_ret
                    all_goals exact ⟨Y.out, GS.out.bel⟩
                · clear hxy
                  cases xh <;> cases yh
                  · exact absurd rfl hh
                  · skip
                    go_wp2
                    go_region_held3 (fun w' => w'.cell? ⟨w.heap.size, 0, none⟩ = some (.slice an ln cn) ∧ w'.cell? ⟨w.heap.size, 1, none⟩ = some (.slice ar lr cr) ∧ w'.cell? ⟨w.heap.size + 1, 0, none⟩ = some (.slice an' ln' cn') ∧ w'.cell? ⟨w.heap.size + 1, 1, none⟩ = some (.slice ar' lr' cr') ∧ w'.cell? ⟨g, i, none⟩ = some (.string s))
                  (refine ⟨?_, ?_, ?_, ?_, ?_⟩ <;> first | assumption | (go_simp; done))
                  (first
                  | (go_at_call 42; with_reducible show Calls _ _ #[.agg #[.slice an ln cn, .slice ar lr cr], _, _] _ _; refine (LA.out _ GS.out).mono ?_; rintro e wx ⟨rfl, hx⟩; have GT := Lib.hid (GS.out.later hx); have BE := Lib.hid (BD.out.trans (hx.mono BD.out.size)); clear hx GS BD a0 a1 b0 b1 n0; have GS := GT; have BD := BE; obtain ⟨a0, a1, b0, b1, _⟩ := id GS.out; have n0 := NM.out _ BD.out; clear GT BE)
                  | (go_at_call 42; with_reducible show Calls _ _ #[.agg #[.slice an' ln' cn', .slice ar' lr' cr'], _, _] _ _; refine (LB.out _ GS.out).mono ?_; rintro e wx ⟨rfl, hx⟩; have GT := Lib.hid (GS.out.later hx); have BE := Lib.hid (BD.out.trans (hx.mono BD.out.size)); clear hx GS BD a0 a1 b0 b1 n0; have GS := GT; have BD := BE; obtain ⟨a0, a1, b0, b1, _⟩ := id GS.out; have n0 := NM.out _ BD.out; clear GT BE))
                    all_goals go_wp2
                    all_goals go_ret
                    all_goals exact ⟨Y.out, GS.out.bel⟩
                  · skip
                    go_wp2
                    go_region_held3 (fun w' => w'.cell? ⟨w.heap.size, 0, none⟩ = some (.slice an ln cn) ∧ w'.cell? ⟨w.heap.size, 1, none⟩ = some (.slice ar lr cr) ∧ w'.cell? ⟨w.heap.size + 1, 0, none⟩ = some (.slice an' ln' cn') ∧ w'.cell? ⟨w.heap.size + 1, 1, none⟩ = some (.slice ar' lr' cr') ∧ w'.cell? ⟨g, i, none⟩ = some (.string s))
                  (refine ⟨?_, ?_, ?_, ?_, ?_⟩ <;> first | assumption | (go_simp; done))
                  (first
                  | (go_at_call 42; with_reducible show Calls _ _ #[.agg #[.slice an ln cn, .slice ar lr cr], _, _] _ _; refine (LA.out _ GS.out).mono ?_; rintro e wx ⟨rfl, hx⟩; have GT := Lib.hid (GS.out.later hx); have BE := Lib.hid (BD.out.trans (hx.mono BD.out.size)); clear hx GS BD a0 a1 b0 b1 n0; have GS := GT; have BD := BE; obtain ⟨a0, a1, b0, b1, _⟩ := id GS.out; have n0 := NM.out _ BD.out; clear GT BE)
                  | (go_at_call 42; with_reducible show Calls _ _ #[.agg #[.slice an' ln' cn', .slice ar' lr' cr'], _, _] _ _; refine (LB.out _ GS.out).mono ?_; rintro e wx ⟨rfl, hx⟩; have GT := Lib.hid (GS.out.later hx); have BE := Lib.hid (BD.out.trans (hx.mono BD.out.size)); clear hx GS BD a0 a1 b0 b1 n0; have GS := GT; have BD := BE; obtain ⟨a0, a1, b0, b1, _⟩ := id GS.out; have n0 := NM.out _ BD.out; clear GT BE))
                    all_goals go_wp2
                    all_goals go_ret
                    all_goals exact ⟨Y.out, GS.out.bel⟩
                  · exact absurd rfl hh
            · obtain rfl : i = ln + ln' := by omega
              have Y := Lib.hid (NXD.out hH.out)
              have nc : ¬ ((ln : Int) + (ln' : Int)) < (ln : Int) + (ln' : Int) := by omega
              clear hC hH
              go_wp2
              go_roundw
              case rel => exact ⟨d + 1, by omega, by go_num, Y.out, CBB.out⟩
              case measure => simp [intOf]; omega
        · have Y := Lib.hid (YES.out (fun d' hd' => hG.out d' (by omega)))
          clear hB hG
          go_wp2
          go_ret
          exact ⟨Y.out, GR.out.bel⟩
end Go.Proofs.YtglgdfgdfkeogaaDoor
