/-
  WALK: Print (the document's).
-/
import Derived.Test.YthkeoeobpdminaaDoorWTPrint
namespace Go.Proofs.YthkeoeobpdminaaDoor
open Go.RowKit
set_option linter.unusedVariables false
set_option linter.unusedSimpArgs false

theorem textT_len {ss : List ByteArray} {rs : List (List Cl)} (h1 : ss.length ≤ 64) (h2 : ∀ s ∈ ss, s.size ≤ 31) (h3 : ∀ r ∈ rs, r.length ≤ 64 ∧ ∀ c ∈ r, (Lit.int .i64 c.v).wf = true) : ∀ d, d ≤ rs.length → d ≤ 4096 → (textT ss rs d).length ≤ 2052 + d * 1431
  | 0, _, _ => by
    have := headT_len (k := ss.length) h1 h2
    unfold textT rowsT; simp; omega
  | d + 1, h, h' => by
    have ih := textT_len h1 h2 h3 d (by omega) (by omega)
    have m : rs.getD d [] ∈ rs := by
      have hd : d < rs.length := by omega
      rw [show rs.getD d [] = rs[d] by simp [List.getD, hd]]; exact List.getElem_mem hd
    have := rowT_len (d := d) (cs := rs.getD d []) (k := (rs.getD d []).length) (h3 _ m).1 (by omega) (h3 _ m).2
    rw [textT_step, List.length_append, Nat.succ_mul]
    unfold lineT
    rw [List.length_append]; simp only [List.length_cons, List.length_nil]; omega
theorem bc_word (T u : List UInt8) : Lib.byteCells T ++ Lib.strCells ⟨u.toArray⟩ = Lib.byteCells (T ++ u) := by simp [Lib.byteCells, Lib.strCells]
theorem size_word (u : List UInt8) : (⟨u.toArray⟩ : ByteArray).size = u.length := by simp [ByteArray.size]

set_option maxRecDepth 100000 in
set_option maxHeartbeats 8000000 in
theorem rPrintT_any (an ar : Option Addr) (ln cn lr cr : Nat) (ss : List ByteArray) (rs : List Rw) (w : World) (h : NL w an ln ss) (k : RL w ar lr rs) :
    Calls Tryd.prog 14 #[.agg #[.slice an ln cn, .slice ar lr cr]] w fun e w' => PrT ss (rs.map (·.cs)) e ∧ Below w.heap.size w w' := by
  have hB0 : Below w.heap.size w (w.alloc (.cells #[.slice an ln cn, .slice ar lr cr] 25)) := (Below.refl _ w).alloc (Nat.le_refl _) _
  have p0 : (w.alloc (.cells #[.slice an ln cn, .slice ar lr cr] 25)).cell? ⟨w.heap.size, 0, none⟩ = some (.slice an ln cn) := by go_simp
  have p1 : (w.alloc (.cells #[.slice an ln cn, .slice ar lr cr] 25)).cell? ⟨w.heap.size, 1, none⟩ = some (.slice ar lr cr) := by go_simp
  have s0 : (w.alloc (.cells #[.slice an ln cn, .slice ar lr cr] 25)).heap.size = w.heap.size + 1 := by simp
  obtain ⟨w0, hw0⟩ : ∃ w0, w.alloc (.cells #[.slice an ln cn, .slice ar lr cr] 25) = w0 := ⟨_, rfl⟩
  rw [hw0] at hB0 p0 p1 s0
  have KV := Lib.hid (rValid_any an ar ln cn lr cr ss rs w0 (h.later hB0) (k.later hB0))
  have N0 := Lib.hid (h.later hB0)
  have R0 := Lib.hid (k.later hB0)
  have B0 := Lib.hid hB0
  have C0 := Lib.hid (p := ∀ W, Below w0.heap.size w0 W → W.cell? ⟨w.heap.size, 0, none⟩ = some (.slice an ln cn) ∧ W.cell? ⟨w.heap.size, 1, none⟩ = some (.slice ar lr cr)) (fun W b => ⟨(b.cell (p := ⟨w.heap.size, 0, none⟩) (show w.heap.size < _ by omega)).trans p0, (b.cell (p := ⟨w.heap.size, 1, none⟩) (show w.heap.size < _ by omega)).trans p1⟩)
  have sl := h.1
  have rl := k.1
  have rml : (rs.map (·.cs)).length = lr := by rw [List.length_map]; exact rl
  by_cases hv : validE ss (rs.map (·.cs)) = 0
  · obtain ⟨v1, v2, v3, v4⟩ := valid_out hv
    rw [sl] at v1
    rw [rml] at v2
    have GET := Lib.hid (p := ∀ i, i < lr → rs.getD i default ∈ rs) (fun i hi => by
      have hk' : i < rs.length := by omega
      rw [show rs.getD i default = rs[i] by simp [List.getD, hk']]; exact List.getElem_mem hk')
    have RL1 := Lib.hid (p := ∀ i, i < lr → (rs.getD i default).n = ln ∧ (∀ c ∈ (rs.getD i default).cs, (Lit.int .i64 c.v).wf = true) ∧ (rs.map (·.cs)).getD i [] = (rs.getD i default).cs) (fun i hi => by
      have m := GET.out i hi
      refine ⟨?_, (k.2.2.1 _ m).1.2.2.1, by simp [List.getD, show i < rs.length by omega]⟩
      rw [← (k.2.2.1 _ m).1.1, v4 _ (List.mem_map.2 ⟨_, m, rfl⟩), sl])
    have HL := Lib.hid (p := ∀ j, j ≤ ln → (headT ss j).length ≤ 2051) (fun j hj => headT_len (by omega) v3)
    have HST := Lib.hid (p := ∀ j, j < ln → headT ss (j + 1) = headT ss j ++ nameW (ss.getD j default)) (fun j hj => headT_step (by omega))
    have NS := Lib.hid (p := ∀ j, j < ln → (ss.getD j default).size ≤ 31) (fun j hj => by
      have hj' : j < ss.length := by omega
      rw [show ss.getD j default = ss[j] by simp [List.getD, hj']]; exact v3 _ (List.getElem_mem hj'))
    have TX0 := Lib.hid (p := headT ss ln ++ [10] = textT ss (rs.map (·.cs)) 0) (by unfold textT rowsT; rw [sl]; simp)
    have XG := Lib.hid (p := ∀ d, 0 < (textT ss (rs.map (·.cs)) d).length) (fun d => by unfold textT; simp; omega)
    have TXS := Lib.hid (fun d => textT_step ss (rs.map (·.cs)) d)
    have XB := Lib.hid (p := ∀ d, d ≤ lr → (textT ss (rs.map (·.cs)) d).length ≤ 2052 + d * 1431) (fun d hd => textT_len (by omega) v3 (fun r hr => ⟨by rw [v4 r hr, sl]; exact v1, by
      obtain ⟨q, hq, rfl⟩ := List.mem_map.1 hr
      exact (k.2.2.1 _ hq).1.2.2.1⟩) d (by omega) (by omega))
    have LONG := Lib.hid (p := 1048576 < (textT ss (rs.map (·.cs)) lr).length → PrT ss (rs.map (·.cs)) (.returned (.tuple #[.string ⟨#[]⟩, .int .i64 6]))) (fun hq => .inr (.inl ⟨hv, by rw [rml]; exact hq, rfl⟩))
    have GOOD := Lib.hid (p := (textT ss (rs.map (·.cs)) lr).length ≤ 1048576 → PrT ss (rs.map (·.cs)) (.returned (.tuple #[.string ⟨(textT ss (rs.map (·.cs)) lr).toArray⟩, .int .i64 0]))) (fun hq => .inr (.inr ⟨hv, by rw [rml]; exact hq, by rw [rml]⟩))
    rw [hv] at KV
    generalize PrT ss (rs.map (·.cs)) = Z at *
    obtain ⟨X, hX⟩ : ∃ X, textT ss (rs.map (·.cs)) = X := ⟨_, rfl⟩
    simp only [hX] at TX0 TXS LONG GOOD XG XB
    obtain ⟨i0, hi, hz0, hz1, hz2⟩ := info_parts info8
    clear h k hB0 hv hX v3 v4 rml
    have kc := fun (w : World) (C : Array Value) (n c : Nat) => Lib.run_convert_bytes_const (P := Tryd.prog) w 53 5 C n c Tryd.underlying53 Tryd.underlying5
    go_enter Tryd.func14, Tryd.ntmps14
    go_wp2_with (go_at_call 9; refine KV.out.mono ?_; rintro e w1 ⟨rfl, h1⟩; have B1 := Lib.hid h1; clear h1; have D1 := Lib.hid (own_dayD w1); have A1 := Lib.hid ((Below.refl w1.heap.size w1).alloc (Nat.le_refl _) (.cells #[.int .u8 100, .int .u8 97, .int .u8 121] 5 (3, 4))))
    have BW := Lib.hid (B0.out.trans (B1.out.mono B0.out.size))
    have CB := Lib.hid (fun W (b : Below w1.heap.size w1 W) => C0.out W (B1.out.trans (b.mono B1.out.size)))
    clear p0 p1
    go_loopw [5, 6] (fun v t wr => ∃ j : Nat, j ≤ ln ∧ t = .int .i64 j ∧ ownD wr w1.heap.size v (headT ss j).length (Lib.byteCells (headT ss j)) ∧ Below w1.heap.size w1 wr) (fun _ t _ => ln - (intOf t).toNat)
    case atStart => exact ⟨0, by omega, rfl, by have := D1.out; simpa [headT] using this, A1.out⟩
    case round =>
      rename World => wr
      obtain ⟨j, hj, rfl, hO, hB⟩ := hrel
      have OO := Lib.hid hO
      have BB := Lib.hid hB
      have hh := HL.out j hj
      obtain ⟨p0, p1⟩ := CB.out _ hB
      by_cases hlt : j < ln
      · obtain ⟨x, o, rfl, hx, hcs⟩ : ∃ x o, an = some ⟨x, o, none⟩ ∧ x < w0.heap.size ∧ ∀ i, i < ln → w0.cell? ⟨x, o + i, none⟩ = some (.string (ss.getD i default)) := by
          rcases N0.out.2.2.2 with h0 | h0
          · omega
          · exact h0
        have cN := Lib.hid (p := ∀ W, Below w1.heap.size w1 W → W.cell? ⟨x, o + j, none⟩ = some (.string (ss.getD j default))) (fun W b => ((B1.out.trans (b.mono B1.out.size)).cell (p := ⟨x, o + j, none⟩) hx).trans (hcs j hlt))
        have jc : (j : Int) < (ln : Int) := by omega
        have fz := NS.out j hlt
        have ST := Lib.hid (HST.out j hlt)
        generalize ss.getD j default = f at *
        have NX := Lib.hid (p := ∀ W v, World.ownsRow W w1.heap.size 5 1 v ((headT ss j).length + 1 + f.size) (Lib.byteCells (headT ss j) ++ [.int .u8 32] ++ Lib.strCells f) → World.ownsRow W w1.heap.size 5 1 v (headT ss (j + 1)).length (Lib.byteCells (headT ss (j + 1)))) (fun W v o => by
          rw [bc_name] at o
          rw [ST.out]
          have e : (headT ss j ++ nameW f).length = (headT ss j).length + 1 + f.size := by
            have : f.data.toList.length = f.size := Array.length_toList
            simp [nameW]; omega
          rw [e]; exact o)
        clear hcs hO hB
        generalize headT ss j = T at *
        go_wp2_with (first
          | (at_builtin; have qq := O1; refine Lib.wpList_append_own_string _ rfl _ _ 53 9 rfl w1.heap.size 5 i0 Tryd.underlying53 Tryd.underlying9 hi hz0 hz1 hz2 _ _ _ rfl O1.out f rfl (by unfold maxLen; omega) (by omega) S2.out ?_; intro v3 w3 h1 h2 _; have O3 := Lib.hid (NX.out _ _ h1); have B3 := Lib.hid (B2.out.grown h2 S2.out (fun k e => (O1.out.lt k e).1)); clear h1 h2)
          | (at_builtin; refine wp_byteD _ 32 rfl _ _ rfl w1.heap.size _ _ _ rfl rfl OO.out (by omega) BB.out.size ?_; intro v2 w2 h1 h2; have O1 := Lib.hid h1; have B2 := Lib.hid ((BB.out.alloc BB.out.size _).grown h2 (Nat.le_trans BB.out.size (by simp)) OO.out.lt); have S2 := Lib.hid B2.out.size; clear h1 h2; clear p0 p1; obtain ⟨p0, p1⟩ := CB.out _ B2.out; have c0 := cN.out _ B2.out))
        go_roundw
        case rel => exact ⟨j + 1, by omega, by go_num, .inl O3.out, B3.out⟩
        case measure => simp [intOf]; omega
      · obtain rfl : j = ln := by omega
        have TX := Lib.hid (p := ∀ W v, World.ownsRow W w1.heap.size 5 1 v ((headT ss j).length + 1) (Lib.byteCells (headT ss j) ++ [.int .u8 10]) → World.ownsRow W w1.heap.size 5 1 v (X 0).length (Lib.byteCells (X 0))) (fun W v o => by
          rw [bc_end, TX0.out] at o
          rw [← TX0.out] at o ⊢
          simpa using o)
        clear hO hB
        generalize headT ss j = T at *
        go_wp2_with (at_builtin; refine wp_byteD _ 10 rfl _ _ rfl w1.heap.size _ _ _ rfl rfl OO.out (by omega) BB.out.size ?_; intro v2 w2 h1 h2; have O1 := Lib.hid (TX.out _ _ h1); have B2 := Lib.hid ((BB.out.alloc BB.out.size _).grown h2 (Nat.le_trans BB.out.size (by simp)) OO.out.lt); clear h1 h2)
        clear p0 p1
        go_loopw [5, 7] (fun v t wr => ∃ d : Nat, d ≤ lr ∧ t = .int .i64 d ∧ wr.ownsRow w1.heap.size 5 1 v (X d).length (Lib.byteCells (X d)) ∧ Below w1.heap.size w1 wr) (fun _ t _ => lr - (intOf t).toNat)
        case atStart => exact ⟨0, by omega, rfl, O1.out, B2.out⟩
        case round =>
          rename World => ws
          obtain ⟨d, hd, rfl, hP, hC⟩ := hrel
          have PP := Lib.hid hP
          have CQ := Lib.hid hC
          have xl : (X d).length ≤ 5863428 := by have := XB.out d hd; omega
          obtain ⟨p0, p1⟩ := CB.out _ hC
          by_cases hdl : d < lr
          · obtain ⟨x, o, rfl, hx, hcs⟩ : ∃ x o, ar = some ⟨x, o, none⟩ ∧ x < w0.heap.size ∧ ∀ i, i < lr → w0.cell? ⟨x, o + i, none⟩ = some (.slice (rs.getD i default).a (rs.getD i default).n (rs.getD i default).cap) := by
              rcases R0.out.2.2.2 with h0 | h0
              · omega
              · exact h0
            have cR := Lib.hid (p := ∀ W, Below w1.heap.size w1 W → W.cell? ⟨x, o + d, none⟩ = some (.slice (rs.getD d default).a (rs.getD d default).n (rs.getD d default).cap)) (fun W b => ((B1.out.trans (b.mono B1.out.size)).cell (p := ⟨x, o + d, none⟩) hx).trans (hcs d hdl))
            have dc : (d : Int) < (lr : Int) := by omega
            obtain ⟨r1, r2, r3⟩ := RL1.out d hdl
            have RX := Lib.hid ((R0.out.2.2.1 _ (GET.out d hdl)).1)
            have XS := Lib.hid (TXS.out d)
            rw [r3] at XS
            clear hcs hP hC r3
            generalize rs.getD d default = r at *
            obtain ⟨ra, rn, rcap, rcs⟩ := r
            simp only at cR RX r1 r2 XS
            subst r1
            have rl1 := RX.out.1
            have RT := Lib.hid (p := ∀ c, c ≤ rn → (rowT d rcs c).length ≤ 1430) (fun c hc => rowT_len (by omega) (by omega) r2)
            have RS := Lib.hid (p := ∀ c, c < rn → rowT d rcs (c + 1) = rowT d rcs c ++ cellW (rcs.getD c default)) (fun c hc => rowT_step (by omega))
            have R2 := Lib.hid (p := ∀ c, c < rn → (Lit.int .i64 (rcs.getD c default).v).wf = true) (fun c hc => r2 _ (by
              have hc' : c < rcs.length := by omega
              rw [show rcs.getD c default = rcs[c] by simp [List.getD, hc']]; exact List.getElem_mem hc'))
            have XN := Lib.hid (p := X (d + 1) = X d ++ rowT d rcs rn ++ [10]) (by rw [XS.out]; unfold lineT; rw [rl1, List.append_assoc])
            have I0 := Lib.hid (p := ∀ W v, World.ownsRow W w1.heap.size 5 1 v ((X d).length + (⟨(Lib.itoa (d : Int)).toArray⟩ : ByteArray).size) (Lib.byteCells (X d) ++ Lib.strCells ⟨(Lib.itoa (d : Int)).toArray⟩) → World.ownsRow W w1.heap.size 5 1 v (X d ++ rowT d rcs 0).length (Lib.byteCells (X d ++ rowT d rcs 0))) (fun W v o => by
              rw [bc_word, size_word] at o
              have e : rowT d rcs 0 = Lib.itoa (d : Int) := by simp [rowT]
              rw [e, List.length_append]; exact o)
            have il := Lib.itoa_length_le (d : Int) (by omega) (by omega)
            rw [← size_word] at il
            have KT := Lib.hid (fun W => refText0 (d : Int) (by unfold inR; omega) W)
            clear r2 XS
            generalize (⟨(Lib.itoa (d : Int)).toArray⟩ : ByteArray) = f at *
            go_wp2_with (first
              | (at_builtin; have qq := O3; refine Lib.wpList_append_own_string _ rfl _ _ 53 9 rfl w1.heap.size 5 i0 Tryd.underlying53 Tryd.underlying9 hi hz0 hz1 hz2 _ _ _ rfl O3.out f rfl (by unfold maxLen; omega) (by omega) B3.out.size ?_; intro v4 w4 h1 h2 _; have O4 := Lib.hid (I0.out _ _ h1); have B4 := Lib.hid (B3.out.grown h2 B3.out.size (fun k e => (O3.out.lt k e).1)); clear h1 h2)
              | (go_at_call 32; refine (KT.out _).mono ?_; rintro e w3 ⟨rfl, h1⟩; have B3 := Lib.hid (CQ.out.trans (h1.mono CQ.out.size)); have O3 := Lib.hid (own_back PP.out h1); clear h1))
            clear p0 p1
            go_loopw [5, 10] (fun v t wt => ∃ c : Nat, c ≤ rn ∧ t = .int .i64 c ∧ wt.ownsRow w1.heap.size 5 1 v (X d ++ rowT d rcs c).length (Lib.byteCells (X d ++ rowT d rcs c)) ∧ Below w1.heap.size w1 wt) (fun _ t _ => rn - (intOf t).toNat)
            case atStart => exact ⟨0, by omega, rfl, O4.out, B4.out⟩
            case round =>
              rename World => wt
              obtain ⟨c, hc, rfl, hO, hB⟩ := hrel
              have OO := Lib.hid hO
              have BB := Lib.hid hB
              have rt := RT.out c hc
              have tl : (X d ++ rowT d rcs c).length ≤ 6050006 := by rw [List.length_append]; omega
              obtain ⟨p0, p1⟩ := CB.out _ hB
              have c0 := cR.out _ hB
              by_cases hcn : c < rn
              · obtain ⟨y, oy, rfl, hy, hcc⟩ : ∃ y oy, ra = some ⟨y, oy, none⟩ ∧ y < w0.heap.size ∧ ∀ i, i < rn → CC w0 y (oy + i * 2) (rcs.getD i default) := by
                  rcases RX.out.2.2.2 with h0 | h0
                  · omega
                  · exact h0
                obtain ⟨e0, e1⟩ := (hcc c hcn).later (B1.out.trans (hB.mono B1.out.size)) hy
                have ic : (c : Int) < (rn : Int) := by omega
                have ST := Lib.hid (RS.out c hcn)
                have WV := R2.out c hcn
                clear hcc hO hB
                generalize rcs.getD c default = f at *
                have WL := wordC_len WV
                obtain ⟨fh, fv⟩ := f
                simp only at e0 e1 WV
                have NX := Lib.hid (p := ∀ W v, World.ownsRow W w1.heap.size 5 1 v ((X d ++ rowT d rcs c).length + 1 + (⟨(wordC ⟨fh, fv⟩).toArray⟩ : ByteArray).size) (Lib.byteCells (X d ++ rowT d rcs c) ++ [.int .u8 32] ++ Lib.strCells ⟨(wordC ⟨fh, fv⟩).toArray⟩) → World.ownsRow W w1.heap.size 5 1 v (X d ++ rowT d rcs (c + 1)).length (Lib.byteCells (X d ++ rowT d rcs (c + 1)))) (fun W v o => by
                  rw [bc_cell] at o
                  rw [ST.out, ← List.append_assoc]
                  have e : (X d ++ rowT d rcs c ++ cellW ⟨fh, fv⟩).length = (X d ++ rowT d rcs c).length + 1 + (⟨(wordC ⟨fh, fv⟩).toArray⟩ : ByteArray).size := by
                    rw [size_word]; simp [cellW]; omega
                  rw [e]; exact o)
                have ws2 : (⟨(wordC ⟨fh, fv⟩).toArray⟩ : ByteArray).size ≤ 21 := by rw [size_word]; exact WL
                generalize X d ++ rowT d rcs c = T at *
                cases fh with
                | true =>
                  have e : wordC ⟨true, fv⟩ = Lib.itoa fv := rfl
                  rw [e] at NX ws2
                  have KT := Lib.hid (fun W => refText0 fv (wf_in WV) W)
                  clear e
                  generalize (⟨(Lib.itoa fv).toArray⟩ : ByteArray) = u at *
                  go_wp2_with (first
                    | (at_builtin; have qq := B5; refine Lib.wpList_append_own_string _ rfl _ _ 53 9 rfl w1.heap.size 5 i0 Tryd.underlying53 Tryd.underlying9 hi hz0 hz1 hz2 _ _ _ rfl O5.out u rfl (by unfold maxLen; omega) (by omega) B5.out.size ?_; intro v6 w6 h1 h2 _; have O6 := Lib.hid (NX.out _ _ h1); have B6 := Lib.hid (B5.out.grown h2 B5.out.size (fun k e => (O5.out.lt k e).1)); clear h1 h2)
                    | (go_at_call 32; refine (KT.out _).mono ?_; rintro e w3 ⟨rfl, h1⟩; have B7 := Lib.hid (BB.out.trans (h1.mono BB.out.size)); have O7 := Lib.hid (own_back OO.out h1); clear h1)
                    | (at_builtin; refine wp_byte _ 32 rfl _ _ rfl w1.heap.size _ _ _ rfl rfl O7.out (by omega) B7.out.size ?_; intro v4 w4 h1 h2; have O5 := Lib.hid h1; have B5 := Lib.hid ((B7.out.alloc B7.out.size _).grown h2 (Nat.le_trans B7.out.size (by simp)) (fun k e => (O7.out.lt k e).1)); clear h1 h2))
                  go_roundw
                  case rel => exact ⟨c + 1, by omega, by go_num, O6.out, B6.out⟩
                  case measure => simp [intOf]; omega
                | false =>
                  have e : (⟨(wordC ⟨false, fv⟩).toArray⟩ : ByteArray) = ⟨#[45]⟩ := rfl
                  rw [e] at NX ws2
                  clear e
                  go_wp2_with (first
                    | (at_builtin; have qq := B5; refine Lib.wpList_append_own_string _ rfl _ _ 53 9 rfl w1.heap.size 5 i0 Tryd.underlying53 Tryd.underlying9 hi hz0 hz1 hz2 _ _ _ rfl O5.out ⟨#[45]⟩ rfl (by unfold maxLen; omega) (by omega) B5.out.size ?_; intro v6 w6 h1 h2 _; have O6 := Lib.hid (NX.out _ _ h1); have B6 := Lib.hid (B5.out.grown h2 B5.out.size (fun k e => (O5.out.lt k e).1)); clear h1 h2)
                    | (at_builtin; refine wp_byte _ 32 rfl _ _ rfl w1.heap.size _ _ _ rfl rfl OO.out (by omega) BB.out.size ?_; intro v4 w4 h1 h2; have O5 := Lib.hid h1; have B5 := Lib.hid ((BB.out.alloc BB.out.size _).grown h2 (Nat.le_trans BB.out.size (by simp)) (fun k e => (OO.out.lt k e).1)); clear h1 h2))
                  go_roundw
                  case rel => exact ⟨c + 1, by omega, by go_num, O6.out, B6.out⟩
                  case measure => simp [intOf]; omega
              · obtain rfl : c = rn := by omega
                have NX := Lib.hid (p := ∀ W v, World.ownsRow W w1.heap.size 5 1 v ((X d ++ rowT d rcs c).length + 1) (Lib.byteCells (X d ++ rowT d rcs c) ++ [.int .u8 10]) → World.ownsRow W w1.heap.size 5 1 v (X (d + 1)).length (Lib.byteCells (X (d + 1)))) (fun W v o => by
                  rw [bc_end] at o
                  have e : (X (d + 1)).length = (X d ++ rowT d rcs c).length + 1 := by rw [XN.out]; simp; omega
                  rw [e, XN.out]; exact o)
                clear hO hB
                generalize X d ++ rowT d rcs c = T at *
                go_wp2_with (at_builtin; refine wp_byte _ 10 rfl _ _ rfl w1.heap.size _ _ _ rfl rfl OO.out (by omega) BB.out.size ?_; intro v4 w4 h1 h2; have O4 := Lib.hid (NX.out _ _ h1); have B4 := Lib.hid ((BB.out.alloc BB.out.size _).grown h2 (Nat.le_trans BB.out.size (by simp)) (fun k e => (OO.out.lt k e).1)); clear h1 h2)
                go_roundw
                case rel => exact ⟨d + 1, by omega, by go_num, O4.out, B4.out⟩
                case measure => simp [intOf]; omega
          · obtain rfl : d = lr := by omega
            have xne : X d ≠ [] := fun e => by
              have h0 := XG.out d
              rw [e] at h0; simp at h0
            obtain ⟨g, cap, rfl, hcv⟩ := conv_bytesT rfl xne PP.out
            by_cases hlong : 1048576 < (X d).length
            · have Y := Lib.hid (LONG.out hlong)
              have hlI : (1048576 : Int) < ((X d).length : Int) := by omega
              clear hP hC
              generalize (X d).length = L at *
              go_wp2
              go_ret2
              exact ⟨Y.out, BW.out.trans (CQ.out.mono BW.out.size)⟩
            · have Y := Lib.hid (GOOD.out (by omega))
              have hlI : ¬ (1048576 : Int) < ((X d).length : Int) := by omega
              clear hP hC
              go_wp2
              go_ret2
              exact ⟨Y.out, BW.out.trans (CQ.out.mono BW.out.size)⟩
  · have Y := Lib.hid (p := PrT ss (rs.map (·.cs)) (.returned (.tuple #[.string ⟨#[]⟩, .int .i64 (validE ss (rs.map (·.cs)))]))) (.inl ⟨hv, rfl⟩)
    generalize validE ss (rs.map (·.cs)) = E at *
    generalize PrT ss (rs.map (·.cs)) = Z at *
    have hv2 : (E == 0) = false := by rw [beq_eq_false_iff_ne]; exact hv
    clear h k hB0 rml
    go_enter Tryd.func14, Tryd.ntmps14
    go_wp2_with (go_at_call 9; refine KV.out.mono ?_; rintro e w1 ⟨rfl, h1⟩; have B1 := Lib.hid (B0.out.trans (h1.mono B0.out.size)); clear h1)
    go_ret2
    exact ⟨Y.out, B1.out⟩
end Go.Proofs.YthkeoeobpdminaaDoor
