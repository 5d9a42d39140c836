/-
  WALK: Print (the program's).
-/
import Derived.Test.YthkeoeobpdminaaDoorWTDay
import Derived.Test.YthkeoeobpdminaaDoorWTOwn3
namespace Go.Proofs.YthkeoeobpdminaaDoor
open Go.RowKit
set_option linter.unusedVariables false
set_option linter.unusedSimpArgs false

theorem bc_name (T : List UInt8) (f : ByteArray) : Lib.byteCells T ++ [.int .u8 32] ++ Lib.strCells f = Lib.byteCells (T ++ nameW f) := by simp [Lib.byteCells, Lib.strCells, nameW]
theorem bc_cell (T u : List UInt8) : Lib.byteCells T ++ [.int .u8 32] ++ Lib.strCells ⟨u.toArray⟩ = Lib.byteCells (T ++ 32 :: u) := by simp [Lib.byteCells, Lib.strCells]
theorem bc_end (T : List UInt8) : Lib.byteCells T ++ [.int .u8 10] = Lib.byteCells (T ++ [10]) := by simp [Lib.byteCells]
theorem bc_app (T u : List UInt8) : Lib.byteCells T ++ Lib.byteCells u = Lib.byteCells (T ++ u) := by simp [Lib.byteCells]
theorem box_kept {w w' : World} {x B n : Nat} {cs : Array Value} {fz : Nat × Nat} {v : Value} {xs : List Value} (h : w.heap[x]? = some (.cells cs 35 fz)) (o : w.ownsRow B 5 1 v n xs) (g : w.grownBy w' v.ownBlock) : w'.heap[x]? = some (.cells cs 35 fz) :=
  (g.block x (Array.getElem?_eq_some_iff.1 h).1 (fun e => ty_apart o h (by decide) e.symm)).trans h
theorem box_cells {w : World} {x : Nat} {u v : Value} (h : w.heap[x]? = some (.cells #[u, v] 35)) : w.cell? ⟨x, 0, none⟩ = some u ∧ w.cell? ⟨x, 1, none⟩ = some v := by
  constructor <;> simp [World.cell?, h]
theorem own_formB {w : World} {B n : Nat} {v : Value} {xs : List Value} (h : w.ownsRow B 5 1 v n xs) (hn : 0 < n) : ∃ g c, v = .slice (some ⟨g, 0, none⟩) n c := by
  rcases h.2 with ⟨_, h0⟩ | ⟨g, c, cur, rfl, _⟩
  · omega
  · exact ⟨g, c, rfl⟩
theorem wp_byte_at {ops : Array Oper} {rest : List Oper} {o : Oper} {a : Act} {Q : Exit → Act → World → Prop} (w : World) (c : Int) (g : Nat) (hg : g = w.heap.size) (hgd : o.guard = none) (s x : Operand)
    (ho : o.op = .call { callee := .builtin .append, args := #[s, x], argTypes := #[53, 53] }) (base : Nat) (v : Value) (n : Nat) (xs : List Value) (hs : a.eval s = v)
    (hx : a.eval x = .slice (some ⟨g, 0, none⟩) 1 1) (hown : w.ownsRow base 5 1 v n xs) (hl : n ≤ 4398046511000) (hb : base ≤ w.heap.size)
    (h : ∀ v' w', w'.ownsRow base 5 1 v' (n + 1) (xs ++ [.int .u8 c]) → (w.alloc (.cells #[.int .u8 c] 5)).grownBy w' v.ownBlock → wpList Tryd.prog ops Q rest (a.put o.dst v') w') :
    wpList Tryd.prog ops Q (o :: rest) a (w.alloc (.cells #[.int .u8 c] 5)) := by
  subst hg; exact wp_byte w c hgd s x ho base v n xs hs hx hown hl hb h
theorem wf_in {v : Int} (h : (Lit.int .i64 v).wf = true) : inR v := wf_inR h

set_option maxRecDepth 100000 in
set_option maxHeartbeats 8000000 in
theorem printT_any (an ar : Option Addr) (ln cn lr cr : Nat) (ss : List ByteArray) (rs : List Rw) (w : World) (h : NL w an ln ss) (k : RL w ar lr rs) (ht : Pows w) :
    Calls Tryd.prog 13 #[.agg #[.slice an ln cn, .slice ar lr cr]] w fun e w' => PrT ss (rs.map (·.cs)) e ∧ Below w.heap.size w w' := by
  have hB0 : Below w.heap.size w (w.alloc (.cells #[.slice an ln cn, .slice ar lr cr] 25)) := (Below.refl _ w).alloc (Nat.le_refl _) _
  have p0 : (w.alloc (.cells #[.slice an ln cn, .slice ar lr cr] 25)).cell? ⟨w.heap.size, 0, none⟩ = some (.slice an ln cn) := by go_simp
  have p1 : (w.alloc (.cells #[.slice an ln cn, .slice ar lr cr] 25)).cell? ⟨w.heap.size, 1, none⟩ = some (.slice ar lr cr) := by go_simp
  have s0 : (w.alloc (.cells #[.slice an ln cn, .slice ar lr cr] 25)).heap.size = w.heap.size + 1 := by simp
  obtain ⟨w0, hw0⟩ : ∃ w0, w.alloc (.cells #[.slice an ln cn, .slice ar lr cr] 25) = w0 := ⟨_, rfl⟩
  rw [hw0] at hB0 p0 p1 s0
  have KV := Lib.hid (validT_any an ar ln cn lr cr ss rs w0 (h.later hB0) (k.later hB0))
  have N0 := Lib.hid (h.later hB0)
  have R0 := Lib.hid (k.later hB0)
  have TB := Lib.hid (Lib.tabBelow_of_tabIs ht)
  have B0 := Lib.hid hB0
  have C0 := Lib.hid (p := ∀ W, Below w0.heap.size w0 W → W.cell? ⟨w.heap.size, 0, none⟩ = some (.slice an ln cn) ∧ W.cell? ⟨w.heap.size, 1, none⟩ = some (.slice ar lr cr)) (fun W b => ⟨(b.cell (p := ⟨w.heap.size, 0, none⟩) (show w.heap.size < _ by omega)).trans p0, (b.cell (p := ⟨w.heap.size, 1, none⟩) (show w.heap.size < _ by omega)).trans p1⟩)
  have sl := h.1
  have rl := k.1
  have rml : (rs.map (·.cs)).length = lr := by rw [List.length_map]; exact rl
  by_cases hv : validE ss (rs.map (·.cs)) = 0
  · obtain ⟨v1, v2, v3, v4⟩ := valid_out hv
    rw [sl] at v1
    rw [rml] at v2
    have GET := Lib.hid (p := ∀ i, i < lr → rs.getD i default ∈ rs) (fun i hi => by
      have hk' : i < rs.length := by omega
      rw [show rs.getD i default = rs[i] by simp [List.getD, hk']]; exact List.getElem_mem hk')
    have RL1 := Lib.hid (p := ∀ i, i < lr → (rs.getD i default).n = ln ∧ (∀ c ∈ (rs.getD i default).cs, (Lit.int .i64 c.v).wf = true) ∧ (rs.map (·.cs)).getD i [] = (rs.getD i default).cs) (fun i hi => by
      have m := GET.out i hi
      refine ⟨?_, (k.2.2.1 _ m).1.2.2.1, by simp [List.getD, show i < rs.length by omega]⟩
      rw [← (k.2.2.1 _ m).1.1, v4 _ (List.mem_map.2 ⟨_, m, rfl⟩), sl])
    have HL := Lib.hid (p := ∀ j, j ≤ ln → (headT ss j).length ≤ 2051) (fun j hj => headT_len (by omega) v3)
    have HST := Lib.hid (p := ∀ j, j < ln → headT ss (j + 1) = headT ss j ++ nameW (ss.getD j default)) (fun j hj => headT_step (by omega))
    have NS := Lib.hid (p := ∀ j, j < ln → (ss.getD j default).size ≤ 31) (fun j hj => by
      have hj' : j < ss.length := by omega
      rw [show ss.getD j default = ss[j] by simp [List.getD, hj']]; exact v3 _ (List.getElem_mem hj'))
    have TX0 := Lib.hid (p := headT ss ln ++ [10] = textT ss (rs.map (·.cs)) 0) (by unfold textT rowsT; rw [sl]; simp)
    have XG := Lib.hid (p := ∀ d, 0 < (textT ss (rs.map (·.cs)) d).length) (fun d => by unfold textT; simp; omega)
    have TXS := Lib.hid (fun d => textT_step ss (rs.map (·.cs)) d)
    have LONG := Lib.hid (p := ∀ d, d ≤ lr → 1048576 < (textT ss (rs.map (·.cs)) d).length → PrT ss (rs.map (·.cs)) (.returned (.tuple #[.string ⟨#[]⟩, .int .i64 6]))) (fun d hd hq => .inr (.inl ⟨hv, by
      have := textT_mono ss (rs.map (·.cs)) (lr - d) d
      rw [show d + (lr - d) = lr by omega] at this
      rw [rml]; omega, rfl⟩))
    have GOOD := Lib.hid (p := (textT ss (rs.map (·.cs)) lr).length ≤ 1048576 → PrT ss (rs.map (·.cs)) (.returned (.tuple #[.string ⟨(textT ss (rs.map (·.cs)) lr).toArray⟩, .int .i64 0]))) (fun hq => .inr (.inr ⟨hv, by rw [rml]; exact hq, by rw [rml]⟩))
    rw [hv] at KV
    generalize PrT ss (rs.map (·.cs)) = Z at *
    obtain ⟨X, hX⟩ : ∃ X, textT ss (rs.map (·.cs)) = X := ⟨_, rfl⟩
    simp only [hX] at TX0 TXS LONG GOOD XG
    obtain ⟨i0, hi, hz0, hz1, hz2⟩ := info_parts info8
    clear h k hB0 hv hX v3 v4 rml ht
    have kc := fun (w : World) (C : Array Value) (n c : Nat) => Lib.run_convert_bytes_const (P := Tryd.prog) w 53 5 C n c Tryd.underlying53 Tryd.underlying5
    go_enter Tryd.func13, Tryd.ntmps13
    go_wp2_with (go_at_call 8; refine KV.out.mono ?_; rintro e w1 ⟨rfl, h1⟩; have B1 := Lib.hid h1; clear h1; have D1 := Lib.hid (own_dayD w1); have A1 := Lib.hid ((Below.refl w1.heap.size w1).alloc (Nat.le_refl _) (.cells #[.int .u8 100, .int .u8 97, .int .u8 121] 5 (3, 4))); clear p0 p1; obtain ⟨p0, p1⟩ := C0.out _ (B1.out.trans (A1.out.mono B1.out.size)))
    have BW := Lib.hid (B0.out.trans (B1.out.mono B0.out.size))
    have TW := Lib.hid (p := Lib.TabBelow Tryd.prog w1.heap.size w1 "internal/strconv.uint64pow10" .u64 Lib.pow10Tab) (fun w' b => TB.out w' (BW.out.trans (b.mono BW.out.size)))
    have CB := Lib.hid (fun W (b : Below w1.heap.size w1 W) => C0.out W (B1.out.trans (b.mono B1.out.size)))
    go_loopw [5, 22] (fun v t wr => ∃ j : Nat, j ≤ ln ∧ t = .int .i64 j ∧ ownD wr w1.heap.size v (headT ss j).length (Lib.byteCells (headT ss j)) ∧ Below w1.heap.size w1 wr) (fun _ t _ => ln - (intOf t).toNat)
    case atStart => exact ⟨0, by omega, rfl, by have := D1.out; simpa [headT] using this, A1.out⟩
    case round =>
      rename World => wr
      obtain ⟨j, hj, rfl, hO, hB⟩ := hrel
      have OO := Lib.hid hO
      have BB := Lib.hid hB
      have hh := HL.out j hj
      by_cases hlt : j < ln
      · obtain ⟨x, o, rfl, hx, hcs⟩ : ∃ x o, an = some ⟨x, o, none⟩ ∧ x < w0.heap.size ∧ ∀ i, i < ln → w0.cell? ⟨x, o + i, none⟩ = some (.string (ss.getD i default)) := by
          rcases N0.out.2.2.2 with h0 | h0
          · omega
          · exact h0
        have c0 := ((B1.out.trans (hB.mono B1.out.size)).cell (p := ⟨x, o + j, none⟩) hx).trans (hcs j hlt)
        have jc : (j : Int) < (ln : Int) := by omega
        have fz := NS.out j hlt
        have ST := Lib.hid (HST.out j hlt)
        generalize ss.getD j default = f at *
        have NX := Lib.hid (p := ∀ W v, World.ownsRow W w1.heap.size 5 1 v ((headT ss j).length + 1 + f.size) (Lib.byteCells (headT ss j) ++ [.int .u8 32] ++ Lib.strCells f) → World.ownsRow W w1.heap.size 5 1 v (headT ss (j + 1)).length (Lib.byteCells (headT ss (j + 1)))) (fun W v o => by
          rw [bc_name] at o
          rw [ST.out]
          have e : (headT ss j ++ nameW f).length = (headT ss j).length + 1 + f.size := by
            have : f.data.toList.length = f.size := Array.length_toList
            simp [nameW]; omega
          rw [e]; exact o)
        clear hcs hO hB p0 p1
        generalize headT ss j = T at *
        go_wp2_with (first
          | (at_builtin; have qq := O1; refine Lib.wpList_append_own_string _ rfl _ _ 53 9 rfl w1.heap.size 5 i0 Tryd.underlying53 Tryd.underlying9 hi hz0 hz1 hz2 _ _ _ rfl O1.out f rfl (by unfold maxLen; omega) (by omega) S2.out ?_; intro v3 w3 h1 h2 _; have O3 := Lib.hid (NX.out _ _ h1); have B3 := Lib.hid (B2.out.grown h2 S2.out (fun k e => (O1.out.lt k e).1)); clear h1 h2)
          | (at_builtin; refine wp_byteD _ 32 rfl _ _ rfl w1.heap.size _ _ _ rfl rfl OO.out (by omega) BB.out.size ?_; intro v2 w2 h1 h2; have O1 := Lib.hid h1; have B2 := Lib.hid ((BB.out.alloc BB.out.size _).grown h2 (Nat.le_trans BB.out.size (by simp)) OO.out.lt); have S2 := Lib.hid B2.out.size; clear h1 h2))
        go_roundw
        case rel => exact ⟨j + 1, by omega, by go_num, .inl O3.out, B3.out⟩
        case measure => simp [intOf]; omega
      · obtain rfl : j = ln := by omega
        have TX := Lib.hid (p := ∀ W v, World.ownsRow W w1.heap.size 5 1 v ((headT ss j).length + 1) (Lib.byteCells (headT ss j) ++ [.int .u8 10]) → World.ownsRow W w1.heap.size 5 1 v (X 0).length (Lib.byteCells (X 0))) (fun W v o => by
          rw [bc_end, TX0.out] at o
          rw [← TX0.out] at o ⊢
          simpa using o)
        have XL := Lib.hid (p := (X 0).length ≤ 1048576) (by rw [← TX0.out]; simp; omega)
        clear hO hB p0 p1
        generalize headT ss j = T at *
        go_wp2_with (at_builtin; refine wp_byteD _ 10 rfl _ _ rfl w1.heap.size _ _ _ rfl rfl OO.out (by omega) BB.out.size ?_; intro v2 w2 h1 h2; have O1 := Lib.hid (TX.out _ _ h1); have B2 := Lib.hid ((BB.out.alloc BB.out.size _).grown h2 (Nat.le_trans BB.out.size (by simp)) OO.out.lt); obtain ⟨p0, p1⟩ := CB.out _ B2.out; clear h1 h2)
        go_loopw [5, 39] (fun v t wr => ∃ d : Nat, d ≤ lr ∧ t = .int .i64 d ∧ wr.ownsRow w1.heap.size 5 1 v (X d).length (Lib.byteCells (X d)) ∧ RowKit.Hid ((X d).length ≤ 1048576) ∧ Below w1.heap.size w1 wr) (fun _ t _ => lr - (intOf t).toNat)
        case atStart => exact ⟨0, by omega, rfl, O1.out, XL.out, B2.out⟩
        case round =>
          rename World => ws
          obtain ⟨d, hd, rfl, hP, hXL, hC⟩ := hrel
          have PP := Lib.hid hP
          have CQ := Lib.hid hC
          have xl := hXL.out
          clear p0 p1
          by_cases hdl : d < lr
          · obtain ⟨x, o, rfl, hx, hcs⟩ : ∃ x o, ar = some ⟨x, o, none⟩ ∧ x < w0.heap.size ∧ ∀ i, i < lr → w0.cell? ⟨x, o + i, none⟩ = some (.slice (rs.getD i default).a (rs.getD i default).n (rs.getD i default).cap) := by
              rcases R0.out.2.2.2 with h0 | h0
              · omega
              · exact h0
            have c0 := ((B1.out.trans (hC.mono B1.out.size)).cell (p := ⟨x, o + d, none⟩) hx).trans (hcs d hdl)
            have dc : (d : Int) < (lr : Int) := by omega
            obtain ⟨r1, r2, r3⟩ := RL1.out d hdl
            have RX := Lib.hid ((R0.out.2.2.1 _ (GET.out d hdl)).1)
            have XS := Lib.hid (TXS.out d)
            rw [r3] at XS
            have LG := Lib.hid (LONG.out (d + 1) (by omega))
            clear hcs hP hC r3
            generalize rs.getD d default = r at *
            obtain ⟨ra, rn, rcap, rcs⟩ := r
            simp only at c0 RX r1 r2 XS
            subst r1
            have rl1 := RX.out.1
            have RT := Lib.hid (p := ∀ c, c ≤ rn → (rowT d rcs c).length ≤ 1430) (fun c hc => rowT_len (by omega) (by omega) r2)
            have RS := Lib.hid (p := ∀ c, c < rn → rowT d rcs (c + 1) = rowT d rcs c ++ cellW (rcs.getD c default)) (fun c hc => rowT_step (by omega))
            have R2 := Lib.hid (p := ∀ c, c < rn → (Lit.int .i64 (rcs.getD c default).v).wf = true) (fun c hc => r2 _ (by
              have hc' : c < rcs.length := by omega
              rw [show rcs.getD c default = rcs[c] by simp [List.getD, hc']]; exact List.getElem_mem hc'))
            have XN := Lib.hid (p := X (d + 1) = X d ++ rowT d rcs rn ++ [10]) (by rw [XS.out]; unfold lineT; rw [rl1, List.append_assoc])
            have I0 := Lib.hid (p := ∀ W v, World.ownsRow W w1.heap.size 5 1 v ((X d).length + (Lib.itoa (d : Int)).length) (Lib.byteCells (X d) ++ Lib.byteCells (Lib.itoa (d : Int))) → World.ownsRow W w1.heap.size 5 1 v (X d ++ rowT d rcs 0).length (Lib.byteCells (X d ++ rowT d rcs 0))) (fun W v o => by
              rw [bc_app] at o
              have e : rowT d rcs 0 = Lib.itoa (d : Int) := by simp [rowT]
              rw [e, List.length_append]; exact o)
            have il := Lib.itoa_length_le (d : Int) (by omega) (by omega)
            have dlo : (-9223372036854775808 : Int) ≤ (d : Int) := by omega
            have dhi : (d : Int) ≤ 9223372036854775807 := by omega
            clear r2 XS
            go_wp2_with (go_at_call 30; refine (Tryd.strconv_AppendInt_10 w1.heap.size _ (d : Int) dlo dhi _ _ _ PP.out CQ.out.size (by omega) (TW.out.on CQ.out)).mono ?_; rintro e w3 ⟨v3, rfl, h1, h2, h3⟩; have O3 := Lib.hid (I0.out _ _ h1); have B3 := Lib.hid (CQ.out.trans h2); clear h1 h2 h3)
            go_loopw [5, 49] (fun v t wt => ∃ c : Nat, c ≤ rn ∧ t = .int .i64 c ∧ wt.ownsRow w1.heap.size 5 1 v (X d ++ rowT d rcs c).length (Lib.byteCells (X d ++ rowT d rcs c)) ∧ Below w1.heap.size w1 wt) (fun _ t _ => rn - (intOf t).toNat)
            case atStart => exact ⟨0, by omega, rfl, O3.out, B3.out⟩
            case round =>
              rename World => wt
              obtain ⟨c, hc, rfl, hO, hB⟩ := hrel
              have OO := Lib.hid hO
              have BB := Lib.hid hB
              have rt := RT.out c hc
              have tl : (X d ++ rowT d rcs c).length ≤ 1050006 := by rw [List.length_append]; omega
              by_cases hcn : c < rn
              · obtain ⟨y, oy, rfl, hy, hcc⟩ : ∃ y oy, ra = some ⟨y, oy, none⟩ ∧ y < w0.heap.size ∧ ∀ i, i < rn → CC w0 y (oy + i * 2) (rcs.getD i default) := by
                  rcases RX.out.2.2.2 with h0 | h0
                  · omega
                  · exact h0
                obtain ⟨e0, e1⟩ := (hcc c hcn).later (B1.out.trans (hB.mono B1.out.size)) hy
                have ic : (c : Int) < (rn : Int) := by omega
                have ST := Lib.hid (RS.out c hcn)
                have WV := R2.out c hcn
                clear hcc hO hB
                generalize rcs.getD c default = f at *
                have WL := wordC_len WV
                obtain ⟨fh, fv⟩ := f
                simp only at e0 e1 WV
                have KW := Lib.hid (fun W (b : Below w1.heap.size w1 W) => cellWord_any fh fv (wf_in WV) W (fun w' q => TW.out w' (b.trans (q.mono b.size))))
                have NX := Lib.hid (p := ∀ W v, World.ownsRow W w1.heap.size 5 1 v ((X d ++ rowT d rcs c).length + 1 + (⟨(wordC ⟨fh, fv⟩).toArray⟩ : ByteArray).size) (Lib.byteCells (X d ++ rowT d rcs c) ++ [.int .u8 32] ++ Lib.strCells ⟨(wordC ⟨fh, fv⟩).toArray⟩) → World.ownsRow W w1.heap.size 5 1 v (X d ++ rowT d rcs (c + 1)).length (Lib.byteCells (X d ++ rowT d rcs (c + 1)))) (fun W v o => by
                  rw [bc_cell] at o
                  rw [ST.out, ← List.append_assoc]
                  have e : (X d ++ rowT d rcs c ++ cellW ⟨fh, fv⟩).length = (X d ++ rowT d rcs c).length + 1 + (⟨(wordC ⟨fh, fv⟩).toArray⟩ : ByteArray).size := by
                    have : (⟨(wordC ⟨fh, fv⟩).toArray⟩ : ByteArray).size = (wordC ⟨fh, fv⟩).length := by simp [ByteArray.size]
                    rw [this]; simp [cellW]; omega
                  rw [e]; exact o)
                have ws2 : (⟨(wordC ⟨fh, fv⟩).toArray⟩ : ByteArray).size ≤ 21 := by
                  have : (⟨(wordC ⟨fh, fv⟩).toArray⟩ : ByteArray).size = (wordC ⟨fh, fv⟩).length := by simp [ByteArray.size]
                  omega
                have XB := Lib.hid (World.alloc_heap_new wt (.cells #[.bool fh, .int .i64 fv] 35))
                have OA := Lib.hid (OO.out.alloc (.cells #[.bool fh, .int .i64 fv] 35))
                have AA := Lib.hid (BB.out.alloc BB.out.size (.cells #[.bool fh, .int .i64 fv] 35))
                generalize (⟨(wordC ⟨fh, fv⟩).toArray⟩ : ByteArray) = u at *
                generalize X d ++ rowT d rcs c = T at *
                go_wp2_with (first
                  | (at_builtin; have qq := B5; refine Lib.wpList_append_own_string _ rfl _ _ 53 9 rfl w1.heap.size 5 i0 Tryd.underlying53 Tryd.underlying9 hi hz0 hz1 hz2 _ _ _ rfl O5.out u rfl (by unfold maxLen; omega) (by omega) B5.out.size ?_; intro v6 w6 h1 h2 _; have O6 := Lib.hid (NX.out _ _ h1); have B6 := Lib.hid (B5.out.grown h2 B5.out.size (fun k e => (O5.out.lt k e).1)); clear h1 h2)
                  | (go_at_call 31; refine (KW.out _ B4.out).mono ?_; rintro e w5 ⟨rfl, h1⟩; have B5 := Lib.hid (B4.out.trans (h1.mono B4.out.size)); have O5 := Lib.hid (own_back O4.out h1); clear h1)
                  | (at_builtin; refine wp_byte_at _ 32 (wt.heap.size + 1) (by simp) rfl _ _ rfl w1.heap.size _ _ _ rfl rfl OA.out (by omega) AA.out.size ?_; intro v4 w4 h1 h2; have O4 := Lib.hid h1; have B4 := Lib.hid ((AA.out.alloc AA.out.size _).grown h2 (Nat.le_trans AA.out.size (by simp)) (fun k e => (OA.out.lt k e).1)); obtain ⟨x0, x1⟩ := box_cells (box_kept ((Below.heap_alloc _ _ _ (by simp)).trans XB.out) (OA.out.alloc _) h2); clear h1 h2))
                go_roundw
                case rel => exact ⟨c + 1, by omega, by go_num, O6.out, B6.out⟩
                case measure => simp [intOf]; omega
              · obtain rfl : c = rn := by omega
                have NX := Lib.hid (p := ∀ W v, World.ownsRow W w1.heap.size 5 1 v ((X d ++ rowT d rcs c).length + 1) (Lib.byteCells (X d ++ rowT d rcs c) ++ [.int .u8 10]) → World.ownsRow W w1.heap.size 5 1 v (X (d + 1)).length (Lib.byteCells (X (d + 1))) ∧ ∃ g cc, v = .slice (some ⟨g, 0, none⟩) (X (d + 1)).length cc) (fun W v o => by
                  rw [bc_end] at o
                  have e : (X (d + 1)).length = (X d ++ rowT d rcs c).length + 1 := by rw [XN.out]; simp; omega
                  have o2 : World.ownsRow W w1.heap.size 5 1 v (X (d + 1)).length (Lib.byteCells (X (d + 1))) := by rw [e, XN.out]; exact o
                  exact ⟨o2, own_formB o2 (by omega)⟩)
                clear hO hB
                generalize X d ++ rowT d rcs c = T at *
                obtain ⟨L, hL⟩ : ∃ L, (X (d + 1)).length = L := ⟨_, rfl⟩
                by_cases hlong : 1048576 < L
                · have Y := Lib.hid (LG.out (by rw [hL]; exact hlong))
                  have hlI : (1048576 : Int) < (L : Int) := by omega
                  rw [hL] at NX
                  go_wp2_with (at_builtin; refine wp_byte _ 10 rfl _ _ rfl w1.heap.size _ _ _ rfl rfl OO.out (by omega) BB.out.size ?_; intro v4 w4 h1 h2; obtain ⟨h3, g, cc, rfl⟩ := NX.out _ _ h1; have O4 := Lib.hid h3; have B4 := Lib.hid ((BB.out.alloc BB.out.size _).grown h2 (Nat.le_trans BB.out.size (by simp)) (fun k e => (OO.out.lt k e).1)); clear h1 h2 h3)
                  go_ret2
                  exact ⟨Y.out, BW.out.trans (B4.out.mono BW.out.size)⟩
                · have hlI : ¬ (1048576 : Int) < (L : Int) := by omega
                  have hX2 := Lib.hid (p := (X (d + 1)).length ≤ 1048576) (by omega)
                  have HLL := Lib.hid hL
                  rw [hL] at NX
                  clear hL
                  go_wp2_with (at_builtin; refine wp_byte _ 10 rfl _ _ rfl w1.heap.size _ _ _ rfl rfl OO.out (by omega) BB.out.size ?_; intro v4 w4 h1 h2; obtain ⟨h3, g, cc, rfl⟩ := NX.out _ _ h1; have O4 := Lib.hid h3; have B4 := Lib.hid ((BB.out.alloc BB.out.size _).grown h2 (Nat.le_trans BB.out.size (by simp)) (fun k e => (OO.out.lt k e).1)); clear h1 h2 h3)
                  go_roundw
                  case rel => exact ⟨d + 1, by omega, by go_num, by rw [HLL.out]; exact O4.out, hX2.out, B4.out⟩
                  case measure => simp [intOf]; omega
          · obtain rfl : d = lr := by omega
            have Y := Lib.hid (GOOD.out xl)
            have xne : X d ≠ [] := fun e => by
              have h0 := XG.out d
              rw [e] at h0; simp at h0
            obtain ⟨g, cap, rfl, hcv⟩ := conv_bytesT rfl xne PP.out
            clear hP hC
            go_wp2
            go_ret2
            exact ⟨Y.out, BW.out.trans (CQ.out.mono BW.out.size)⟩
  · have Y := Lib.hid (p := PrT ss (rs.map (·.cs)) (.returned (.tuple #[.string ⟨#[]⟩, .int .i64 (validE ss (rs.map (·.cs)))]))) (.inl ⟨hv, rfl⟩)
    generalize validE ss (rs.map (·.cs)) = E at *
    generalize PrT ss (rs.map (·.cs)) = Z at *
    have hv2 : (E == 0) = false := by rw [beq_eq_false_iff_ne]; exact hv
    clear h k hB0 rml
    go_enter Tryd.func13, Tryd.ntmps13
    go_wp2_with (go_at_call 8; refine KV.out.mono ?_; rintro e w1 ⟨rfl, h1⟩; have B1 := Lib.hid (B0.out.trans (h1.mono B0.out.size)); clear h1)
    go_ret2
    exact ⟨Y.out, B1.out⟩
end Go.Proofs.YthkeoeobpdminaaDoor
