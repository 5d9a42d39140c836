import Derived.Test.YtajocakmmgpoaaaGreatDoorXAE
import Derived.Test.YtajocakmmgpoaaaGreatDoorXAH
import Derived.Test.YtajocakmmgpoaaaGreatDoorXAK
import Derived.Test.YtajocakmmgpoaaaGreatDoorXAL
import Derived.Test.YtajocakmmgpoaaaGreatDoorXAC
namespace Go.Proofs.YtajocakmmgpoaaaGreatDoor
open Go.RowKit
set_option linter.unusedVariables false
set_option linter.unusedSimpArgs false

theorem bc_name (T : List UInt8) (f : ByteArray) : Lib.byteCells T ++ [.int .u8 32] ++ Lib.strCells f = Lib.byteCells (T ++ nameW f) := by simp [Lib.byteCells, Lib.strCells, nameW]
theorem bc_cell (T u : List UInt8) : Lib.byteCells T ++ [.int .u8 32] ++ Lib.strCells ⟨u.toArray⟩ = Lib.byteCells (T ++ 32 :: u) := by simp [Lib.byteCells, Lib.strCells]
theorem bc_end (T : List UInt8) : Lib.byteCells T ++ [.int .u8 10] = Lib.byteCells (T ++ [10]) := by simp [Lib.byteCells]
theorem bc_app (T u : List UInt8) : Lib.byteCells T ++ Lib.byteCells u = Lib.byteCells (T ++ u) := by simp [Lib.byteCells]
theorem box_kept {w w' : World} {x B n : Nat} {cs : Array Value} {fz : Nat × Nat} {v : Value} {xs : List Value} (h : w.heap[x]? = some (.cells cs 34 fz)) (o : w.ownsRow B 5 1 v n xs) (g : w.grownBy w' v.ownBlock) : w'.heap[x]? = some (.cells cs 34 fz) :=
  (g.block x (Array.getElem?_eq_some_iff.1 h).1 (fun e => ty_apart o h (by decide) e.symm)).trans h
theorem box_cells {w : World} {x : Nat} {u v : Value} (h : w.heap[x]? = some (.cells #[u, v] 34)) : w.cell? ⟨x, 0, none⟩ = some u ∧ w.cell? ⟨x, 1, none⟩ = some v := by
  constructor <;> simp [World.cell?, h]
theorem own_formB {w : World} {B n : Nat} {v : Value} {xs : List Value} (h : w.ownsRow B 5 1 v n xs) (hn : 0 < n) : ∃ g c, v = .slice (some ⟨g, 0, none⟩) n c := by
  rcases h.2 with ⟨_, h0⟩ | ⟨g, c, cur, rfl, _⟩
  · omega
  · exact ⟨g, c, rfl⟩
theorem wp_byte_at {ops : Array Oper} {rest : List Oper} {o : Oper} {a : Act} {Q : Exit → Act → World → Prop} (w : World) (c : Int) (g : Nat) (hg : g = w.heap.size) (hgd : o.guard = none) (s x : Operand)
    (ho : o.op = .call { callee := .builtin .append, args := #[s, x], argTypes := #[64, 64] }) (base : Nat) (v : Value) (n : Nat) (xs : List Value) (hs : a.eval s = v)
    (hx : a.eval x = .slice (some ⟨g, 0, none⟩) 1 1) (hown : w.ownsRow base 5 1 v n xs) (hl : n ≤ 4398046511000) (hb : base ≤ w.heap.size)
    (h : ∀ v' w', w'.ownsRow base 5 1 v' (n + 1) (xs ++ [.int .u8 c]) → (w.alloc (.cells #[.int .u8 c] 5)).grownBy w' v.ownBlock → wpList Tryz.prog ops Q rest (a.put o.dst v') w') :
    wpList Tryz.prog ops Q (o :: rest) a (w.alloc (.cells #[.int .u8 c] 5)) := by
  subst hg; exact wp_byte w c hgd s x ho base v n xs hs hx hown hl hb h
theorem wf_in {v : Int} (h : (Lit.int .i64 v).wf = true) : inR v := wf_inR h

set_option maxRecDepth 100000 in
set_option maxHeartbeats 8000000 in
theorem printT_any (an ar : Option Addr) (ln cn lr cr : Nat) (ss : List ByteArray) (rs : List Rw) (w : World) (h : NL w an ln ss) (k : RL w ar lr rs) (ht : Pows w) :
    Calls Tryz.prog 12 #[.agg #[.slice an ln cn, .slice ar lr cr]] w fun e w' => PrT ss (rs.map (·.cs)) e ∧ Below w.heap.size w w' := by
  have hB0 : Below w.heap.size w (w.alloc (.cells #[.slice an ln cn, .slice ar lr cr] 25)) := (Below.refl _ w).alloc (Nat.le_refl _) _
  have p0 : (w.alloc (.cells #[.slice an ln cn, .slice ar lr cr] 25)).cell? ⟨w.heap.size, 0, none⟩ = some (.slice an ln cn) := by go_simp
  have p1 : (w.alloc (.cells #[.slice an ln cn, .slice ar lr cr] 25)).cell? ⟨w.heap.size, 1, none⟩ = some (.slice ar lr cr) := by go_simp
  have s0 : (w.alloc (.cells #[.slice an ln cn, .slice ar lr cr] 25)).heap.size = w.heap.size + 1 := by simp
  obtain ⟨w0, hw0⟩ : ∃ w0, w.alloc (.cells #[.slice an ln cn, .slice ar lr cr] 25) = w0 := ⟨_, rfl⟩
  rw [hw0] at hB0 p0 p1 s0
  have KV := Lib.hid (validT_any an ar ln cn lr cr ss rs w0 (h.later hB0) (k.later hB0))
  have N0 := Lib.hid (h.later hB0)
  have R0 := Lib.hid (k.later hB0)
  have TB := Lib.hid (Lib.tabBelow_of_tabIs ht)
  have B0 := Lib.hid hB0
  have C0 := Lib.hid (p := ∀ W, Below w0.heap.size w0 W → W.cell? ⟨w.heap.size, 0, none⟩ = some (.slice an ln cn) ∧ W.cell? ⟨w.heap.size, 1, none⟩ = some (.slice ar lr cr)) (fun W b => ⟨(b.cell (p := ⟨w.heap.size, 0, none⟩) (show w.heap.size < _ by omega)).trans p0, (b.cell (p := ⟨w.heap.size, 1, none⟩) (show w.heap.size < _ by omega)).trans p1⟩)
  have sl := h.1
  have rl := k.1
  have rml : (rs.map (·.cs)).length = lr := by rw [List.length_map]; exact rl
  by_cases hv : validE ss (rs.map (·.cs)) = 0
  · obtain ⟨v1, v2, v3, v4⟩ := valid_out hv
    rw [sl] at v1
    rw [rml] at v2
    have GET := Lib.hid (p := ∀ i, i < lr → rs.getD i default ∈ rs) (fun i hi => by
      have hk' : i < rs.length := by omega
      rw [show rs.getD i default = rs[i] by simp [List.getD, hk']]; exact List.getElem_mem hk')
    have RL1 := Lib.hid (p := ∀ i, i < lr → (rs.getD i default).n = ln ∧ (∀ c ∈ (rs.getD i default).cs, (Lit.int .i64 c.v).wf = true) ∧ (rs.map (·.cs)).getD i [] = (rs.getD i default).cs) (fun i hi => by
      have m := GET.out i hi
      refine ⟨?_, (k.2.2.1 _ m).1.2.2.1, by simp [List.getD, show i < rs.length by omega]⟩
      rw [← (k.2.2.1 _ m).1.1, v4 _ (List.mem_map.2 ⟨_, m, rfl⟩), sl])
    have HL := Lib.hid (p := ∀ j, j ≤ ln → (headT ss j).length ≤ 2051) (fun j hj => headT_len (by omega) v3)
    have HST := Lib.hid (p := ∀ j, j < ln → headT ss (j + 1) = headT ss j ++ nameW (ss.getD j default)) (fun j hj => headT_step (by omega))
    have NS := Lib.hid (p := ∀ j, j < ln → (ss.getD j default).size ≤ 31) (fun j hj => by
      have hj' : j < ss.length := by omega
      rw [show ss.getD j default = ss[j] by simp [List.getD, hj']]; exact v3 _ (List.getElem_mem hj'))
    have TX0 := Lib.hid (p := headT ss ln ++ [10] = textT ss (rs.map (·.cs)) 0) (by unfold textT rowsT; rw [sl]; simp)
    have XG := Lib.hid (p := ∀ d, 0 < (textT ss (rs.map (·.cs)) d).length) (fun d => by unfold textT; simp; omega)
    have TXS := Lib.hid (fun d => textT_step ss (rs.map (·.cs)) d)
    have LONG := Lib.hid (p := ∀ d, d ≤ lr → 1048576 < (textT ss (rs.map (·.cs)) d).length → PrT ss (rs.map (·.cs)) (.returned (.tuple #[.string ⟨#[]⟩, .int .i64 6]))) (fun d hd hq => .inr (.inl ⟨hv, by
      have := textT_mono ss (rs.map (·.cs)) (lr - d) d
      rw [show d + (lr - d) = lr by omega] at this
      rw [rml]; omega, rfl⟩))
    have GOOD := Lib.hid (p := (textT ss (rs.map (·.cs)) lr).length ≤ 1048576 → PrT ss (rs.map (·.cs)) (.returned (.tuple #[.string ⟨(textT ss (rs.map (·.cs)) lr).toArray⟩, .int .i64 0]))) (fun hq => .inr (.inr ⟨hv, by rw [rml]; exact hq, by rw [rml]⟩))
    rw [hv] at KV
    generalize PrT ss (rs.map (·.cs)) = Z at *
    obtain ⟨X, hX⟩ : ∃ X, textT ss (rs.map (·.cs)) = X := ⟨_, rfl⟩
    simp only [hX] at TX0 TXS LONG GOOD XG
    obtain ⟨i0, hi, hz0, hz1, hz2⟩ := info_parts info8
    clear h k hB0 hv hX v3 v4 rml ht
    have kc := fun (w : World) (C : Array Value) (n c : Nat) => Lib.run_convert_bytes_const (P := Tryz.prog) w 64 5 C n c Tryz.underlying64 Tryz.underlying5
    go_enter Tryz.func12, Tryz.ntmps12
    go_wp2_with (go_at_call 6; refine KV.out.mono ?_; rintro e w1 ⟨rfl, h1⟩; have B1 := Lib.hid h1; clear h1; have D1 := Lib.hid (own_dayD w1); have A1 := Lib.hid ((Below.refl w1.heap.size w1).alloc (Nat.le_refl _) (.cells #[.int .u8 100, .int .u8 97, .int .u8 121] 5 (3, 4))); clear p0 p1; obtain ⟨p0, p1⟩ := C0.out _ (B1.out.trans (A1.out.mono B1.out.size)))
    have BW := Lib.hid (B0.out.trans (B1.out.mono B0.out.size))
    have TW := Lib.hid (p := Lib.TabBelow Tryz.prog w1.heap.size w1 "internal/strconv.uint64pow10" .u64 Lib.pow10Tab) (fun w' b => TB.out w' (BW.out.trans (b.mono BW.out.size)))
    have CB := Lib.hid (fun W (b : Below w1.heap.size w1 W) => C0.out W (B1.out.trans (b.mono B1.out.size)))
    go_loopw [5, 22] (fun v t wr => ∃ j : Nat, j ≤ ln ∧ t = .int .i64 j ∧ ownD wr w1.heap.size v (headT ss j).length (Lib.byteCells (headT ss j)) ∧ Below w1.heap.size w1 wr) (fun _ t _ => ln - (intOf t).toNat)
    case atStart => exact ⟨0, by omega, rfl, by have := D1.out; simpa [headT] using this, A1.out⟩
    case round =>
      rename World => wr
      obtain ⟨j, hj, rfl, hO, hB⟩ := hrel
      have OO := Lib.hid hO
      have BB := Lib.hid hB
      have hh := HL.out j hj
      by_cases hlt : j < ln
      · obtain ⟨x, o, rfl, hx, hcs⟩ : ∃ x o, an = some ⟨x, o, none⟩ ∧ x < w0.heap.size ∧ ∀ i, i < ln → w0.cell? ⟨x, o + i, none⟩ = some (.string (ss.getD i default)) := by
          rcases N0.out.2.2.2 with h0 | h0
          · omega
          · exact h0
        have c0 := ((B1.out.trans (hB.mono B1.out.size)).cell (p := ⟨x, o + j, none⟩) hx).trans (hcs j hlt)
        have jc : (j : Int) < (ln : Int) := by omega
        have fz := NS.out j hlt
        have ST := Lib.hid (HST.out j hlt)
        generalize ss.getD j default = f at *
        have NX := Lib.hid (p := ∀ W v, World.ownsRow W w1.heap.size 5 1 v ((headT ss j).length + 1 + f.size) (Lib.byteCells (headT ss j) ++ [.int .u8 32] ++ Lib.strCells f) → World.ownsRow W w1.heap.size 5 1 v (headT ss (j + 1)).length (Lib.byteCells (headT ss (j + 1)))) (fun W v o => by
          rw [bc_name] at o
          rw [ST.out]
          have e : (headT ss j ++ nameW f).length = (headT ss j).length + 1 + f.size := by
            have : f.data.toList.length = f.size := Array.length_toList
            simp [nameW]; omega
          rw [e]; exact o)
        clear hcs hO hB p0 p1
        generalize headT ss j = T at *
        go_wp2_with (first
          | (at_builtin; have qq := O1; refine Lib.wpList_append_own_string _ rfl _ _ 64 9 rfl w1.heap.size 5 i0 Tryz.underlying64 Tryz.underlying9 hi hz0 hz1 hz2 _ _ _ rfl O1.out f rfl (by unfold maxLen; omega) (by omega) S2.out ?_; intro v3 w3 h1 h2 _; have O3 := Lib.hid (NX.out _ _ h1); have B3 := Lib.hid (B2.out.grown h2 S2.out (fun k e => (O1.out.lt k e).1)); clear h1 h2)
          | (at_builtin; refine wp_byteD _ 32 rfl _ _ rfl w1.heap.size _ _ _ rfl rfl OO.out (by omega) BB.out.size ?_; intro v2 w2 h1 h2; have O1 := Lib.hid h1; have B2 := Lib.hid ((BB.out.alloc BB.out.size _).grown h2 (Nat.le_trans BB.out.size (by simp)) OO.out.lt); have S2 := Lib.hid B2.out.size; clear h1 h2))
        go_roundw
        case rel => exact ⟨j + 1, by omega, by go_num, .inl O3.out, B3.out⟩
        case measure => simp [intOf]; omega
      · obtain rfl : j = ln := by omega
        have TX := Lib.hid (p := ∀ W v, World.ownsRow W w1.heap.size 5 1 v ((headT ss j).length + 1) (Lib.byteCells (headT ss j) ++ [.int .u8 10]) → World.ownsRow W w1.heap.size 5 1 v (X 0).length (Lib.byteCells (X 0))) (fun W v o => by
          rw [bc_end, TX0.out] at o
          rw [← TX0.out] at o ⊢
          simpa using o)
        have XL := Lib.hid (p := (X 0).length ≤ 1048576) (by rw [← TX0.out]; simp; omega)
        clear hO hB p0 p1
        generalize headT ss j = T at *
        go_wp2_with (at_builtin; refine wp_byteD _ 10 rfl _ _ rfl w1.heap.size _ _ _ rfl rfl OO.out (by omega) BB.out.size ?_; intro v2 w2 h1 h2; have O1 := Lib.hid (TX.out _ _ h1); have B2 := Lib.hid ((BB.out.alloc BB.out.size _).grown h2 (Nat.le_trans BB.out.size (by simp)) OO.out.lt); obtain ⟨p0, p1⟩ := CB.out _ B2.out; clear h1 h2)
        go_loopw [5, 39] (fun v t wr => ∃ d : Nat, d ≤ lr ∧ t = .int .i64 d ∧ wr.ownsRow w1.heap.size 5 1 v (X d).length (Lib.byteCells (X d)) ∧ RowKit.Hid ((X d).length ≤ 1048576) ∧ Below w1.heap.size w1 wr) (fun _ t _ => lr - (intOf t).toNat)
        case atStart => exact ⟨0, by omega, rfl, O1.out, XL.out, B2.out⟩
        case round =>
          rename World => ws
          obtain ⟨d, hd, rfl, hP, hXL, hC⟩ := hrel
          have PP := Lib.hid hP
          have CQ := Lib.hid hC
          have xl := hXL.out
          clear p0 p1
          by_cases hdl : d < lr
          · obtain ⟨x, o, rfl, hx, hcs⟩ : ∃ x o, ar = some ⟨x, o, none⟩ ∧ x < w0.heap.size ∧ ∀ i, i < lr → w0.cell? ⟨x, o + i, none⟩ = some (.slice (rs.getD i default).a (rs.getD i default).n (rs.getD i default).cap) := by
              rcases R0.out.2.2.2 with h0 | h0
              · omega
              · exact h0
            have c0 := ((B1.out.trans (hC.mono B1.out.size)).cell (p := ⟨x, o + d, none⟩) hx).trans (hcs d hdl)
            have dc : (d : Int) < (lr : Int) := by omega
            obtain ⟨r1, r2, r3⟩ := RL1.out d hdl
            have RX := Lib.hid ((R0.out.2.2.1 _ (GET.out d hdl)).1)
            have XS := Lib.hid (TXS.out d)
            rw [r3] at XS
            have LG := Lib.hid (LONG.out (d + 1) (by omega))
            clear hcs hP hC r3
            generalize rs.getD d default = r at *
            obtain ⟨ra, rn, rcap, rcs⟩ := r
            simp only at c0 RX r1 r2 XS
            subst r1
            have rl1 := RX.out.1
            have RT := Lib.hid (p := ∀ c, c ≤ rn → (rowT d rcs c).length ≤ 1430) (fun c hc => rowT_len (by omega) (by omega) r2)
            have RS := Lib.hid (p := ∀ c, c < rn → rowT d rcs (c + 1) = rowT d rcs c ++ cellW (rcs.getD c default)) (fun c hc => rowT_step (by omega))
            have R2 := Lib.hid (p := ∀ c, c < rn → (Lit.int .i64 (rcs.getD c default).v).wf = true) (fun c hc => r2 _ (by
              have hc' : c < rcs.length := by omega
              rw [show rcs.getD c default = rcs[c] by simp [List.getD, hc']]; exact List.getElem_mem hc'))
            have XN := Lib.hid (p := X (d + 1) = X d ++ rowT d rcs rn ++ [10]) (by rw [XS.out]; unfold lineT; rw [rl1, List.append_assoc])
            have I0 := Lib.hid (p := ∀ W v, World.ownsRow W w1.heap.size 5 1 v ((X d).length + (Lib.itoa (d : Int)).length) (Lib.byteCells (X d) ++ Lib.byteCells (Lib.itoa (d : Int))) → World.ownsRow W w1.heap.size 5 1 v (X d ++ rowT d rcs 0).length (Lib.byteCells (X d ++ rowT d rcs 0))) (fun W v o => by
              rw [bc_app] at o
              have e : rowT d rcs 0 = Lib.itoa (d : Int) := by simp [rowT]
              rw [e, List.length_append]; exact o)
            have il := Lib.itoa_length_le (d : Int) (by omega) (by omega)
            have dlo : (-9223372036854775808 : Int) ≤ (d : Int) := by omega
            have dhi : (d : Int) ≤ 9223372036854775807 := by omega
            clear r2 XS
            go_wp2_with (go_at_call 28; refine (Tryz.strconv_AppendInt_10 w1.heap.size _ (d : Int) dlo dhi _ _ _ PP.out CQ.out.size (by omega) (TW.out.on CQ.out)).mono ?_; rintro e w3 ⟨v3, rfl, h1, h2, h3⟩; have O3 := Lib.hid (I0.out _ _ h1); have B3 := Lib.hid (CQ.out.trans h2); clear h1 h2 h3)
            go_loopw [5, 49] (fun v t wt => ∃ c : Nat, c ≤ rn ∧ t = .int .i64 c ∧ wt.ownsRow w1.heap.size 5 1 v (X d ++ rowT d rcs c).length (Lib.byteCells (X d ++ rowT d rcs c)) ∧ Below w1.heap.size w1 wt) (fun _ t _ => rn - (intOf t).toNat)
            case atStart => exact ⟨0, by omega, rfl, O3.out, B3.out⟩
            case round =>
              rename World => wt
              obtain ⟨c, hc, rfl, hO, hB⟩ := hrel
              have OO := Lib.hid hO
              have BB := Lib.hid hB
              have rt := RT.out c hc
              have tl : (X d ++ rowT d rcs c).length ≤ 1050006 := by rw [List.length_append]; omega
              by_cases hcn : c < rn
              · obtain ⟨y, oy, rfl, hy, hcc⟩ : ∃ y oy, ra = some ⟨y, oy, none⟩ ∧ y < w0.heap.size ∧ ∀ i, i < rn → CC w0 y (oy + i * 2) (rcs.getD i default) := by
                  rcases RX.out.2.2.2 with h0 | h0
                  · omega
                  · exact h0
                obtain ⟨e0, e1⟩ := (hcc c hcn).later (B1.out.trans (hB.mono B1.out.size)) hy
                have ic : (c : Int) < (rn : Int) := by omega
                have ST := Lib.hid (RS.out c hcn)
                have WV := R2.out c hcn
                clear hcc hO hB
                generalize rcs.getD c default = f at *
                have WL := wordC_len WV
                obtain ⟨fh, fv⟩ := f
                simp only at e0 e1 WV
                have KW := Lib.hid (fun W (b : Below w1.heap.size w1 W) => cellWord_any fh fv (wf_in WV) W (fun w' q => TW.out w' (b.trans (q.mono b.size))))
                have NX := Lib.hid (p := ∀ W v, World.ownsRow W w1.heap.size 5 1 v ((X d ++ rowT d rcs c).length + 1 + (⟨(wordC ⟨fh, fv⟩).toArray⟩ : ByteArray).size) (Lib.byteCells (X d ++ rowT d rcs c) ++ [.int .u8 32] ++ Lib.strCells ⟨(wordC ⟨fh, fv⟩).toArray⟩) → World.ownsRow W w1.heap.size 5 1 v (X d ++ rowT d rcs (c + 1)).length (Lib.byteCells (X d ++ rowT d rcs (c + 1)))) (fun W v o => by
                  rw [bc_cell] at o
                  rw [ST.out, ← List.append_assoc]
                  have e : (X d ++ rowT d rcs c ++ cellW ⟨fh, fv⟩).length = (X d ++ rowT d rcs c).length + 1 + (⟨(wordC ⟨fh, fv⟩).toArray⟩ : ByteArray).size := by
                    have : (⟨(wordC ⟨fh, fv⟩).toArray⟩ : ByteArray).size = (wordC ⟨fh, fv⟩).length := by simp [ByteArray.size]
                    rw [this]; simp [cellW]; omega
                  rw [e]; exact o)
                have ws2 : (⟨(wordC ⟨fh, fv⟩).toArray⟩ : ByteArray).size ≤ 21 := by
                  have : (⟨(wordC ⟨fh, fv⟩).toArray⟩ : ByteArray).size = (wordC ⟨fh, fv⟩).length := by simp [ByteArray.size]
                  omega
                have XB := Lib.hid (World.alloc_heap_new wt (.cells #[.bool fh, .int .i64 fv] 34))
                have OA := Lib.hid (OO.out.alloc (.cells #[.bool fh, .int .i64 fv] 34))
                have AA := Lib.hid (BB.out.alloc BB.out.size (.cells #[.bool fh, .int .i64 fv] 34))
                generalize (⟨(wordC ⟨fh, fv⟩).toArray⟩ : ByteArray) = u at *
                generalize X d ++ rowT d rcs c = T at *
                go_wp2_with (first
                  | (at_builtin; have qq := B5; refine Lib.wpList_append_own_string _ rfl _ _ 64 9 rfl w1.heap.size 5 i0 Tryz.underlying64 Tryz.underlying9 hi hz0 hz1 hz2 _ _ _ rfl O5.out u rfl (by unfold maxLen; omega) (by omega) B5.out.size ?_; intro v6 w6 h1 h2 _; have O6 := Lib.hid (NX.out _ _ h1); have B6 := Lib.hid (B5.out.grown h2 B5.out.size (fun k e => (O5.out.lt k e).1)); clear h1 h2)
                  | (go_at_call 29; refine (KW.out _ B4.out).mono ?_; rintro e w5 ⟨rfl, h1⟩; have B5 := Lib.hid (B4.out.trans (h1.mono B4.out.size)); have O5 := Lib.hid (own_back O4.out h1); clear h1)
                  | (at_builtin; refine wp_byte_at _ 32 (wt.heap.size + 1) (by simp) rfl _ _ rfl w1.heap.size _ _ _ rfl rfl OA.out (by omega) AA.out.size ?_; intro v4 w4 h1 h2; have O4 := Lib.hid h1; have B4 := Lib.hid ((AA.out.alloc AA.out.size _).grown h2 (Nat.le_trans AA.out.size (by simp)) (fun k e => (OA.out.lt k e).1)); obtain ⟨x0, x1⟩ := box_cells (box_kept ((Below.heap_alloc _ _ _ (by simp)).trans XB.out) (OA.out.alloc _) h2); clear h1 h2))
                go_roundw
                case rel => exact ⟨c + 1, by omega, by go_num, O6.out, B6.out⟩
                case measure => simp [intOf]; omega
              · obtain rfl : c = rn := by omega
                have NX := Lib.hid (p := ∀ W v, World.ownsRow W w1.heap.size 5 1 v ((X d ++ rowT d rcs c).length + 1) (Lib.byteCells (X d ++ rowT d rcs c) ++ [.int .u8 10]) → World.ownsRow W w1.heap.size 5 1 v (X (d + 1)).length (Lib.byteCells (X (d + 1))) ∧ ∃ g cc, v = .slice (some ⟨g, 0, none⟩) (X (d + 1)).length cc) (fun W v o => by
                  rw [bc_end] at o
                  have e : (X (d + 1)).length = (X d ++ rowT d rcs c).length + 1 := by rw [XN.out]; simp; omega
                  have o2 : World.ownsRow W w1.heap.size 5 1 v (X (d + 1)).length (Lib.byteCells (X (d + 1))) := by rw [e, XN.out]; exact o
                  exact ⟨o2, own_formB o2 (by omega)⟩)
                clear hO hB
                generalize X d ++ rowT d rcs c = T at *
                obtain ⟨L, hL⟩ : ∃ L, (X (d + 1)).length = L := ⟨_, rfl⟩
                by_cases hlong : 1048576 < L
                · have Y := Lib.hid (LG.out (by rw [hL]; exact hlong))
                  have hlI : (1048576 : Int) < (L : Int) := by omega
                  rw [hL] at NX
                  go_wp2_with (at_builtin; refine wp_byte _ 10 rfl _ _ rfl w1.heap.size _ _ _ rfl rfl OO.out (by omega) BB.out.size ?_; intro v4 w4 h1 h2; obtain ⟨h3, g, cc, rfl⟩ := NX.out _ _ h1; have O4 := Lib.hid h3; have B4 := Lib.hid ((BB.out.alloc BB.out.size _).grown h2 (Nat.le_trans BB.out.size (by simp)) (fun k e => (OO.out.lt k e).1)); clear h1 h2 h3)
                  go_ret2
                  exact ⟨Y.out, BW.out.trans (B4.out.mono BW.out.size)⟩
                · have hlI : ¬ (1048576 : Int) < (L : Int) := by omega
                  have hX2 := Lib.hid (p := (X (d + 1)).length ≤ 1048576) (by omega)
                  have HLL := Lib.hid hL
                  rw [hL] at NX
                  clear hL
                  go_wp2_with (at_builtin; refine wp_byte _ 10 rfl _ _ rfl w1.heap.size _ _ _ rfl rfl OO.out (by omega) BB.out.size ?_; intro v4 w4 h1 h2; obtain ⟨h3, g, cc, rfl⟩ := NX.out _ _ h1; have O4 := Lib.hid h3; have B4 := Lib.hid ((BB.out.alloc BB.out.size _).grown h2 (Nat.le_trans BB.out.size (by simp)) (fun k e => (OO.out.lt k e).1)); clear h1 h2 h3)
                  go_roundw
                  case rel => exact ⟨d + 1, by omega, by go_num, by rw [HLL.out]; exact O4.out, hX2.out, B4.out⟩
                  case measure => simp [intOf]; omega
          · obtain rfl : d = lr := by omega
            have Y := Lib.hid (GOOD.out xl)
            have xne : X d ≠ [] := fun e => by
              have h0 := XG.out d
              rw [e] at h0; simp at h0
            obtain ⟨g, cap, rfl, hcv⟩ := conv_bytesT rfl xne PP.out
            clear hP hC
            go_wp2
            go_ret2
            exact ⟨Y.out, BW.out.trans (CQ.out.mono BW.out.size)⟩
  · have Y := Lib.hid (p := PrT ss (rs.map (·.cs)) (.returned (.tuple #[.string ⟨#[]⟩, .int .i64 (validE ss (rs.map (·.cs)))]))) (.inl ⟨hv, rfl⟩)
    generalize validE ss (rs.map (·.cs)) = E at *
    generalize PrT ss (rs.map (·.cs)) = Z at *
    have hv2 : (E == 0) = false := by rw [beq_eq_false_iff_ne]; exact hv
    clear h k hB0 rml
    go_enter Tryz.func12, Tryz.ntmps12
    go_wp2_with (go_at_call 6; refine KV.out.mono ?_; rintro e w1 ⟨rfl, h1⟩; have B1 := Lib.hid (B0.out.trans (h1.mono B0.out.size)); clear h1)
    go_ret2
    exact ⟨Y.out, B1.out⟩
end Go.Proofs.YtajocakmmgpoaaaGreatDoor

namespace Go.Proofs.YtajocakmmgpoaaaGreatDoor
open Go.RowKit
set_option linter.unusedVariables false
set_option linter.unusedSimpArgs false

/-- A table as it lies in memory, and what it says. -/
structure TbIs (w : World) (t : Tb) (ss : List ByteArray) (rs : List (List Cl)) : Prop where
  nl : NL w t.an t.ln t.ss
  nn : t.an = none → t.ln = 0 ∧ t.cn = 0
  rl : RL w t.ar t.lr t.rs
  rn : t.ar = none → t.lr = 0 ∧ t.cr = 0
  ns : t.ss = ss
  rs : t.rs.map (·.cs) = rs
theorem TbIs.later {w w' : World} {t : Tb} {ss : List ByteArray} {rs : List (List Cl)} (h : TbIs w t ss rs) (b : Below w.heap.size w w') : TbIs w' t ss rs := ⟨h.nl.later b, h.nn, h.rl.later b, h.rn, h.ns, h.rs⟩
theorem tbIs_of {w : World} {t : Tb} (h : TbOk w t) : TbIs w t t.ss (t.rs.map (·.cs)) := ⟨h.nl, h.nn, h.rl, h.rn, rfl, rfl⟩
theorem PsT.is {B : Nat} {w : World} {t : Tb} {R : PR} (h : PsT B w t R) : TbIs w t R.ns R.rs := ⟨h.ok.nl, h.ok.nn, h.ok.rl, h.ok.rn, h.ns, h.rs⟩
theorem no_hd {w : World} {B : Nat} {a b : Option Addr} {n m c : Nat} {ss : List ByteArray} (h : NO w B a (.slice b m c) n ss) : b = none → m = 0 ∧ c = 0 := by
  rcases h with ⟨_, h, h0⟩ | ⟨g, c', h1, h2, h3, _⟩
  · injection h with e1 e2 e3
    subst e1 e2 e3
    exact fun _ => ⟨rfl, rfl⟩
  · injection h1 with e1 e2 e3
    subst e1 e2 e3
    exact fun e => (by cases e)
theorem ro_hd {w : World} {B : Nat} {v : Value} {n : Nat} {rs : List Rw} (h : RO w B v n rs) : ∃ b m c, v = .slice b m c ∧ (b = none → m = 0 ∧ c = 0) := by
  rcases h with ⟨rfl, h0⟩ | ⟨g, c', qs, rfl, h2, h3, h4⟩
  · exact ⟨none, 0, 0, rfl, fun _ => ⟨rfl, rfl⟩⟩
  · exact ⟨some ⟨g, 0, none⟩, n, c', rfl, fun e => (by cases e)⟩
theorem ownT_any (t : Tb) (ss : List ByteArray) (rs : List (List Cl)) (w : World) (h : TbIs w t ss rs) (hb : Bh w) :
    Calls Tryz.prog 7 #[t.val] w fun e w' => ∃ u : Tb, e = .returned u.val ∧ TbIs w' u ss rs ∧ Below w.heap.size w w' := by
  refine (own_any t.an t.ar t.ln t.cn t.lr t.cr t.ss t.rs w h.nl h.rl h.nn h.rn hb).mono ?_
  rintro e w' ⟨b, m, c, v2, rfl, N, R, B⟩
  obtain ⟨b2, m2, c2, rfl, r1⟩ := ro_hd R
  have n1 := no_hd N
  obtain ⟨rfl, N2⟩ := N.nl h.nl.1 h.nl.2.1 h.nl.2.2.1
  obtain ⟨rfl, qs, R2, R3⟩ := ro_rl R (fun r hr => ⟨(h.rl.2.2.1 r hr).1.2.2.1, by rw [(h.rl.2.2.1 r hr).1.1]; exact (h.rl.2.2.1 r hr).1.2.1⟩) h.rl.1 h.rl.2.1
  exact ⟨⟨b, t.ln, c, t.ss, b2, t.lr, c2, qs⟩, rfl, ⟨N2, n1, R2, r1, h.ns, R3.trans h.rs⟩, B⟩
theorem tb_lens {w : World} {t : Tb} {ss : List ByteArray} {rs : List (List Cl)} (h : TbIs w t ss rs) : t.ln = ss.length ∧ t.lr = rs.length := by
  have a := h.nl.1
  have b := h.rl.1
  rw [h.ns] at a
  have c := congrArg List.length h.rs
  rw [List.length_map] at c
  exact ⟨a.symm, by omega⟩
set_option maxHeartbeats 1000000 in
theorem sameT_any (t u : Tb) (ss : List ByteArray) (rs : List (List Cl)) (w : World) (h : TbIs w t ss rs) (k : TbIs w u ss rs) :
    Calls Tryz.prog 14 #[t.val, u.val] w fun e w' => e = .returned (.bool true) ∧ Below w.heap.size w w' := by
  obtain ⟨a1, a2⟩ := tb_lens h
  obtain ⟨b1, b2⟩ := tb_lens k
  obtain ⟨an, ln, cn, tss, ar, lr, cr, trs⟩ := t
  obtain ⟨bn, mn, dn, uss, br, mr, dr, urs⟩ := u
  obtain ⟨h1, _, h1r, _, h2, h3⟩ := h
  obtain ⟨k1, _, k1r, _, k2, k3⟩ := k
  simp only at a1 a2 b1 b2 h2 h3 k2 k3
  subst h2
  have e1 : uss = tss := k2
  subst e1
  have e2 : mn = ln := by omega
  have e3 : mr = lr := by omega
  subst e2 e3
  have B2 : Below w.heap.size w ((w.alloc (.cells #[.slice an mn cn, .slice ar mr cr] 25)).alloc (.cells #[.slice bn mn dn, .slice br mr dr] 25)) := ((Below.refl _ w).alloc (Nat.le_refl _) _).alloc (by simp) _
  have KN := Lib.hid (p := ∀ W, Below w.heap.size w W → Calls Tryz.prog 34 #[.slice an mn cn, .slice bn mn dn] W fun e w' => e = .returned (.bool true) ∧ ∃ q, w' = W.drewN q) (fun W b => sameNames_any an bn mn cn dn uss W (h1.later b) (k1.later b))
  have KR := Lib.hid (p := ∀ W, Below w.heap.size w W → Calls Tryz.prog 35 #[.slice ar mr cr, .slice br mr dr] W fun e w' => e = .returned (.bool true) ∧ ∃ q, w' = W.drewN q) (fun W b => sameRows_any ar br mr cr dr trs urs W (h1r.later b) (k1r.later b) (h3.trans k3.symm))
  have BB := Lib.hid B2
  have c0 : ∀ q, (((w.alloc (.cells #[.slice an mn cn, .slice ar mr cr] 25)).alloc (.cells #[.slice bn mn dn, .slice br mr dr] 25)).drewN q).cell? ⟨w.heap.size, 1, none⟩ = some (.slice ar mr cr) := fun q => by
    show ((w.alloc (.cells #[.slice an mn cn, .slice ar mr cr] 25)).alloc (.cells #[.slice bn mn dn, .slice br mr dr] 25)).cell? ⟨w.heap.size, 1, none⟩ = _
    go_simp
  have c1 : ∀ q, (((w.alloc (.cells #[.slice an mn cn, .slice ar mr cr] 25)).alloc (.cells #[.slice bn mn dn, .slice br mr dr] 25)).drewN q).cell? ⟨w.heap.size + 1, 1, none⟩ = some (.slice br mr dr) := fun q => by
    show ((w.alloc (.cells #[.slice an mn cn, .slice ar mr cr] 25)).alloc (.cells #[.slice bn mn dn, .slice br mr dr] 25)).cell? ⟨w.heap.size + 1, 1, none⟩ = _
    go_simp
  clear h1 h1r h3 k1 k1r k3 k2 B2 a1 a2 b1 b2
  show Calls Tryz.prog 14 #[.agg #[.slice an mn cn, .slice ar mr cr], .agg #[.slice bn mn dn, .slice br mr dr]] w _
  go_enter Tryz.func14, Tryz.ntmps14
  go_wp2_with (first
    | (go_at_call 34; refine (KN.out _ BB.out).mono ?_; rintro e w1 ⟨rfl, q, rfl⟩)
    | (go_at_call 35; refine (KR.out _ (belowT_drewN BB.out _)).mono ?_; rintro e w1 ⟨rfl, q2, rfl⟩))
  go_ret
  exact ⟨rfl, belowT_drewN BB.out _⟩

/-- What is valid is a table that can be read back. -/
theorem dup_nodup {ss : List ByteArray} (h : dupB ss = false) : ss.Nodup := by
  rw [List.nodup_iff_pairwise_ne, List.pairwise_iff_getElem]
  intro i j hi hj hij e
  have q : colF ss (ss.getD j default) 0 = (j : Int) := by
    refine Classical.byContradiction fun k => ?_
    rw [dup_yes hj k] at h
    cases h
  have c := colF_col ss (ss.getD j default)
  rw [q] at c
  rcases c with ⟨c1, _⟩ | ⟨k, c1, c2, c3, c4⟩
  · omega
  · have : k = j := by omega
    subst this
    refine c4 i hij ?_
    simp [List.getD, hi, hj, e]
theorem gd_valid {ss : List ByteArray} {rs : List (List Cl)} (h : validE ss rs = 0) (hw : ∀ r ∈ rs, ∀ c ∈ r, (Lit.int .i64 c.v).wf = true) : Gd ss rs := by
  obtain ⟨h1, h2, h3, h4⟩ := valid_out h
  unfold validE at h
  split at h
  · omega
  · split at h
    · omega
    · split at h
      · omega
      · rename_i k1 k2 k3
        split at h
        · omega
        · rename_i k4
          simp only [Bool.or_eq_true, Bool.not_eq_true', not_or, Bool.not_eq_false, Bool.not_eq_true] at k3
          refine ⟨h1, fun n hn => List.all_eq_true.1 k3.1 n hn, dup_nodup k3.2, h4, fun r hr c hc => ⟨?_, hw r hr c hc⟩, h2⟩
          cases q : stB c with
          | false => rfl
          | true => exact absurd (List.any_eq_true.2 ⟨r, hr, List.any_eq_true.2 ⟨c, hc, q⟩⟩) k4
theorem valid_gd {ss : List ByteArray} {rs : List (List Cl)} (g : Gd ss rs) : validE ss rs = 0 := by
  refine val0 g.rw (by have := g.n64; have := g.r4; omega) ?_ (fun r hr => ?_)
  · have a : ss.all nameB = true := List.all_eq_true.2 g.nm
    have b : dupB ss = false := by
      refine dup_no (fun k hk => ?_)
      have c := colF_col ss (ss.getD k default)
      rcases c with ⟨_, c⟩ | ⟨i, c1, c2, c3, c4⟩
      · exact absurd rfl (c k hk)
      · rw [c1]
        have hik : i ≤ k := by
          refine Nat.le_of_not_lt fun q => c4 k q rfl
        rcases Nat.lt_or_ge i k with q | q
        · have nd := g.nd
          rw [List.nodup_iff_pairwise_ne, List.pairwise_iff_getElem] at nd
          refine absurd ?_ (nd i k c2 hk q)
          simp [List.getD, c2, hk] at c3
          exact c3
        · have : i = k := by omega
          rw [this]
    rw [a, b]; rfl
  · rw [List.any_eq_false]
    intro c hc
    rw [(g.st r hr c hc).1]
    simp
end Go.Proofs.YtajocakmmgpoaaaGreatDoor

namespace Go.Proofs.YtajocakmmgpoaaaGreatDoor
open Go.RowKit
set_option linter.unusedVariables false
set_option linter.unusedSimpArgs false

theorem colF_mem {ss : List ByteArray} {t : ByteArray} : 0 ≤ colF ss t 0 ↔ t ∈ ss := by
  rcases colF_col ss t with ⟨h, k⟩ | ⟨i, h, h1, h2, _⟩
  · rw [h]
    refine ⟨fun e => by omega, fun e => ?_⟩
    obtain ⟨i, hi, e⟩ := List.getElem_of_mem e
    exact absurd (by simp [List.getD, hi, e]) (k i hi)
  · rw [h]
    refine ⟨fun _ => ?_, fun _ => by omega⟩
    rw [← h2, show ss.getD i default = ss[i] by simp [List.getD, h1]]
    exact List.getElem_mem h1
theorem colF_app_old {ss q : List ByteArray} {t : ByteArray} (h : 0 ≤ colF ss t 0) : colF (ss ++ q) t 0 = colF ss t 0 := by
  refine Col.only (colF_col _ _) ?_
  rcases colF_col ss t with ⟨e, _⟩ | ⟨i, e, h1, h2, h3⟩
  · omega
  · rw [e]
    refine .inr ⟨i, rfl, by simp; omega, ?_, fun j hj => ?_⟩
    · rw [← h2]; simp only [List.getD]; rw [List.getElem?_append_left h1]
    · have := h3 j hj
      simp only [List.getD] at this ⊢
      rwa [List.getElem?_append_left (by omega)]
theorem colF_app_at {A C : List ByteArray} {t : ByteArray} (h : t ∉ A) : colF (A ++ t :: C) t 0 = (A.length : Int) := by
  refine Col.only (colF_col _ _) (.inr ⟨A.length, rfl, by simp, by simp [List.getD], fun j hj e => h ?_⟩)
  simp only [List.getD] at e
  rw [List.getElem?_append_left hj, List.getElem?_eq_getElem hj] at e
  rw [← e]
  exact List.getElem_mem hj
/-- The names of an overlay. -/
def ovN (ss tt : List ByteArray) : List ByteArray := ss ++ tt.filter fun t => decide (colF ss t 0 < 0)
/-- The column of the upper table's name. -/
def ovC (ss tt : List ByteArray) (i : Nat) : Int := colF (ovN ss tt) (tt.getD i default) 0
theorem ovC_old {ss tt : List ByteArray} {i : Nat} (h : 0 ≤ colF ss (tt.getD i default) 0) : ovC ss tt i = colF ss (tt.getD i default) 0 := colF_app_old h
theorem take_split {tt : List ByteArray} {i : Nat} (hi : i < tt.length) : tt = tt.take i ++ tt.getD i default :: tt.drop (i + 1) := by
  rw [show tt.getD i default = tt[i] by simp [List.getD, hi], List.getElem_cons_drop, List.take_append_drop]
theorem ovN_new {ss tt : List ByteArray} {i : Nat} (hi : i < tt.length) (h : colF ss (tt.getD i default) 0 < 0) : ovN ss (tt.take (i + 1)) = ovN ss (tt.take i) ++ [tt.getD i default] := by
  unfold ovN
  have e : tt.take (i + 1) = tt.take i ++ [tt.getD i default] := by
    rw [List.take_add_one, List.getElem?_eq_getElem hi]; simp [List.getD, hi]
  rw [e, List.filter_append, List.append_assoc, List.filter_cons_of_pos (by simpa using h), List.filter_nil]
theorem ovN_old {ss tt : List ByteArray} {i : Nat} (hi : i < tt.length) (h : ¬ colF ss (tt.getD i default) 0 < 0) : ovN ss (tt.take (i + 1)) = ovN ss (tt.take i) := by
  unfold ovN
  have e : tt.take (i + 1) = tt.take i ++ [tt.getD i default] := by
    rw [List.take_add_one, List.getElem?_eq_getElem hi]; simp [List.getD, hi]
  rw [e, List.filter_append, List.filter_cons_of_neg (by simpa using h), List.filter_nil, List.append_nil]
theorem ovC_new {ss tt : List ByteArray} {i : Nat} (nd : tt.Nodup) (hi : i < tt.length) (h : colF ss (tt.getD i default) 0 < 0) : ovC ss tt i = ((ovN ss (tt.take i)).length : Int) := by
  unfold ovC
  obtain ⟨t, ht⟩ : ∃ t, tt.getD i default = t := ⟨_, rfl⟩
  have sp := take_split hi
  rw [ht] at sp h ⊢
  have n1 : t ∉ tt.take i := by
    rw [sp] at nd
    have := (List.nodup_append.1 nd).2.2
    exact fun q => this t q t (List.mem_cons_self ..) rfl
  have e : ovN ss tt = ovN ss (tt.take i) ++ t :: (tt.drop (i + 1)).filter fun t => decide (colF ss t 0 < 0) := by
    unfold ovN
    conv => lhs; rw [sp]
    rw [List.filter_append, List.filter_cons_of_pos (by simpa using h), List.append_assoc]
  rw [e, colF_app_at]
  unfold ovN
  intro q
  rcases List.mem_append.1 q with q | q
  · have := colF_mem.2 q; omega
  · exact n1 (List.mem_filter.1 q).1
theorem ovN_mem {ss tt : List ByteArray} {t : ByteArray} : t ∈ ovN ss tt ↔ t ∈ ss ∨ t ∈ tt := by
  unfold ovN
  rw [List.mem_append, List.mem_filter]
  refine ⟨fun h => h.imp id (·.1), fun h => ?_⟩
  by_cases q : t ∈ ss
  · exact .inl q
  · refine .inr ⟨h.resolve_left q, ?_⟩
    have : ¬ 0 ≤ colF ss t 0 := fun e => q (colF_mem.1 e)
    simp; omega
theorem colF_lt {ss : List ByteArray} {t : ByteArray} (h : t ∈ ss) : ∃ c : Nat, colF ss t 0 = (c : Int) ∧ c < ss.length ∧ ss.getD c default = t := by
  rcases colF_col ss t with ⟨e, _⟩ | ⟨i, e, h1, h2, _⟩
  · have := colF_mem.2 h; omega
  · exact ⟨i, e, h1, h2⟩
theorem getD_mem {ss : List ByteArray} {i : Nat} (h : i < ss.length) : ss.getD i default ∈ ss := by
  rw [show ss.getD i default = ss[i] by simp [List.getD, h]]; exact List.getElem_mem h
theorem ovC_lt (ss : List ByteArray) {tt : List ByteArray} {i : Nat} (h : i < tt.length) : ∃ c : Nat, ovC ss tt i = (c : Int) ∧ c < (ovN ss tt).length := by
  obtain ⟨c, h1, h2, _⟩ := colF_lt (ovN_mem.2 (.inr (getD_mem h)) : tt.getD i default ∈ ovN ss tt)
  exact ⟨c, h1, h2⟩
theorem ovC_inj {ss tt : List ByteArray} (nd : tt.Nodup) {i j : Nat} (hi : i < tt.length) (hj : j < tt.length) (h : ovC ss tt i = ovC ss tt j) : i = j := by
  obtain ⟨c, h1, h2, h3⟩ := colF_lt (ovN_mem.2 (.inr (getD_mem hi)) : tt.getD i default ∈ ovN ss tt)
  obtain ⟨d, k1, k2, k3⟩ := colF_lt (ovN_mem.2 (.inr (getD_mem hj)) : tt.getD j default ∈ ovN ss tt)
  unfold ovC at h
  have e : c = d := by omega
  subst e
  rw [h3] at k3
  simp only [List.getD, List.getElem?_eq_getElem hi, List.getElem?_eq_getElem hj, Option.getD_some] at k3
  rw [List.nodup_iff_pairwise_ne, List.pairwise_iff_getElem] at nd
  rcases Nat.lt_trichotomy i j with q | q | q
  · exact absurd k3 (nd i j hi hj q)
  · exact q
  · exact absurd k3.symm (nd j i hj hi q)
theorem ovN_nodup {ss tt : List ByteArray} (h : ss.Nodup) (k : tt.Nodup) : (ovN ss tt).Nodup := by
  unfold ovN
  refine List.nodup_append.2 ⟨h, k.sublist List.filter_sublist, fun a ha b hb e => ?_⟩
  subst e
  have := (List.mem_filter.1 hb).2
  have := colF_mem.2 ha
  simp at *; omega
theorem ovN_len (ss tt : List ByteArray) : (ovN ss tt).length ≤ ss.length + tt.length := by
  unfold ovN; rw [List.length_append]; have := List.length_filter_le (fun t => decide (colF ss t 0 < 0)) tt; omega
theorem ovN_lenT (ss tt : List ByteArray) (i : Nat) : (ovN ss (tt.take i)).length ≤ (ovN ss tt).length := by
  unfold ovN
  rw [List.length_append, List.length_append]
  have : ((tt.take i).filter fun t => decide (colF ss t 0 < 0)).Sublist (tt.filter fun t => decide (colF ss t 0 < 0)) := (List.take_sublist i tt).filter _
  have := this.length_le
  omega

/-- Cells laid over a row, as far as they go. -/
def ovLay (f : Nat → Nat) (b R : List Cl) : Nat → List Cl
  | 0 => R
  | k + 1 => if (b.getD k default).h then (ovLay f b R k).set (f k) (b.getD k default) else ovLay f b R k
theorem ovLay_len (f : Nat → Nat) (b R : List Cl) : ∀ k, (ovLay f b R k).length = R.length
  | 0 => rfl
  | k + 1 => by
    unfold ovLay
    split
    · rw [List.length_set]; exact ovLay_len f b R k
    · exact ovLay_len f b R k
theorem ovLay_no (f : Nat → Nat) (b R : List Cl) (c : Nat) : ∀ k, (∀ i, i < k → f i = c → (b.getD i default).h = false) → (ovLay f b R k).getD c default = R.getD c default
  | 0, _ => rfl
  | k + 1, h => by
    have ih := ovLay_no f b R c k (fun i hi => h i (by omega))
    unfold ovLay
    split
    · rename_i q
      rw [← ih]
      have : ¬ f k = c := fun e => by rw [h k (by omega) e] at q; cases q
      simp only [List.getD]
      rw [List.getElem?_set_ne this]
    · exact ih
theorem ovLay_yes (f : Nat → Nat) (b R : List Cl) (c i : Nat) : ∀ k, i < k → f i = c → (b.getD i default).h = true → (∀ j, j < k → f j = c → j = i) → c < R.length → (ovLay f b R k).getD c default = b.getD i default
  | 0, h, _, _, _, _ => by omega
  | k + 1, h, hf, hh, hu, hc => by
    unfold ovLay
    by_cases e : i = k
    · subst e
      rw [if_pos hh, hf]
      simp only [List.getD]
      rw [List.getElem?_set_self (by rw [ovLay_len]; exact hc)]
      rfl
    · have ih := ovLay_yes f b R c i k (by omega) hf hh (fun j hj => hu j (by omega)) hc
      split
      · rw [← ih]
        have : ¬ f k = c := fun q => e (hu k (by omega) q).symm
        simp only [List.getD]
        rw [List.getElem?_set_ne this]
      · exact ih
theorem ovLay_mem (f : Nat → Nat) (b R : List Cl) (c : Cl) : ∀ k, k ≤ b.length → c ∈ ovLay f b R k → c ∈ R ∨ c ∈ b
  | 0, _, h => .inl h
  | k + 1, hk, h => by
    unfold ovLay at h
    split at h
    · rcases List.mem_or_eq_of_mem_set h with h | h
      · exact ovLay_mem f b R c k (by omega) h
      · refine .inr ?_
        rw [h, show b.getD k default = b[k] by simp [List.getD, show k < b.length by omega]]
        exact List.getElem_mem _
    · exact ovLay_mem f b R c k (by omega) h
/-- A row made as wide as that. -/
def widR (r : List Cl) (N : Nat) : List Cl := r.take N ++ List.replicate (N - r.length) zCl
theorem widR_len {r : List Cl} {N : Nat} : (widR r N).length = N := by
  unfold widR; rw [List.length_append, List.length_take, List.length_replicate]; omega
theorem widR_at {r : List Cl} {N : Nat} (h : r.length ≤ N) (c : Nat) : (widR r N).getD c default = r.getD c default := by
  unfold widR
  rw [List.take_of_length_le h]
  simp only [List.getD]
  by_cases q : c < r.length
  · rw [List.getElem?_append_left q]
  · rw [List.getElem?_append_right (by omega), List.getElem?_replicate, List.getElem?_eq_none (by omega : r.length ≤ c)]
    split <;> rfl
def ovF (ss tt : List ByteArray) (i : Nat) : Nat := (ovC ss tt i).toNat
def ovRow (ss tt : List ByteArray) (ra rb : List Cl) : List Cl := ovLay (ovF ss tt) rb (widR ra (ovN ss tt).length) rb.length
/-- The rows of an overlay. -/
def ovR (ss : List ByteArray) (ra : List (List Cl)) (tt : List ByteArray) (rb : List (List Cl)) : List (List Cl) :=
  (List.range (max ra.length rb.length)).map fun d => ovRow ss tt (ra.getD d []) (rb.getD d [])
theorem row_at {rs : List (List Cl)} {d : Nat} (h : rs.length ≤ d) : rs.getD d [] = [] := by
  simp only [List.getD]; rw [List.getElem?_eq_none h]; rfl
theorem row_len {ss : List ByteArray} {rs : List (List Cl)} (g : Gd ss rs) (d : Nat) : (rs.getD d []).length ≤ ss.length ∧ (d < rs.length → (rs.getD d []).length = ss.length) := by
  by_cases h : d < rs.length
  · have := g.rw _ (show rs.getD d [] ∈ rs by rw [show rs.getD d [] = rs[d] by simp [List.getD, h]]; exact List.getElem_mem h)
    exact ⟨by omega, fun _ => this⟩
  · rw [row_at (by omega)]; exact ⟨by simp, fun q => absurd q h⟩
theorem atD_nil (r : List Cl) (c : Nat) (h : r.length ≤ c) : r.getD c default = default := by
  simp only [List.getD]; rw [List.getElem?_eq_none h]; rfl
/-- What is said of a name on a day in an overlay. -/
theorem ov_raw {ss tt : List ByteArray} {ra rb : List (List Cl)} (g : Gd ss ra) (k : Gd tt rb) (n : ByteArray) (d : Nat) :
    rawT (ovN ss tt) (ovR ss ra tt rb) n d = if (rawT tt rb n d).h then rawT tt rb n d else rawT ss ra n d := by
  by_cases hd : d < max ra.length rb.length
  · have e : (ovR ss ra tt rb).getD d [] = ovRow ss tt (ra.getD d []) (rb.getD d []) := by unfold ovR; simp [List.getD, hd]
    unfold rawT
    rw [e]
    by_cases hn : n ∈ ovN ss tt
    · obtain ⟨c, c1, c2, c3⟩ := colF_lt hn
      rw [if_neg (show ¬ colF (ovN ss tt) n 0 < 0 by omega), c1, Int.toNat_natCast]
      have low : (ra.getD d []).getD c default = if colF ss n 0 < 0 then default else (ra.getD d []).getD (colF ss n 0).toNat default := by
        by_cases q : colF ss n 0 < 0
        · rw [if_pos q]
          refine atD_nil _ _ (Nat.le_trans (row_len g d).1 ?_)
          refine Nat.le_of_not_lt fun z => ?_
          have : n ∈ ss := by
            rw [← c3, show (ovN ss tt).getD c default = ss.getD c default by unfold ovN; simp only [List.getD]; rw [List.getElem?_append_left z]]
            exact getD_mem z
          have := colF_mem.2 this
          omega
        · rw [if_neg q]
          have : colF (ovN ss tt) n 0 = colF ss n 0 := colF_app_old (by omega)
          rw [← this, c1, Int.toNat_natCast]
      have wid : (ra.getD d []).length ≤ (ovN ss tt).length := Nat.le_trans (row_len g d).1 (by unfold ovN; simp)
      rw [← low, ← widR_at wid c]
      by_cases hq : n ∈ tt
      · obtain ⟨i, i1, i2, i3⟩ := colF_lt hq
        rw [if_neg (show ¬ colF tt n 0 < 0 by omega), i1, Int.toNat_natCast]
        have fi : ovF ss tt i = c := by unfold ovF ovC; rw [i3, c1, Int.toNat_natCast]
        cases hh : ((rb.getD d []).getD i default).h with
        | true =>
          rw [if_pos rfl]
          refine ovLay_yes _ _ _ _ _ _ ?_ fi hh (fun j hj fj => ?_) (by rw [widR_len]; exact c2)
          · refine Nat.lt_of_not_le fun z => ?_
            rw [atD_nil _ _ z] at hh
            cases hh
          · have hj' : j < tt.length := Nat.lt_of_lt_of_le hj (row_len k d).1
            refine ovC_inj (ss := ss) k.nd hj' i2 ?_
            obtain ⟨x, x1, _⟩ := ovC_lt ss hj'
            obtain ⟨y, y1, _⟩ := ovC_lt ss i2
            unfold ovF at fi fj
            rw [x1, Int.toNat_natCast] at fj
            rw [y1, Int.toNat_natCast] at fi
            rw [x1, y1, fi, fj]
        | false =>
          rw [if_neg (by simp)]
          refine ovLay_no _ _ _ _ _ (fun j hj fj => ?_)
          have hj' : j < tt.length := Nat.lt_of_lt_of_le hj (row_len k d).1
          have : j = i := by
            refine ovC_inj (ss := ss) k.nd hj' i2 ?_
            obtain ⟨x, x1, _⟩ := ovC_lt ss hj'
            obtain ⟨y, y1, _⟩ := ovC_lt ss i2
            unfold ovF at fi fj
            rw [x1, Int.toNat_natCast] at fj
            rw [y1, Int.toNat_natCast] at fi
            rw [x1, y1, fi, fj]
          rw [this]; exact hh
      · have q : colF tt n 0 < 0 := by
          have : ¬ 0 ≤ colF tt n 0 := fun z => hq (colF_mem.1 z)
          omega
        rw [if_pos q, def_h, if_neg (by simp)]
        refine ovLay_no _ _ _ _ _ (fun j hj fj => ?_)
        exfalso
        have hj' : j < tt.length := Nat.lt_of_lt_of_le hj (row_len k d).1
        obtain ⟨x, x1, x2, x3⟩ := colF_lt (ovN_mem.2 (.inr (getD_mem hj')) : tt.getD j default ∈ ovN ss tt)
        unfold ovF ovC at fj
        rw [x1, Int.toNat_natCast] at fj
        subst fj
        rw [c3] at x3
        exact hq (x3 ▸ getD_mem hj')
    · have no : ∀ l : List ByteArray, n ∉ l → colF l n 0 < 0 := fun l h => by
        have : ¬ 0 ≤ colF l n 0 := fun z => h (colF_mem.1 z)
        omega
      rw [if_pos (no _ hn), if_pos (no tt fun z => hn (ovN_mem.2 (.inr z))), if_pos (no ss fun z => hn (ovN_mem.2 (.inl z))), def_h]
      rfl
  · have e : (ovR ss ra tt rb).getD d [] = [] := row_at (by unfold ovR; simp; omega)
    have e1 := row_at (rs := ra) (d := d) (by omega)
    have e2 := row_at (rs := rb) (d := d) (by omega)
    have z : ∀ (c : Nat), ([] : List Cl).getD c default = default := fun c => rfl
    unfold rawT
    rw [e, e1, e2]
    simp only [z, ite_self, def_h]
theorem ov_gd {ss tt : List ByteArray} {ra rb : List (List Cl)} (g : Gd ss ra) (k : Gd tt rb) (hn : (ovN ss tt).length ≤ 64) : Gd (ovN ss tt) (ovR ss ra tt rb) := by
  refine ⟨hn, fun n h => (ovN_mem.1 h).elim (g.nm n) (k.nm n), ovN_nodup g.nd k.nd, fun r hr => ?_, fun r hr c hc => ?_, ?_⟩
  · obtain ⟨d, _, rfl⟩ := List.mem_map.1 hr
    unfold ovRow; rw [ovLay_len, widR_len]
  · obtain ⟨d, hd, rfl⟩ := List.mem_map.1 hr
    have mm : ∀ (rs : List (List Cl)) (d : Nat) (c : Cl), c ∈ rs.getD d [] → rs.getD d [] ∈ rs := fun rs d c hc => by
      by_cases h : d < rs.length
      · rw [show rs.getD d [] = rs[d] by simp [List.getD, h]]; exact List.getElem_mem h
      · rw [row_at (by omega)] at hc; cases hc
    rcases ovLay_mem _ _ _ c _ (Nat.le_refl _) hc with q | q
    · unfold widR at q
      rcases List.mem_append.1 q with q | q
      · have q := List.mem_of_mem_take q
        exact g.st _ (mm ra d c q) c q
      · rw [(List.mem_replicate.1 q).2]
        exact ⟨rfl, by decide⟩
    · exact k.st _ (mm rb d c q) c q
  · unfold ovR
    have := g.r4
    have := k.r4
    simp; omega
theorem cut_raw (ss : List ByteArray) (rs : List (List Cl)) (n : ByteArray) (d k : Nat) : rawT ss (rs.take k) n d = if d < k then rawT ss rs n d else default := by
  unfold rawT
  by_cases h : d < k
  · rw [if_pos h]
    have : (rs.take k).getD d [] = rs.getD d [] := by simp only [List.getD, List.getElem?_take]; rw [if_pos h]
    rw [this]
  · rw [if_neg h, row_at (by simp; omega)]
    split <;> rfl
theorem raw_far {ss : List ByteArray} {rs : List (List Cl)} {n : ByteArray} {d : Nat} (h : rs.length ≤ d) : rawT ss rs n d = default := by
  unfold rawT
  rw [row_at h]
  split <;> rfl
end Go.Proofs.YtajocakmmgpoaaaGreatDoor

namespace Go.Proofs.YtajocakmmgpoaaaGreatDoor
open Go.RowKit
set_option linter.unusedVariables false
set_option linter.unusedSimpArgs false

theorem toldT_any (v : Int) (w : World) : Calls Tryz.prog 15 #[.int .i64 v] w fun e w' => e = .returned (.agg #[.bool true, .int .i64 v]) ∧ w' = w.alloc (.cells #[.bool true, .int .i64 v] 34) := by
  go_enter Tryz.func15, Tryz.ntmps15
  go_wp2
  obtain ⟨r0, r1, _, _⟩ := box_all2 (World.alloc_heap_new w (.cells #[.bool true, .int .i64 v] 34))
  exact bodyPost_ret (v := .agg #[.bool true, .int .i64 v]) (by simp [results, Tryz.results15, go_sem, r0, r1]) rfl ⟨rfl, rfl⟩
def plS : List ByteArray := [⟨#[82, 65, 84, 69]⟩, ⟨#[83, 95, 49]⟩]
def plR : List (List Cl) := [[⟨true, 5⟩, ⟨true, -7⟩], [⟨false, 0⟩, ⟨true, 0⟩], [⟨false, 0⟩, ⟨false, 0⟩]]
def als (w : World) (l : List Obj) : World := l.foldl World.alloc w
theorem als_heap : ∀ (l : List Obj) (w : World), (als w l).heap = w.heap ++ l.toArray
  | [], w => by simp [als]
  | o :: l, w => by
    show (als (w.alloc o) l).heap = _
    rw [als_heap l (w.alloc o)]
    show w.heap.push o ++ l.toArray = _
    apply Array.ext'
    simp
theorem als_blk (w : World) (l : List Obj) (k : Nat) : (als w l).heap[w.heap.size + k]? = l[k]? := by
  rw [als_heap, Array.getElem?_append_right (by omega)]
  simp
theorem als_below : ∀ (l : List Obj) (w v : World) (B : Nat), B ≤ v.heap.size → Below B w v → Below B w (als v l)
  | [], w, v, B, hB, h => h
  | o :: l, w, v, B, hB, h => als_below l w (v.alloc o) B (by simp; omega) (h.alloc hB o)
def plO (n : Nat) : List Obj := [
  .cells #[.slice (some ⟨n + 1, 0, none⟩) 2 2, .slice (some ⟨n + 1 + 1 + 1 + 1 + 1 + 1 + 1 + 1, 0, none⟩) 3 3] 25,
  .cells #[.string ⟨#[82, 65, 84, 69]⟩, .string ⟨#[83, 95, 49]⟩] 9,
  .cells #[.bool true, .int .i64 5] 34,
  .cells #[.bool true, .int .i64 (-7)] 34,
  .cells #[.bool true, .int .i64 5, .bool true, .int .i64 (-7)] 34,
  .cells #[.bool true, .int .i64 0] 34,
  .cells #[.bool false, .int .i64 0, .bool true, .int .i64 0] 34,
  .cells #[.bool false, .int .i64 0, .bool false, .int .i64 0] 34,
  .cells #[.slice (some ⟨n + 1 + 1 + 1 + 1, 0, none⟩) 2 2, .slice (some ⟨n + 1 + 1 + 1 + 1 + 1 + 1, 0, none⟩) 2 2, .slice (some ⟨n + 1 + 1 + 1 + 1 + 1 + 1 + 1, 0, none⟩) 2 2] 50]
def plT (n : Nat) : Tb := ⟨some ⟨n + 1, 0, none⟩, 2, 2, plS, some ⟨n + 1 + 1 + 1 + 1 + 1 + 1 + 1 + 1, 0, none⟩, 3, 3, [⟨some ⟨n + 1 + 1 + 1 + 1, 0, none⟩, 2, 2, [⟨true, 5⟩, ⟨true, -7⟩]⟩, ⟨some ⟨n + 1 + 1 + 1 + 1 + 1 + 1, 0, none⟩, 2, 2, [⟨false, 0⟩, ⟨true, 0⟩]⟩, ⟨some ⟨n + 1 + 1 + 1 + 1 + 1 + 1 + 1, 0, none⟩, 2, 2, [⟨false, 0⟩, ⟨false, 0⟩]⟩]⟩
theorem rc_two {W : World} {b : Nat} {c d : Cl} (h : W.heap[b]? = some (.cells #[.bool c.h, .int .i64 c.v, .bool d.h, .int .i64 d.v] 34)) (hc : (Lit.int .i64 c.v).wf = true) (hd : (Lit.int .i64 d.v).wf = true) : RC W (some ⟨b, 0, none⟩) 2 [c, d] := by
  refine ⟨rfl, by omega, ?_, .inr ⟨b, 0, rfl, blk_lt h, fun i hi => ?_⟩⟩
  · intro x hx
    simp at hx
    rcases hx with rfl | rfl
    · exact hc
    · exact hd
  · match i, hi with
    | 0, _ => exact ⟨by rw [Joins.cell_of_block h]; rfl, by rw [Joins.cell_of_block h]; rfl⟩
    | 1, _ => exact ⟨by rw [Joins.cell_of_block h]; rfl, by rw [Joins.cell_of_block h]; rfl⟩
theorem plT_is (w : World) : TbIs (als w (plO w.heap.size)) (plT w.heap.size) plS plR := by
  have b1 := als_blk w (plO w.heap.size) 1
  have b4 := als_blk w (plO w.heap.size) 4
  have b6 := als_blk w (plO w.heap.size) 6
  have b7 := als_blk w (plO w.heap.size) 7
  have b8 := als_blk w (plO w.heap.size) 8
  generalize als w (plO w.heap.size) = W at *
  refine ⟨⟨rfl, (by show (2 : Nat) ≤ _; decide), ?_, .inr ⟨w.heap.size + 1, 0, rfl, blk_lt b1, fun i hi => ?_⟩⟩, (fun e => by cases e), ⟨rfl, (by show (3 : Nat) ≤ _; decide), ?_, .inr ⟨w.heap.size + 8, 0, rfl, blk_lt b8, fun i hi => ?_⟩⟩, (fun e => by cases e), rfl, rfl⟩
  · intro s hs
    simp [plT, plS] at hs
    rcases hs with rfl | rfl <;> decide
  · match i, hi with
    | 0, _ => rw [Joins.cell_of_block b1]; rfl
    | 1, _ => rw [Joins.cell_of_block b1]; rfl
  · intro r hr
    have ml : (2 : Nat) ≤ maxLen := by unfold maxLen; omega
    simp [plT] at hr
    rcases hr with rfl | rfl | rfl
    · exact ⟨rc_two (c := ⟨true, 5⟩) (d := ⟨true, -7⟩) b4 (by decide) (by decide), (fun e => by cases e), Nat.le_refl _, ml⟩
    · exact ⟨rc_two (c := ⟨false, 0⟩) (d := ⟨true, 0⟩) b6 (by decide) (by decide), (fun e => by cases e), Nat.le_refl _, ml⟩
    · exact ⟨rc_two (c := ⟨false, 0⟩) (d := ⟨false, 0⟩) b7 (by decide) (by decide), (fun e => by cases e), Nat.le_refl _, ml⟩
  · match i, hi with
    | 0, _ => rw [Joins.cell_of_block b8]; rfl
    | 1, _ => rw [Joins.cell_of_block b8]; rfl
    | 2, _ => rw [Joins.cell_of_block b8]; rfl
set_option maxRecDepth 100000 in
theorem plain_any (w : World) : Calls Tryz.prog 5 #[] w fun e w' => ∃ t : Tb, e = .returned t.val ∧ TbIs w' t plS plR ∧ Below w.heap.size w w' := by
  have KT := Lib.hid (fun v W => toldT_any v W)
  have TI := Lib.hid (plT_is w)
  have BI := Lib.hid (als_below (plO w.heap.size) w w w.heap.size (Nat.le_refl _) (Below.refl _ _))
  obtain ⟨r0, r1, _, _⟩ := box_all2 (als_blk w (plO w.heap.size) 0)
  rw [Nat.add_zero] at r0 r1
  go_enter Tryz.func5, Tryz.ntmps5
  go_wp2_with (go_at_call 15; refine (KT.out _ _).mono ?_; rintro e w1 ⟨rfl, rfl⟩)
  refine bodyPost_ret (w := als w (plO w.heap.size)) (v := (plT w.heap.size).val) (by simp [results, Tryz.results5, go_sem, r0, r1]; rfl) rfl ?_
  exact ⟨_, rfl, TI.out, BI.out⟩
theorem pl_gd : Gd plS plR := by
  refine ⟨by decide, by decide, by decide, by decide, ?_, by decide⟩
  intro r hr c hc
  simp [plR] at hr
  rcases hr with rfl | rfl | rfl <;> simp at hc <;> rcases hc with rfl | rfl <;> exact ⟨by decide, by decide⟩
theorem pl_len : (textT plS plR plR.length).length ≤ 1048576 := by
  have : textT plS plR plR.length = [100, 97, 121, 32, 82, 65, 84, 69, 32, 83, 95, 49, 10, 48, 32, 53, 32, 45, 55, 10, 49, 32, 45, 32, 48, 10, 50, 32, 45, 32, 45, 10] := by decide +kernel
  rw [this]
  decide
end Go.Proofs.YtajocakmmgpoaaaGreatDoor
