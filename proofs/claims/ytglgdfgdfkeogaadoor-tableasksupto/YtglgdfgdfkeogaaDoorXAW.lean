import Derived.Test.YtglgdfgdfkeogaaDoorXAV
import Derived.Test.YtglgdfgdfkeogaaDoorXAU
import Derived.Deep.RegionHeld3
namespace Go.Proofs.YtglgdfgdfkeogaaDoor
open Go.RowKit
set_option linter.unusedVariables false
set_option linter.unusedSimpArgs false

structure OvC (W : World) (x : Nat) (t u : Tb) : Prop where
  a : W.heap[x]? = some (.cells #[.slice t.an t.ln t.cn, .slice t.ar t.lr t.cr] 25)
  b : W.heap[x + 1]? = some (.cells #[.slice u.an u.ln u.cn, .slice u.ar u.lr u.cr] 25)
  r : W.heap[x + 1 + 1]? = some (.cells #[.slice none 0 0, .slice none 0 0] 25)
def ovW (w : World) (t u : Tb) : World := ((w.alloc (.cells #[.slice t.an t.ln t.cn, .slice t.ar t.lr t.cr] 25)).alloc (.cells #[.slice u.an u.ln u.cn, .slice u.ar u.lr u.cr] 25)).alloc (.cells #[.slice none 0 0, .slice none 0 0] 25)
theorem ovW_all (w : World) (t u : Tb) : Below w.heap.size w (ovW w t u) ∧ (ovW w t u).heap.size = w.heap.size + 1 + 1 + 1 ∧ ∀ W, Below (ovW w t u).heap.size (ovW w t u) W → OvC W w.heap.size t u := by
  refine ⟨(((Below.refl _ w).alloc (Nat.le_refl _) _).alloc (by simp) _).alloc (by simp; omega) _, by unfold ovW; simp only [World.size_alloc], fun W b => ?_⟩
  unfold ovW at b
  have s1 := World.alloc_heap_new w (.cells #[.slice t.an t.ln t.cn, .slice t.ar t.lr t.cr] 25)
  have s2 := World.alloc_heap_new (w.alloc (.cells #[.slice t.an t.ln t.cn, .slice t.ar t.lr t.cr] 25)) (.cells #[.slice u.an u.ln u.cn, .slice u.ar u.lr u.cr] 25)
  have s3 := World.alloc_heap_new ((w.alloc (.cells #[.slice t.an t.ln t.cn, .slice t.ar t.lr t.cr] 25)).alloc (.cells #[.slice u.an u.ln u.cn, .slice u.ar u.lr u.cr] 25)) (.cells #[.slice none 0 0, .slice none 0 0] 25)
  have s1b := (Below.heap_alloc _ (.cells #[.slice u.an u.ln u.cn, .slice u.ar u.lr u.cr] 25) _ (blk_lt s1)).trans s1
  have s1c := (Below.heap_alloc _ (.cells #[.slice none 0 0, .slice none 0 0] 25) _ (blk_lt s1b)).trans s1b
  have s2c := (Below.heap_alloc _ (.cells #[.slice none 0 0, .slice none 0 0] 25) _ (blk_lt s2)).trans s2
  have t1 := (b.block _ (blk_lt s1c)).trans s1c
  have t2 := (b.block _ (blk_lt s2c)).trans s2c
  have t3 := (b.block _ (blk_lt s3)).trans s3
  simp only [World.size_alloc] at t2 t3
  exact ⟨t1, t2, t3⟩
/-- A row being laid, and a cell's box beside it. -/
structure BxR (wd W : World) (v : Value) (n : Nat) (l : List Value) (bx : Nat) (ch : Bool) (cv : Int) : Prop where
  own : W.ownsRow wd.heap.size 53 2 v n l
  bel : Below wd.heap.size wd W
  hx : W.heap[bx]? = some (.cells #[.bool ch, .int .i64 cv] 53)
  hb : wd.heap.size ≤ bx
  ne : v.ownBlock ≠ some bx
theorem bxR_last {wd wo X : World} {v : Value} {n : Nat} {l : List Value} {ch : Bool} {cv : Int} (o : wo.ownsRow wd.heap.size 53 2 v n l) (b : Below wd.heap.size wd wo) (h1 : X.os = wo.os) (h2 : X.tape = wo.tape) (h3 : X.output = wo.output) (h4 : X.heap = (wo.alloc (.cells #[.bool ch, .int .i64 cv] 53)).heap) : BxR wd X v n l wo.heap.size ch cv := by
  have bX : Below wo.heap.size wo X := below_eq (below_al wo _) h1 h2 h3 h4
  exact ⟨own_back o bX, b.trans (bX.mono b.size), by rw [h4]; exact World.alloc_heap_new wo _, b.size, fun e => by obtain ⟨cur, q⟩ := own_blk o e; have := blk_lt q; omega⟩
theorem bxR_set {wd wo X : World} {v : Value} {n : Nat} {l : List Value} {bx : Nat} {ch ch' : Bool} {cv cv' : Int} (h : BxR wd wo v n l bx ch cv) (h1 : X.os = wo.os) (h2 : X.tape = wo.tape) (h3 : X.output = wo.output) (h4 : X.heap = ((wo.setCell ⟨bx, 0, none⟩ (.bool ch')).setCell ⟨bx, 1, none⟩ (.int .i64 cv')).heap) : BxR wd X v n l bx ch' cv' := by
  have b2 := (h.bel.setCell (p := ⟨bx, 0, none⟩) h.hb (.bool ch')).setCell (p := ⟨bx, 1, none⟩) h.hb (.int .i64 cv')
  refine ⟨own_keep h.own (fun b e => ?_), below_eq b2 h1 h2 h3 h4, by rw [h4]; exact box_set2 h.hx, h.hb, h.ne⟩
  have nb : ¬ bx = b := fun q => by subst q; exact h.ne e
  rw [h4]
  simp [World.setCell, Array.getElem?_modify, nb]
theorem BxR.below {wd wo W : World} {v : Value} {n : Nat} {l : List Value} {bx : Nat} {ch : Bool} {cv : Int} (h : BxR wd wo v n l bx ch cv) (b : Below wo.heap.size wo W) : BxR wd W v n l bx ch cv :=
  ⟨own_back h.own b, h.bel.trans (b.mono h.bel.size), (b.block bx (blk_lt h.hx)).trans h.hx, h.hb, h.ne⟩
theorem ov_done {w3 wd W' : World} {T NN vc m xc : Nat} {va xa : Option Addr} {ns : List ByteArray} {qs : List Rw} (h : OvS w3 wd T (.slice va NN vc) (.slice xa m xc) ns qs) (gd : Gd ns (qs.map (·.cs))) (kp : ∀ b, T < b → W'.heap[b]? = wd.heap[b]?) : TbIs W' ⟨va, NN, vc, ns, xa, m, xc, qs⟩ ns (qs.map (·.cs)) := by
  have k : ∀ {E : TypeId} {s n : Nat} {v : Value} {xs : List Value}, wd.ownsRow (T + 1) E s v n xs → W'.ownsRow (T + 1) E s v n xs := fun {E s n v xs} p => own_keep p (fun b e => kp b (by have := (p.lt b e).1; omega))
  have nm := k h.nm
  have e1 := own_len nm
  subst e1
  have R : RwA W' (T + 1) (.slice xa m xc) qs := ⟨k h.rw.own, fun q hq => ⟨k (h.rw.ok q hq).1, (h.rw.ok q hq).2⟩⟩
  have ql : qs.length ≤ 4096 := by have := gd.r4; simpa using this
  have q1 : ∀ q ∈ qs, q.cs.length ≤ 64 := fun q hq => by rw [gd.rw q.cs (List.mem_map.2 ⟨q, hq, rfl⟩)]; exact gd.n64
  obtain ⟨e2, rl, rn⟩ := R.rl ql (fun q hq => by have := q1 q hq; omega) (fun q hq c hc => (gd.st q.cs (List.mem_map.2 ⟨q, hq, rfl⟩) c hc).2)
  refine ⟨nl_of_own nm (by have := gd.n64; show ns.length ≤ _; omega) (fun s hs => by have := name31 (gd.nm s hs); omega), ?_, rl, rn, rfl, rfl⟩
  intro e
  rcases nm.2 with ⟨z, z0⟩ | ⟨g, cap, cur, z, _⟩
  · injection z with _ _ z; exact ⟨z0, z⟩
  · injection z with z; simp only at e; rw [e] at z; cases z
set_option maxRecDepth 100000 in
set_option maxHeartbeats 8000000 in
theorem rOverlay_any (t u : Tb) (ss tt : List ByteArray) (ra rb : List (List Cl)) (w : World) (h : TbIs w t ss ra) (k : TbIs w u tt rb) :
    Calls Tryd.prog 27 #[t.val, u.val] w fun e w' => TabE (ovN ss tt) (ovR ss ra tt rb) (ovE ss ra tt rb) w e w' := by
  obtain ⟨hb0, hsz, hce⟩ := ovW_all w t u
  have CE := Lib.hid hce
  have wf1 := h.wf
  have wf2 := k.wf
  obtain ⟨V1, hV1⟩ : ∃ V, validE ss ra = V := ⟨_, rfl⟩
  obtain ⟨V2, hV2⟩ : ∃ V, validE tt rb = V := ⟨_, rfl⟩
  obtain ⟨E, hE⟩ : ∃ E, ovE ss ra tt rb = E := ⟨_, rfl⟩
  have HE := Lib.hid (p := E = if V1 = 0 then (if V2 = 0 then (if 64 < (ovN ss tt).length then 6 else 0) else V2) else V1) (by rw [← hE, ← hV1, ← hV2]; rfl)
  rw [hE]
  have KV1 := Lib.hid (fun (W : World) (b : Below w.heap.size w W) => rValid_any t.an t.ar t.ln t.cn t.lr t.cr t.ss t.rs W (h.nl.later b) (h.rl.later b))
  rw [h.rs, h.ns, hV1] at KV1
  have KV2 := Lib.hid (fun (W : World) (b : Below w.heap.size w W) => rValid_any u.an u.ar u.ln u.cn u.lr u.cr u.ss u.rs W (k.nl.later b) (k.rl.later b))
  rw [k.rs, k.ns, hV2] at KV2
  have KC1 := Lib.hid (fun (W : World) (b : Below w.heap.size w W) (s : ByteArray) (d : Nat) (hd : d ≤ 5864062014640) => rCell_any t.an t.ar t.ln t.cn t.lr t.cr d s t.ss t.rs W (h.nl.later b) (h.rl.later b) hd)
  rw [h.rs, h.ns] at KC1
  have KC2 := Lib.hid (fun (W : World) (b : Below w.heap.size w W) (s : ByteArray) (d : Nat) (hd : d ≤ 5864062014640) => rCell_any u.an u.ar u.ln u.cn u.lr u.cr d s u.ss u.rs W (k.nl.later b) (k.rl.later b) hd)
  rw [k.rs, k.ns] at KC2
  have Q := Lib.hid (p := ∀ w', E ≠ 0 → Below w.heap.size w w' → TabE (ovN ss tt) (ovR ss ra tt rb) E w (.returned (.tuple #[.agg #[.slice none 0 0, .slice none 0 0], .int .i64 E])) w') (fun w' q b => tabE_nil q b)
  have N1 := Lib.hid (p := NL w t.an t.ln ss) (by have := h.nl; rwa [h.ns] at this)
  have N2 := Lib.hid (p := NL w u.an u.ln tt) (by have := k.nl; rwa [k.ns] at this)
  have n10 := h.nn
  have LR := Lib.hid (p := t.lr = ra.length ∧ u.lr = rb.length) ⟨(tb_lens h).2, (tb_lens k).2⟩
  obtain ⟨w1, hw1⟩ : ∃ x, ovW w t u = x := ⟨_, rfl⟩
  rw [hw1] at hb0 hsz CE
  have B0 := Lib.hid hb0
  have c1 := CE.out w1 (Below.refl _ _)
  obtain ⟨a0, a1, _, _⟩ := box_all2 c1.a
  obtain ⟨b0, b1, _, _⟩ := box_all2 c1.b
  obtain ⟨r0, r1, r2, r3⟩ := box_all2 c1.r
  have GD := Lib.hid (p := V1 = 0 → V2 = 0 → Gd ss ra ∧ Gd tt rb) (fun e1 e2 => ⟨gd_valid (hV1.trans e1) wf1, gd_valid (hV2.trans e2) wf2⟩)
  clear h k hb0 hce hE hV1 hV2 wf1 wf2 c1
  unfold ovW at hw1
  obtain ⟨an, ln, cn, tss, ar, lr, cr, trs⟩ := t
  obtain ⟨bn, mn, dn, uss, br, mr, dr, urs⟩ := u
  simp only [Tb.val] at *
  subst hw1
  by_cases h1 : V1 = 0
  · subst h1
    by_cases h2 : V2 = 0
    · subst h2
      obtain ⟨g1, g2⟩ := GD.out rfl rfl
      have G1 := Lib.hid g1
      have G2 := Lib.hid g2
      have n1 : ln ≤ 64 := by have := g1.n64; have := N1.out.1; omega
      have n2 : mn ≤ 64 := by have := g2.n64; have := N2.out.1; omega
      have rl : lr ≤ 4096 ∧ mr ≤ 4096 := by have := g1.r4; have := g2.r4; have := LR.out; omega
      clear GD g1 g2
      go_enter Tryd.func27, Tryd.ntmps27
      go_upto_region 8 with (first
        | (go_at_call 40; have mk := KV1; refine (KV1.out _ B0.out).mono ?_; rintro e w2 ⟨rfl, hB⟩; have D2 := Lib.hid hB; have E2 := Lib.hid (B0.out.trans (hB.mono B0.out.size)); have c2 := CE.out _ hB; obtain ⟨b2, b3, _, _⟩ := box_all2 c2.b; clear hB KV1 mk c2)
        | (go_at_call 40; refine (KV2.out _ E2.out).mono ?_; rintro e w3 ⟨rfl, hB⟩; have D3 := Lib.hid (D2.out.trans (hB.mono D2.out.size)); have E3 := Lib.hid (E2.out.trans (hB.mono E2.out.size)); clear hB))
      have O4 := Lib.hid (p := OvS w3 (w3.alloc (.cells #[.slice none 0 0, .slice none 0 0] 25)) w3.heap.size (.slice none 0 0) (.slice none 0 0) [] []) ⟨World.alloc_heap_new w3 _, World.ownsRow_nil _ _ _ _, RwA.nil _ _, (Below.refl _ w3).alloc (Nat.le_refl _) _⟩
      have CW := Lib.hid (p := ∀ W, Below w3.heap.size w3 W → OvC W w.heap.size ⟨an, ln, cn, tss, ar, lr, cr, trs⟩ ⟨bn, mn, dn, uss, br, mr, dr, urs⟩ ∧ Below w.heap.size w W) (fun W q => ⟨CE.out W (D3.out.trans (q.mono D3.out.size)), E3.out.trans (q.mono E3.out.size)⟩)
      have S3 := Lib.hid (p := w.heap.size + 1 + 1 + 1 ≤ w3.heap.size) (by have := D3.out.size; omega)
      obtain ⟨w4, hw4⟩ : ∃ x, w3.alloc (.cells #[.slice none 0 0, .slice none 0 0] 25) = x := ⟨_, rfl⟩
      rw [hw4] at O4
      rw [hw4]
      obtain ⟨T, hT⟩ : ∃ x, w3.heap.size = x := ⟨_, rfl⟩
      rw [hT] at O4 CW S3
      rw [hT]
      clear KV2 D2 E2 D3 E3 B0 CE hw4 a0 a1 b0 b1 b2 b3 r0 r1 r2 r3
      obtain ⟨cc, ee⟩ := CW.out _ O4.out.bel
      obtain ⟨a0, a1, _, _⟩ := box_all2 cc.a
      obtain ⟨t0, t1, t2, t3⟩ := box_all2 O4.out.hT
      have NW := Lib.hid (p := ∀ x, an = some x → ∀ j u, (ss.map Value.string)[j]? = some u → w4.cell? (x.add j) = some u) (nl_news (N1.out.later ee))
      have sl := N1.out.1
      go_upto_region 9 with (at_builtin; refine wp_appG Tryd.underlying22 infoS rfl (by decide) _ (T + 1) O4.out.lt an ln cn (ss.map Value.string) (by rw [List.length_map, sl]; omega) NW.out n10 (strs_one ss) rfl _ _ rfl _ _ _ rfl O4.out.nm rfl (by simp; unfold maxLen; omega) (by simp; omega) ?_; intro v5 w5 O5 G5; simp only [List.length_nil, Nat.zero_add, List.map_nil, List.nil_append] at O5; obtain ⟨y0, y1⟩ := O4.out.fldN G5; have P5 := Lib.hid (O4.out.names (ns' := ss) (by simpa [sl] using O5) G5); obtain ⟨na, nc, hv5⟩ := own_form2 O5; subst hv5; clear O5 G5)
      clear NW t0 t1 t2 t3 cc ee a0 a1 y0 y1
      obtain ⟨w6, hw6⟩ : ∃ x, w5.setCell ⟨T, 0, none⟩ (.slice na ln nc) = x := ⟨_, rfl⟩
      rw [hw6] at P5
      rw [hw6]
      clear hw6 O4
      go_wp2
      have NC := Lib.hid (p := ∀ i, i < mn → ∃ x o, bn = some ⟨x, o, none⟩ ∧ x < w.heap.size ∧ w.cell? ⟨x, o + i, none⟩ = some (.string (tt.getD i default))) (fun i hi => by
        rcases N2.out.2.2.2 with z | ⟨x, o, z1, z2, z3⟩
        · omega
        · exact ⟨x, o, z1, z2, z3 i hi⟩)
      go_loopw [8] (fun t ws => ∃ (i : Nat) (vn : Value), i ≤ mn ∧ t = .int .i64 (i : Int) ∧ RowKit.Hid (OvS w3 ws T vn (.slice none 0 0) (ovN ss (tt.take i)) [])) (fun t _ => mn - (intOf t).toNat)
      case atStart => exact ⟨0, _, Nat.zero_le _, rfl, by show OvS _ _ _ _ _ _ _; simpa [ovN] using P5.out⟩
      case round =>
        obtain ⟨i, vn, hi, rfl, hQ⟩ := hrel
        rename World => ws
        have OS := Lib.hid hQ.out
        clear hQ
        obtain ⟨cc, ee⟩ := CW.out _ OS.out.bel
        obtain ⟨b0, b1, _, _⟩ := box_all2 cc.b
        obtain ⟨va, vc, hv⟩ := own_form2 OS.out.nm
        subst hv
        obtain ⟨t0, t1, _, _⟩ := box_all2 OS.out.hT
        have nle : (ovN ss (tt.take i)).length ≤ 128 := by have := ovN_lenT ss tt i; have := ovN_len ss tt; have := N1.out.1; have := N2.out.1; omega
        by_cases hlt : i < mn
        · have kc : (i : Int) < (mn : Int) := by omega
          have kw : IntKind.i64.wrap ((i : Int) + 1) = (i : Int) + 1 := by simp [IntKind.wrap, IntKind.bits, IntKind.signed]; omega
          obtain ⟨x, o, rfl, hx, hcx⟩ := NC.out i hlt
          have d0 := (ee.cell (p := ⟨x, o + i, none⟩) hx).trans hcx
          have hit : i < tt.length := by rw [N2.out.1]; exact hlt
          have NLs := Lib.hid (p := NL ws va (ovN ss (tt.take i)).length (ovN ss (tt.take i))) (nl_of_own OS.out.nm (by omega) (fun s hs => by
            have : s ∈ ovN ss tt := by
              unfold ovN at hs ⊢
              rcases List.mem_append.1 hs with q | q
              · exact List.mem_append.2 (.inl q)
              · refine List.mem_append.2 (.inr ?_)
                have := List.mem_filter.1 q
                exact List.mem_filter.2 ⟨List.mem_of_mem_take this.1, this.2⟩
            rcases ovN_mem.1 this with q | q
            · have := name31 (G1.out.nm s q); omega
            · have := name31 (G2.out.nm s q); omega))
          have KX := Lib.hid (fun (W : World) (q : NL W va (ovN ss (tt.take i)).length (ovN ss (tt.take i))) => column_any va (ovN ss (tt.take i)).length vc (ovN ss (tt.take i)) (tt.getD i default) W q)
          by_cases hcol : colF ss (tt.getD i default) 0 < 0
          · have NX := Lib.hid (ovN_new hit hcol)
            have k2 : colF (ovN ss (tt.take i)) (tt.getD i default) 0 < 0 := (ovN_none G2.out.nd hit).2 hcol
            have KD := Lib.hid (KX.out ws.drew (NLs.out.later (Below.refl _ ws).drew))
            have O7 := Lib.hid (OS.out.below (Below.refl _ ws).drew)
            obtain ⟨nm, hnm⟩ : ∃ x, tt.getD i default = x := ⟨_, rfl⟩
            obtain ⟨m, hm⟩ : ∃ x, (ovN ss (tt.take i)).length = x := ⟨_, rfl⟩
            obtain ⟨cf, hcf⟩ : ∃ x, colF (ovN ss (tt.take i)) nm 0 = x := ⟨_, rfl⟩
            rw [hnm] at d0 KD k2 NX
            rw [hm] at t0 KD O7 nle
            rw [hcf] at KD k2
            have HM := Lib.hid hm
            have HC := Lib.hid (hcx)
            rw [hnm] at HC
            clear hcf hnm hm hcol KX NLs hcx
            go_wp2
            go_region_held3 (fun w' => w'.cell? ⟨T, 0, none⟩ = some (.slice va m vc) ∧ w'.cell? ⟨w.heap.size + 1, 0, none⟩ = some (.slice (some ⟨x, o, none⟩) mn dn) ∧ w'.cell? ⟨x, o + i, none⟩ = some (.string nm)) (first | exact ⟨t0, b0, d0⟩) (first | (go_at_call 47; refine KD.out.mono ?_; rintro e w7 ⟨rfl, rfl⟩))
            clear KD t0 t1 b0 b1 d0
            go_upto_region 13 with fail
            obtain ⟨w7, hw7⟩ : ∃ x, ws.drew = x := ⟨_, rfl⟩
            rw [hw7] at O7
            rw [hw7]
            clear hw7
            have BA := Lib.hid (p := Below w7.heap.size w7 (w7.alloc (.cells #[.string nm] 9)).drew) (below_eq (below_al w7 (.cells #[.string nm] 9)) rfl rfl rfl rfl)
            have O8 := Lib.hid (O7.out.below BA.out)
            obtain ⟨v5, w5, hr, O5, G5, _⟩ := app_run (T := 22) Tryd.underlying22 infoS rfl (by decide) (w7.alloc (.cells #[.string nm] 9)).drew (T + 1) O8.out.lt (some ⟨w7.heap.size, 0, none⟩) 1 1 [.string nm] rfl (one_news w7 _ _) (by simp) (by simp [Value.oneCell']) (.slice va m vc) _ _ O8.out.nm (by have := HM.out; unfold maxLen; omega) (by have := HM.out; omega)
            obtain ⟨qa, qc, hv⟩ := own_form2 O5
            subst hv
            obtain ⟨y0, y1⟩ := O8.out.fldN G5
            have P9 := Lib.hid (O8.out.names (ns' := ovN ss (tt.take (i + 1))) (by rw [NX.out, List.length_append, List.map_append]; exact O5) G5)
            obtain ⟨t0, _, _, _⟩ := box_all2 O7.out.hT
            obtain ⟨c7, e7⟩ := CW.out _ O7.out.bel
            obtain ⟨b0, _, _, _⟩ := box_all2 c7.b
            have d0 := (e7.cell (p := ⟨x, o + i, none⟩) hx).trans HC.out
            obtain ⟨t8, _, _, _⟩ := box_all2 (((below_al w7 (.cells #[.string nm] 9)).block T (by have := O7.out.lt; omega)).trans O7.out.hT)
            rw [HM.out] at hr P9
            clear O5 G5 O8 BA c7 e7
            go_region_law (first | (refine step_app_run rfl _ _ 22 rfl _ _ _ w5 rfl rfl hr ?_))
            all_goals
              go_wp2
              go_roundw
              case rel => exact ⟨i + 1, _, by omega, by go_num, by show OvS _ _ _ _ _ _ _; exact P9.out⟩
              case measure => simp [intOf]; omega
          · have NX := Lib.hid (ovN_old hit hcol)
            have k2 : ¬ colF (ovN ss (tt.take i)) (tt.getD i default) 0 < 0 := fun q => hcol ((ovN_none G2.out.nd hit).1 q)
            have KD := Lib.hid (KX.out ws.drew (NLs.out.later (Below.refl _ ws).drew))
            obtain ⟨nm, hnm⟩ : ∃ x, tt.getD i default = x := ⟨_, rfl⟩
            obtain ⟨m, hm⟩ : ∃ x, (ovN ss (tt.take i)).length = x := ⟨_, rfl⟩
            obtain ⟨cf, hcf⟩ : ∃ x, colF (ovN ss (tt.take i)) nm 0 = x := ⟨_, rfl⟩
            rw [hnm] at d0 KD k2
            rw [hm] at t0 KD
            rw [hcf] at KD k2
            clear hcf hnm hm nle hcol KX NLs
            go_wp2
            go_region_held3 (fun w' => w'.cell? ⟨T, 0, none⟩ = some (.slice va m vc) ∧ w'.cell? ⟨w.heap.size + 1, 0, none⟩ = some (.slice (some ⟨x, o, none⟩) mn dn) ∧ w'.cell? ⟨x, o + i, none⟩ = some (.string nm)) (first | exact ⟨t0, b0, d0⟩) (first | (go_at_call 47; refine KD.out.mono ?_; rintro e w7 ⟨rfl, rfl⟩))
            go_wp2
            go_roundw
            case rel => exact ⟨i + 1, _, by omega, by go_num, by show OvS _ _ _ _ _ _ _; rw [NX.out]; exact OS.out.below (below_eq (Below.refl _ _) rfl rfl rfl rfl)⟩
            case measure => simp [intOf]; omega
        · obtain rfl : i = mn := by omega
          have kc : ¬ (i : Int) < (i : Int) := by omega
          have TK : tt.take i = tt := List.take_of_length_le (by rw [N2.out.1]; omega)
          rw [TK] at OS nle t0
          obtain ⟨NN, hNN⟩ : ∃ x, (ovN ss tt).length = x := ⟨_, rfl⟩
          rw [hNN] at nle t0
          have HN := Lib.hid hNN
          rw [hNN] at OS
          clear TK NC
          by_cases h64 : 64 < NN
          · have e5 : E = 6 := by have q := HE.out; rw [hNN] at q; simp only [if_true] at q; rw [if_pos h64] at q; exact q
            subst e5
            have k64 : (64 : Int) < (NN : Int) := by omega
            obtain ⟨r0, r1, r2, r3⟩ := box_all2 cc.r
            obtain ⟨z0, z1, _, _⟩ := box_all2 (box_set2 (u := .slice none 0 0) (v := .slice none 0 0) cc.r)
            have BE := Lib.hid ((ee.setCell (p := ⟨w.heap.size + 1 + 1, 0, none⟩) (by simp; omega) (.slice none 0 0)).setCell (p := ⟨w.heap.size + 1 + 1, 1, none⟩) (by simp; omega) (.slice none 0 0))
            clear hNN HE
            go_wp2
            refine bodyPost_ret (v := .tuple #[.agg #[.slice none 0 0, .slice none 0 0], .int .i64 6]) (by simp [results, Tryd.results27, go_sem, z0, z1]) rfl ?_
            exact Q.out _ (by decide) BE.out
          · have e5 : E = 0 := by have q := HE.out; rw [hNN] at q; simp only [if_true] at q; rw [if_neg h64] at q; exact q
            subst e5
            have k64 : ¬ (64 : Int) < (NN : Int) := by omega
            have OVC := Lib.hid (p := ∀ d, d < max lr mr → (ovR ss ra tt rb)[d]? = some ((ovN ss tt).map (ovCl ss ra tt rb d))) (fun d hd => ov_cells G1.out G2.out (by omega) (by rw [← LR.out.1, ← LR.out.2]; exact hd))
            have OVL := Lib.hid (p := (ovR ss ra tt rb).length ≤ max lr mr) (by
              rcases Nat.lt_or_ge (max lr mr) (ovR ss ra tt rb).length with q | q
              · exfalso
                have e := List.getElem?_eq_getElem q
                unfold ovR at e q
                simp at q
                have := LR.out
                omega
              · exact q)
            clear hNN HE Q cc ee b1 t1
            go_wp2
            clear t0 b0
            go_loopw [9] (fun t ws => ∃ (d : Nat) (vr : Value) (qs : List Rw), d ≤ max lr mr ∧ t = .int .i64 (d : Int) ∧ RowKit.Hid (OvS w3 ws T (.slice va NN vc) vr (ovN ss tt) qs ∧ qs.length = d ∧ qs.map (·.cs) = (ovR ss ra tt rb).take d)) (fun t _ => max lr mr - (intOf t).toNat)
            case atStart => exact ⟨0, _, [], Nat.zero_le _, rfl, OS.out, rfl, by simp⟩
            case round =>
              obtain ⟨d, vr, qs, hd, rfl, hQ⟩ := hrel
              rename World => wd
              have OD := Lib.hid hQ.out.1
              have QL := Lib.hid hQ.out.2.1
              have QM := Lib.hid hQ.out.2.2
              clear hQ
              obtain ⟨cc, ee⟩ := CW.out _ OD.out.bel
              obtain ⟨a0, a1, _, _⟩ := box_all2 cc.a
              obtain ⟨b0, b1, _, _⟩ := box_all2 cc.b
              obtain ⟨t0, t1, _, _⟩ := box_all2 OD.out.hT
              by_cases hlt : d < max lr mr
              · have kw : IntKind.i64.wrap ((d : Int) + 1) = (d : Int) + 1 := by simp [IntKind.wrap, IntKind.bits, IntKind.signed]; omega
                go_upto_region 17 with fail
                go_cut [73] (fun v wx => v = .bool true ∧ wd = wx)
                case first =>
                  by_cases hda : d < lr
                  · have kd : (d : Int) < (lr : Int) := by omega
                    go_wp2
                    go_meet
                    case rel => exact ⟨rfl, rfl⟩
                  · have kd : ¬ (d : Int) < (lr : Int) := by omega
                    have ke : (d : Int) < (mr : Int) := by omega
                    go_wp2
                    go_meet
                    case rel => exact ⟨rfl, rfl⟩
                case rest =>
                  as_aux_lemma =>
                    obtain ⟨rfl, rfl⟩ := hcut
                    obtain ⟨f, hf⟩ : ∃ f : ByteArray → Cl, ovCl ss ra tt rb d = f := ⟨_, rfl⟩
                    have HF := Lib.hid (p := ∀ s, f s = if (cellT tt rb s d).h then cellT tt rb s d else cellT ss ra s d) (fun s => by rw [← hf]; rfl)
                    have NXT := Lib.hid (p := (ovR ss ra tt rb).take (d + 1) = (ovR ss ra tt rb).take d ++ [(ovN ss tt).map f]) (by
                      rw [List.take_add_one, OVC.out d hlt, ← hf]; rfl)
                    have NMS := Lib.hid (p := ∀ j, j < NN → ∃ g, va = some ⟨g, 0, none⟩ ∧ g < wd.heap.size ∧ wd.cell? ⟨g, j, none⟩ = some (.string ((ovN ss tt).getD j default))) (fun j hj => by
                      have hn := HN.out
                      rcases OD.out.nm.2 with ⟨z, z0⟩ | ⟨g, cap, cur, z, _, q1, _⟩
                      · omega
                      · injection z with z1 z2 z3
                        refine ⟨g, z1, blk_lt q1, ?_⟩
                        subst z1
                        have hjl : j < (ovN ss tt).length := by omega
                        have nm2 := OD.out.nm
                        rw [hn] at nm2
                        have ca := World.ownsRow.cellAt nm2 j (show j < NN * 1 by omega)
                        rw [ca, List.getElem?_map, List.getElem?_eq_getElem hjl]
                        simp [List.getD, hjl])
                    clear hf
                    go_wp2
                    go_loopw [10, 11] (fun v t wu => ∃ i : Nat, i ≤ NN ∧ t = .int .i64 (i : Int) ∧ RowKit.Hid (wu.ownsRow wd.heap.size 53 2 v i (clv (((ovN ss tt).take i).map f)) ∧ Below wd.heap.size wd wu)) (fun _ t _ => NN - (intOf t).toNat)
                    case atStart => exact ⟨0, Nat.zero_le _, rfl, World.ownsRow_nil _ _ _ _, Below.refl _ _⟩
                    case round =>
                      obtain ⟨i2, hi2, rfl, hQ⟩ := hrel
                      rename World => wu
                      have OU := Lib.hid hQ.out.1
                      have BU := Lib.hid hQ.out.2
                      clear hQ
                      have O2 := Lib.hid (OD.out.below BU.out)
                      obtain ⟨c2, e2⟩ := CW.out _ O2.out.bel
                      obtain ⟨a2, a3, _, _⟩ := box_all2 c2.a
                      obtain ⟨b2, b3, _, _⟩ := box_all2 c2.b
                      obtain ⟨t2, t3, _, _⟩ := box_all2 O2.out.hT
                      by_cases hil : i2 < NN
                      · have kc : (i2 : Int) < (NN : Int) := by omega
                        have kwi : IntKind.i64.wrap ((i2 : Int) + 1) = (i2 : Int) + 1 := by simp [IntKind.wrap, IntKind.bits, IntKind.signed]; omega
                        obtain ⟨g, rfl, hg, hcg⟩ := NMS.out i2 hil
                        have hio : i2 < (ovN ss tt).length := by rw [HN.out]; exact hil
                        have STEP := Lib.hid (p := ((ovN ss tt).take (i2 + 1)).map f = ((ovN ss tt).take i2).map f ++ [f ((ovN ss tt).getD i2 default)]) (by
                          rw [List.take_add_one, List.getElem?_eq_getElem hio, List.map_append]; simp [List.getD, hio])
                        have KX2 := Lib.hid (fun (W : World) (q : Below w.heap.size w W) => KC2.out W q ((ovN ss tt).getD i2 default) d (by omega))
                        have KX1 := Lib.hid (fun (W : World) (q : Below w.heap.size w W) => KC1.out W q ((ovN ss tt).getD i2 default) d (by omega))
                        have HFN := Lib.hid (HF.out ((ovN ss tt).getD i2 default))
                        have ST := Lib.hid (p := ∀ W, Below wd.heap.size wd W → (W.cell? ⟨w.heap.size, 0, none⟩ = some (.slice an ln cn) ∧ W.cell? ⟨w.heap.size, 1, none⟩ = some (.slice ar lr cr) ∧ W.cell? ⟨w.heap.size + 1, 0, none⟩ = some (.slice bn i dn) ∧ W.cell? ⟨w.heap.size + 1, 1, none⟩ = some (.slice br mr dr) ∧ W.cell? ⟨T, 0, none⟩ = some (.slice (some ⟨g, 0, none⟩) NN vc) ∧ W.cell? ⟨g, i2, none⟩ = some (.string ((ovN ss tt).getD i2 default))) ∧ Below w.heap.size w W) (fun W q => by
                          have o := OD.out.below q
                          obtain ⟨c, e⟩ := CW.out _ o.bel
                          obtain ⟨m0, m1, _, _⟩ := box_all2 c.a
                          obtain ⟨m2, m3, _, _⟩ := box_all2 c.b
                          obtain ⟨m4, _, _, _⟩ := box_all2 o.hT
                          exact ⟨⟨m0, m1, m2, m3, m4, (q.cell (p := ⟨g, i2, none⟩) hg).trans hcg⟩, e⟩)
                        obtain ⟨nm, hnm⟩ : ∃ x, (ovN ss tt).getD i2 default = x := ⟨_, rfl⟩
                        rw [hnm] at STEP KX1 KX2 HFN
                        simp only [hnm] at ST
                        generalize f nm = fn at STEP HFN
                        generalize cellT tt rb nm d = cb at KX2 HFN
                        generalize cellT ss ra nm d = ca at KX1 HFN
                        obtain ⟨bh, bv⟩ := cb
                        obtain ⟨ah, av⟩ := ca
                        obtain ⟨qa, qc, hv⟩ := own_form2 OU.out
                        subst hv
                        obtain ⟨⟨m0, m1, m2, m3, m4, m5⟩, em⟩ := ST.out _ BU.out
                        clear hnm hcg a2 a3 b2 b3 t2 t3 c2 e2
                        go_upto_region 23 with fail
                        go_cut [12] (fun v wx => ∃ bx, v = .pointer (some ⟨bx, 0, none⟩) ∧ RowKit.Hid (BxR wd wx (.slice qa i2 qc) i2 (clv (((ovN ss tt).take i2).map f)) bx bh bv))
                        case first =>
                          have BD := Lib.hid (p := Below wd.heap.size wd wu.drew) (BU.out.trans ((Below.refl _ wu).drew.mono BU.out.size))
                          have OUd := Lib.hid (own_back OU.out (Below.refl _ wu).drew)
                          have OV := Lib.hid (p := ∀ e, (Value.slice qa i2 qc).ownBlock = some e → e < wu.heap.size) (fun e he => by obtain ⟨cur, q⟩ := own_blk OU.out he; exact blk_lt q)
                          go_region_held3 (fun w' => w'.cell? ⟨w.heap.size, 0, none⟩ = some (.slice an ln cn) ∧ w'.cell? ⟨w.heap.size, 1, none⟩ = some (.slice ar lr cr) ∧ w'.cell? ⟨w.heap.size + 1, 0, none⟩ = some (.slice bn i dn) ∧ w'.cell? ⟨w.heap.size + 1, 1, none⟩ = some (.slice br mr dr) ∧ w'.cell? ⟨T, 0, none⟩ = some (.slice (some ⟨g, 0, none⟩) NN vc) ∧ w'.cell? ⟨g, i2, none⟩ = some (.string nm)) (first | exact ⟨m0, m1, m2, m3, m4, m5⟩ | exact (ST.out _ BD.out).1 | exact (ST.out _ (BD.out.alloc BD.out.size _)).1 | exact (ST.out _ B9.out).1 | exact (ST.out _ (B9.out.alloc B9.out.size _)).1 | exact (ST.out _ (below_eq (B9.out.alloc B9.out.size _) rfl rfl rfl rfl)).1 | exact (ST.out _ (below_eq ((B9.out.setCell (p := ⟨_, 0, none⟩) XB.out _).setCell (p := ⟨_, 1, none⟩) XB.out _) rfl rfl rfl rfl)).1) (first
                            | (go_at_call 42; refine (KX2.out _ (ST.out _ BD.out).2).mono ?_; rintro e w9 ⟨rfl, hB⟩; have B9 := Lib.hid (BD.out.trans (hB.mono BD.out.size)); have O9 := Lib.hid (own_back OUd.out hB); clear hB)
                            | (go_at_call 42; refine (KX2.out _ (ST.out _ (BD.out.alloc BD.out.size _)).2).mono ?_; rintro e w9 ⟨rfl, hB⟩; have B9 := Lib.hid ((BD.out.alloc BD.out.size _).trans (hB.mono (BD.out.alloc BD.out.size _).size)); have O9 := Lib.hid (own_back (own_back OUd.out (below_al _ _)) hB); have HX := Lib.hid ((hB.block _ (by simp)).trans (World.alloc_heap_new _ _)); have XB := Lib.hid (p := wd.heap.size ≤ wu.heap.size) BU.out.size; obtain ⟨i0, i1, i2', i3⟩ := box_all2 HX.out; (try (change w9.cell? ⟨wu.heap.size, 0, none⟩ = _ at i0; change w9.cell? ⟨wu.heap.size, 1, none⟩ = _ at i1; change w9.frozen? ⟨wu.heap.size, 0, none⟩ = _ at i2'; change w9.frozen? ⟨wu.heap.size, 1, none⟩ = _ at i3)); clear hB))
                          all_goals
                            go_wp2
                            go_meet
                            case rel => first
                              | exact ⟨_, rfl, bxR_last O9.out B9.out rfl rfl rfl rfl⟩
                              | exact ⟨_, rfl, bxR_set (ch := false) (cv := 0) (bx := wu.heap.size) ⟨O9.out, B9.out, HX.out, XB.out, fun e => by have := OV.out _ e; omega⟩ rfl rfl rfl rfl⟩
                        case rest =>
                          as_aux_lemma =>
                            obtain ⟨bx, rfl, hX⟩ := hcut
                            rename World => wx
                            have BX := Lib.hid hX.out
                            clear hX m0 m1 m2 m3 m4 m5 em
                            obtain ⟨y0, y1, y2, y3⟩ := box_all2 BX.out.hx
                            obtain ⟨⟨m0, m1, m2, m3, m4, m5⟩, em⟩ := ST.out _ BX.out.bel
                            go_upto_if 93 with fail
                            go_cut [12] (fun v wz => v = .pointer (some ⟨bx, 0, none⟩) ∧ RowKit.Hid (BxR wd wz (.slice qa i2 qc) i2 (clv (((ovN ss tt).take i2).map f)) bx fn.h fn.v))
                            case first =>
                              cases bh with
                              | true =>
                                have e := HFN.out
                                simp only [if_true] at e
                                subst e
                                go_wp2
                                go_meet
                                case rel => exact ⟨rfl, BX.out⟩
                              | false =>
                                have e := HFN.out
                                simp only [Bool.false_eq_true, if_false] at e
                                subst e
                                go_upto_region 25 with fail
                                have BD := Lib.hid (p := Below wd.heap.size wd wx.drew) (BX.out.bel.trans ((Below.refl _ wx).drew.mono BX.out.bel.size))
                                have BXd := Lib.hid (BX.out.below (Below.refl _ wx).drew)
                                go_region_held3 (fun w' => w'.cell? ⟨w.heap.size, 0, none⟩ = some (.slice an ln cn) ∧ w'.cell? ⟨w.heap.size, 1, none⟩ = some (.slice ar lr cr) ∧ w'.cell? ⟨w.heap.size + 1, 0, none⟩ = some (.slice bn i dn) ∧ w'.cell? ⟨w.heap.size + 1, 1, none⟩ = some (.slice br mr dr) ∧ w'.cell? ⟨T, 0, none⟩ = some (.slice (some ⟨g, 0, none⟩) NN vc) ∧ w'.cell? ⟨g, i2, none⟩ = some (.string nm)) (first | exact ⟨m0, m1, m2, m3, m4, m5⟩ | exact (ST.out _ BD.out).1 | exact (ST.out _ B9.out.bel).1 | exact (ST.out _ ((B9.out.bel.setCell (p := ⟨bx, 0, none⟩) B9.out.hb _).setCell (p := ⟨bx, 1, none⟩) B9.out.hb _)).1 | exact (ST.out _ (below_eq ((B9.out.bel.setCell (p := ⟨bx, 0, none⟩) B9.out.hb _).setCell (p := ⟨bx, 1, none⟩) B9.out.hb _) rfl rfl rfl rfl)).1) (first
                                  | (go_at_call 42; refine (KX1.out _ (ST.out _ BD.out).2).mono ?_; rintro e w9 ⟨rfl, hB⟩; have B9 := Lib.hid (BXd.out.below hB); obtain ⟨i0, i1, i2', i3⟩ := box_all2 B9.out.hx; clear hB))
                                all_goals
                                  go_wp2
                                  go_meet
                                  case rel => exact ⟨rfl, bxR_set B9.out rfl rfl rfl rfl⟩
                            case rest =>
                              as_aux_lemma =>
                                obtain ⟨rfl, hX⟩ := hcut
                                rename World => wz
                                have BZ := Lib.hid hX.out
                                clear hX
                                obtain ⟨fh, fv⟩ := fn
                                obtain ⟨z0, z1, _, _⟩ := box_all2 BZ.out.hx
                                have BA := Lib.hid (below_al wz (.cells #[.bool fh, .int .i64 fv] 53))
                                have OA := Lib.hid (own_back BZ.out.own BA.out)
                                have LB2 := Lib.hid (p := wd.heap.size ≤ (wz.alloc (.cells #[.bool fh, .int .i64 fv] 53)).heap.size) (Nat.le_trans BZ.out.bel.size BA.out.size)
                                clear m0 m1 m2 m3 m4 m5 em y0 y1 y2 y3
                                go_wp2_with (at_builtin; refine wp_appG Tryd.underlying49 infoC rfl (by decide) _ wd.heap.size LB2.out (some ⟨wz.heap.size, 0, none⟩) 1 1 [.bool fh, .int .i64 fv] rfl (two_news wz (.bool fh) (.int .i64 fv) 53) (fun e => by cases e) (by simp [Value.oneCell']) rfl _ _ rfl _ _ _ rfl OA.out rfl (by unfold maxLen; omega) (by omega) ?_; intro v5 w5 O5 G5; have P5 := Lib.hid O5; have B5 := Lib.hid (p := Below wd.heap.size wd w5) ((BZ.out.bel.trans (BA.out.mono BZ.out.bel.size)).grown G5 LB2.out (fun k e => (OA.out.lt k e).1)); clear O5 G5)
                                go_roundw
                                case rel => exact ⟨i2 + 1, by omega, by go_num, by rw [STEP.out, clv_snoc]; exact P5.out, B5.out⟩
                                case measure => simp [intOf]; omega
                      · obtain rfl : i2 = NN := by omega
                        have kc : ¬ (i2 : Int) < (i2 : Int) := by omega
                        have TK := Lib.hid (p := (ovN ss tt).take i2 = ovN ss tt) (List.take_of_length_le (by rw [HN.out]; omega))
                        rw [TK.out] at OU
                        obtain ⟨qa, qc, hv⟩ := own_form2 OU.out
                        subst hv
                        obtain ⟨xa, xc, hvr⟩ := own_form2 O2.out.rw.own
                        subst hvr
                        have BA := Lib.hid (below_al wu (.cells #[.slice qa i2 qc] 49))
                        have O3 := Lib.hid (O2.out.below BA.out)
                        have OQ := Lib.hid (p := (wu.alloc (.cells #[.slice qa i2 qc] 49)).ownsRow (T + 1) 53 2 (qv ⟨qa, i2, qc, (ovN ss tt).map f⟩) ((ovN ss tt).map f).length (clv ((ovN ss tt).map f))) (by
                          rw [List.length_map, HN.out]
                          exact own_mono (own_back OU.out BA.out) OD.out.lt)
                        have QL4 := Lib.hid (p := qs.length ≤ 4096) (by rw [QL.out]; omega)
                        have NX2 := Lib.hid (p := (qs ++ [(⟨qa, i2, qc, (ovN ss tt).map f⟩ : Rw)]).map (·.cs) = (ovR ss ra tt rb).take (d + 1)) (by rw [List.map_append, QM.out, NXT.out]; rfl)
                        go_wp2_with (at_builtin; refine wp_appG Tryd.underlying23 infoR rfl (by decide) _ (T + 1) O3.out.lt (some ⟨wu.heap.size, 0, none⟩) 1 1 [.slice qa i2 qc] rfl (one_news wu _ _) (fun e => by cases e) (by simp [Value.oneCell']) rfl _ _ rfl _ _ _ rfl O3.out.rw.own rfl (by have := QL4.out; unfold maxLen; omega) (by have := QL4.out; omega) ?_; intro v5 w5 O5 G5; obtain ⟨ya, yc, hv5⟩ := own_form2 O5; subst hv5; obtain ⟨y0, y1⟩ := O3.out.fldR G5; have P5 := Lib.hid (O3.out.row (q := ⟨qa, i2, qc, (ovN ss tt).map f⟩) OQ.out (by rw [List.length_map]; exact HN.out.symm) O5 G5); clear O5 G5)
                        go_roundw
                        case rel => exact ⟨d + 1, _, _, by omega, by go_num, P5.out, by rw [List.length_append, QL.out]; rfl, NX2.out⟩
                        case measure => simp [intOf]; omega
              · have ed : d = max lr mr := by omega
                have k1 : ¬ (d : Int) < (lr : Int) := by omega
                have k2 : ¬ (d : Int) < (mr : Int) := by omega
                obtain ⟨xa, xc, hvr⟩ := own_form2 OD.out.rw.own
                subst hvr
                obtain ⟨r0, r1, r2, r3⟩ := box_all2 cc.r
                obtain ⟨z0, z1, _, _⟩ := box_all2 (box_set2 (u := .slice va NN vc) (v := .slice xa qs.length xc) cc.r)
                have FIN := Lib.hid (p := qs.map (·.cs) = ovR ss ra tt rb) (by rw [QM.out, ed, List.take_of_length_le OVL.out])
                have BE := Lib.hid ((ee.setCell (p := ⟨w.heap.size + 1 + 1, 0, none⟩) (by simp; omega) (.slice va NN vc)).setCell (p := ⟨w.heap.size + 1 + 1, 1, none⟩) (by simp; omega) (.slice xa qs.length xc))
                have RES := Lib.hid (p := TabE (ovN ss tt) (ovR ss ra tt rb) 0 w (.returned (.tuple #[.agg #[.slice va NN vc, .slice xa qs.length xc], .int .i64 0])) ((wd.setCell ⟨w.heap.size + 1 + 1, 0, none⟩ (.slice va NN vc)).setCell ⟨w.heap.size + 1 + 1, 1, none⟩ (.slice xa qs.length xc))) (by
                  refine ⟨⟨va, NN, vc, ovN ss tt, xa, qs.length, xc, qs⟩, rfl, ?_, BE.out⟩
                  rw [if_pos rfl, if_pos rfl, ← FIN.out]
                  have S3' := S3.out
                  refine ov_done OD.out (by rw [FIN.out]; exact ov_gd G1.out G2.out (by have := HN.out; omega)) (fun b hb => ?_)
                  have ne : ¬ w.heap.size + 1 + 1 = b := by omega
                  simp [World.setCell, Array.getElem?_modify, ne])
                go_wp2
                refine bodyPost_ret (v := .tuple #[.agg #[.slice va NN vc, .slice xa qs.length xc], .int .i64 0]) (by simp [results, Tryd.results27, go_sem, z0, z1]) rfl ?_
                exact RES.out
    · have v0 : (V2 == 0) = false := by rw [beq_eq_false_iff_ne]; exact h2
      have e5 : E = V2 := by rw [HE.out, if_pos rfl, if_neg h2]
      subst e5
      clear HE GD
      go_enter Tryd.func27, Tryd.ntmps27
      go_wp2_with (first
        | (go_at_call 40; have mk := KV1; refine (KV1.out _ B0.out).mono ?_; rintro e w2 ⟨rfl, hB⟩; have D2 := Lib.hid hB; have E2 := Lib.hid (B0.out.trans (hB.mono B0.out.size)); have c2 := CE.out _ hB; obtain ⟨b2, b3, _, _⟩ := box_all2 c2.b; clear hB KV1 mk c2)
        | (go_at_call 40; refine (KV2.out _ E2.out).mono ?_; rintro e w3 ⟨rfl, hB⟩; have D3 := Lib.hid (D2.out.trans (hB.mono D2.out.size)); have E3 := Lib.hid (E2.out.trans (hB.mono E2.out.size)); obtain ⟨q0, q1, q2, q3⟩ := box_all2 (CE.out _ D3.out).r; clear hB))
      obtain ⟨z0, z1, _, _⟩ := box_all2 (box_set2 (u := .slice none 0 0) (v := .slice none 0 0) (CE.out _ D3.out).r)
      refine bodyPost_ret (v := .tuple #[.agg #[.slice none 0 0, .slice none 0 0], .int .i64 E]) (by simp [results, Tryd.results27, go_sem, z0, z1]) rfl ?_
      exact Q.out _ h2 ((E3.out.setCell (p := ⟨w.heap.size + 1 + 1, 0, none⟩) (by simp; omega) _).setCell (p := ⟨w.heap.size + 1 + 1, 1, none⟩) (by simp; omega) _)
  · have v0 : (V1 == 0) = false := by rw [beq_eq_false_iff_ne]; exact h1
    have e5 : E = V1 := by rw [HE.out, if_neg h1]
    subst e5
    clear HE GD
    go_enter Tryd.func27, Tryd.ntmps27
    go_wp2_with (go_at_call 40; refine (KV1.out _ B0.out).mono ?_; rintro e w2 ⟨rfl, hB⟩; have D2 := Lib.hid hB; have E2 := Lib.hid (B0.out.trans (hB.mono B0.out.size)); obtain ⟨q0, q1, q2, q3⟩ := box_all2 (CE.out _ D2.out).r; clear hB)
    obtain ⟨z0, z1, _, _⟩ := box_all2 (box_set2 (u := .slice none 0 0) (v := .slice none 0 0) (CE.out _ D2.out).r)
    refine bodyPost_ret (v := .tuple #[.agg #[.slice none 0 0, .slice none 0 0], .int .i64 E]) (by simp [results, Tryd.results27, go_sem, z0, z1]) rfl ?_
    exact Q.out _ h1 ((E2.out.setCell (p := ⟨w.heap.size + 1 + 1, 0, none⟩) (by simp; omega) _).setCell (p := ⟨w.heap.size + 1 + 1, 1, none⟩) (by simp; omega) _)
end Go.Proofs.YtglgdfgdfkeogaaDoor

namespace Go.Proofs.YtglgdfgdfkeogaaDoor
open Go.RowKit
set_option linter.unusedVariables false
set_option linter.unusedSimpArgs false

theorem ov_own {w0 w w' : World} {t v u : Tb} {ss tt : List ByteArray} {ra rb : List (List Cl)} (h : TbIs w0 t ss ra) (k : TbIs w0 v tt rb) (q : OvP (ovE ss ra tt rb) w.heap.size w' u ⟨0, 0, ovN ss tt, ovR ss ra tt rb⟩) : OwT w.heap.size w' u := by
  by_cases e : ovE ss ra tt rb = 0
  · have key : validE ss ra = 0 ∧ validE tt rb = 0 ∧ (ovN ss tt).length ≤ 64 := by
      unfold ovE at e
      split at e
      · split at e
        · split at e
          · omega
          · exact ⟨by assumption, by assumption, by omega⟩
        · exact absurd e (by assumption)
      · exact absurd e (by assumption)
    have g := ov_gd (gd_valid key.1 h.wf) (gd_valid key.2.1 k.wf) key.2.2
    exact owT_of (q.1 e) g.n64 g.r4 (fun r hr => by rw [g.rw r hr]; exact g.n64)
  · rw [q.2 e]; exact owT_nil _ _
set_option maxRecDepth 100000 in
set_option maxHeartbeats 8000000 in
theorem ask_four (B bk : Nat) (late : Bool) (K : Nat) (ta tb : Tb) (ss tt : List ByteArray) (ra rb : List (List Cl)) (na : Option Addr) (nn nc : Nat) (N : Int) (w : World) (h : BkS w B bk late K []) (hA : TbIs w ta ss ra) (hT : TbIs w tb tt rb) (G : Gl B bk w) (hB : B ≤ w.heap.size) (hK : K ≤ 30000000) :
    Calls Tryd.prog 10 #[ta.val, tb.val, .agg #[.int .i64 4, .slice na nn nc, .int .i64 N], .pointer (some ⟨bk, 0, none⟩)] w fun e w' => AskE B bk late K w e w' := by
  obtain ⟨hb0, hce⟩ := askW_all w ta tb 4 na nn nc N
  have CE := Lib.hid hce
  obtain ⟨w1, hw1⟩ : ∃ u, askW w ta tb 4 na nn nc N = u := ⟨_, rfl⟩
  rw [hw1] at hb0 CE
  have B0 := Lib.hid hb0
  have KB := Lib.hid (p := ∀ (W : World), Below w.heap.size w W → Calls Tryd.prog 26 #[ta.val, tb.val] W fun e w' => HoE (if ovE ss ra tt rb = 0 then ovN ss tt else []) (if ovE ss ra tt rb = 0 then ovR ss ra tt rb else []) (ovE ss ra tt rb) W e w') (fun W b => (overlay_any ta tb ss tt ra rb W (hA.later b) (hT.later b)).mono (fun e w' q => by
    obtain ⟨u, e1, e2, e3⟩ := q
    exact ⟨u, e1, tabP_is e2, ov_own hA hT e2, e3⟩))
  have KR := Lib.hid (fun (W : World) (b : Below w.heap.size w W) => rOverlay_any ta tb ss tt ra rb W (hA.later b) (hT.later b))
  unfold TabE at KR
  unfold HoE at KB
  have HS := Lib.hid h
  have GG := Lib.hid (p := ∀ W, Below w.heap.size w W → Gl B bk W ∧ B ≤ W.heap.size) (fun W b => ⟨G.fr (Fr.below b hB), Nat.le_trans hB b.size⟩)
  obtain ⟨E, hE⟩ : ∃ E, ovE ss ra tt rb = E := ⟨_, rfl⟩
  simp only [hE] at KB KR
  generalize (if E = 0 then ovN ss tt else []) = us at *
  generalize (if E = 0 then ovR ss ra tt rb else []) = ur at *
  have c1 := CE.out w1 (Below.refl _ _)
  obtain ⟨a0, a1, b0, b1, x0, x1, x2⟩ := c1
  clear h hA hT hb0 hce G hE
  unfold askW at hw1
  obtain ⟨an, ln, cn, tss, ar, lr, cr, trs⟩ := ta
  obtain ⟨bn, mn, dn, uss, br, mr, dr, urs⟩ := tb
  simp only [Tb.val] at *
  subst hw1
  go_enter Tryd.func10, Tryd.ntmps10
  go_wp2_with (first
    | (go_at_call 26; refine (KB.out _ B0.out).mono ?_; rintro e w2 ⟨u, rfl, hI, hO, hb⟩; obtain ⟨ua, ul, uc, uq, va, vl, vc, vq⟩ := u; have I2 := Lib.hid hI; have O2 := Lib.hid hO; have D2 := Lib.hid (hb.trans ((below_al w2 (.cells #[.slice ua ul uc, .slice va vl vc] 25)).mono hb.size)); have E2 := Lib.hid (B0.out.trans (D2.out.mono B0.out.size)); obtain ⟨a0, a1, b0, b1, x0, x1, x2⟩ := CE.out _ D2.out; have HX := Lib.hid (p := ∀ W, Below (w2.alloc (.cells #[.slice ua ul uc, .slice va vl vc] 25)).heap.size (w2.alloc (.cells #[.slice ua ul uc, .slice va vl vc] 25)) W → W.cell? ⟨w2.heap.size, 0, none⟩ = some (.slice ua ul uc) ∧ W.cell? ⟨w2.heap.size, 1, none⟩ = some (.slice va vl vc)) (fun W b => by obtain ⟨q0, q1, _, _⟩ := box_all2 ((b.block _ (by simp)).trans (World.alloc_heap_new w2 _)); exact ⟨q0, q1⟩); clear hI hO hb)
    | (go_at_call 27; refine (KR.out _ E2.out).mono ?_; rintro e w3 ⟨u3, rfl, hI, hb⟩; obtain ⟨ya, yl, yc, yq, za, zl, zc, zq⟩ := u3; have I3 := Lib.hid hI; have D3 := Lib.hid (hb.trans ((below_al w3 (.cells #[.slice ya yl yc, .slice za zl zc] 25)).mono hb.size)); obtain ⟨t0, t1⟩ := HX.out _ D3.out; have E3 := Lib.hid (E2.out.trans (D3.out.mono E2.out.size)); have T3 := Lib.hid (D2.out.trans (D3.out.mono D2.out.size)); have KS := Lib.hid (sameT_any ⟨ua, ul, uc, uq, va, vl, vc, vq⟩ ⟨ya, yl, yc, yq, za, zl, zc, zq⟩ us ur _ (I2.out.later ((below_al w2 (.cells #[.slice ua ul uc, .slice va vl vc] 25)).trans (D3.out.mono (below_al w2 (.cells #[.slice ua ul uc, .slice va vl vc] 25)).size))) (I3.out.later (below_al w3 (.cells #[.slice ya yl yc, .slice za zl zc] 25)))); clear hI hb)
    | (go_at_call 19; refine KS.out.mono ?_; rintro e w4 ⟨rfl, hb⟩; have D4 := Lib.hid (D3.out.trans (hb.mono D3.out.size)); have E4 := Lib.hid (E3.out.trans (hb.mono E3.out.size)); have T4 := Lib.hid (T3.out.trans (hb.mono T3.out.size)); obtain ⟨t2, t3⟩ := HX.out _ D4.out; clear hb))
  have O4 := Lib.hid (O2.out.below ((below_al w2 (.cells #[.slice ua ul uc, .slice va vl vc] 25)).trans (D4.out.mono (below_al w2 (.cells #[.slice ua ul uc, .slice va vl vc] 25)).size)))
  have KW := Lib.hid (table_X B bk late K ua va ul uc vl vc uq vq _ w4 (HS.out.below B0.out) T4.out hK (GG.out _ B0.out).2 O4.out.o1 O4.out.o2 (GG.out _ E4.out).1 O4.out.n O4.out.s O4.out.r O4.out.q)
  have F4 := Lib.hid (Fr.below (bk := bk) E4.out hB)
  go_wp2_with (go_at_call 23; refine KW.out.mono ?_; rintro e w7 ⟨rfl, hS, hF⟩; have S7 := Lib.hid hS; have F7 := Lib.hid (F4.out.trans hF); clear hS hF)
  go_ret
  exact ⟨rfl, S7.out, F7.out⟩
end Go.Proofs.YtglgdfgdfkeogaaDoor

namespace Go.Proofs.YtglgdfgdfkeogaaDoor
open Go.RowKit
set_option linter.unusedVariables false
set_option linter.unusedSimpArgs false

set_option maxRecDepth 100000 in
set_option maxHeartbeats 8000000 in
theorem ask_five (B bk : Nat) (late : Bool) (K : Nat) (ta tb : Tb) (ss tt : List ByteArray) (ra rb : List (List Cl)) (na : Option Addr) (nn nc : Nat) (N : Int) (w : World) (h : BkS w B bk late K []) (hA : TbIs w ta ss ra) (hT : TbIs w tb tt rb) (G : Gl B bk w) (hB : B ≤ w.heap.size) (hK : K ≤ 30000000) :
    Calls Tryd.prog 10 #[ta.val, tb.val, .agg #[.int .i64 5, .slice na nn nc, .int .i64 N], .pointer (some ⟨bk, 0, none⟩)] w fun e w' => AskE B bk late K w e w' := by
  obtain ⟨_, hce0⟩ := askW_all w ta tb 5 na nn nc N
  obtain ⟨a0, a1, b0, b1, x0, x1, x2⟩ := hce0 _ (Below.refl _ _)
  obtain ⟨hb0, hce⟩ := askW_all w tb ta 5 na nn nc N
  have CE := Lib.hid hce
  obtain ⟨w1, hw1⟩ : ∃ u, askW w tb ta 5 na nn nc N = u := ⟨_, rfl⟩
  rw [hw1] at hb0 CE
  have B0 := Lib.hid hb0
  have KB := Lib.hid (p := ∀ (W : World), Below w.heap.size w W → Calls Tryd.prog 26 #[tb.val, ta.val] W fun e w' => HoE (if ovE tt rb ss ra = 0 then ovN tt ss else []) (if ovE tt rb ss ra = 0 then ovR tt rb ss ra else []) (ovE tt rb ss ra) W e w') (fun W b => (overlay_any tb ta tt ss rb ra W (hT.later b) (hA.later b)).mono (fun e w' q => by
    obtain ⟨u, e1, e2, e3⟩ := q
    exact ⟨u, e1, tabP_is e2, ov_own hT hA e2, e3⟩))
  have KR := Lib.hid (fun (W : World) (b : Below w.heap.size w W) => rOverlay_any tb ta tt ss rb ra W (hT.later b) (hA.later b))
  unfold TabE at KR
  unfold HoE at KB
  have HS := Lib.hid h
  have GG := Lib.hid (p := ∀ W, Below w.heap.size w W → Gl B bk W ∧ B ≤ W.heap.size) (fun W b => ⟨G.fr (Fr.below b hB), Nat.le_trans hB b.size⟩)
  obtain ⟨E, hE⟩ : ∃ E, ovE tt rb ss ra = E := ⟨_, rfl⟩
  simp only [hE] at KB KR
  generalize (if E = 0 then ovN tt ss else []) = us at *
  generalize (if E = 0 then ovR tt rb ss ra else []) = ur at *
  clear h hA hT hb0 hce hce0 G hE
  unfold askW at hw1 a0 a1 b0 b1 x0 x1 x2
  obtain ⟨an, ln, cn, tss, ar, lr, cr, trs⟩ := ta
  obtain ⟨bn, mn, dn, uss, br, mr, dr, urs⟩ := tb
  simp only [Tb.val] at *
  subst hw1
  go_enter Tryd.func10, Tryd.ntmps10
  go_upto_region 21 with fail
  clear a0 a1 b0 b1 x0 x1 x2
  obtain ⟨a0, a1, b0, b1, x0, x1, x2⟩ := CE.out _ (Below.refl _ _)
  go_wp2_with (first
    | (go_at_call 26; refine (KB.out _ B0.out).mono ?_; rintro e w2 ⟨u, rfl, hI, hO, hb⟩; obtain ⟨ua, ul, uc, uq, va, vl, vc, vq⟩ := u; have I2 := Lib.hid hI; have O2 := Lib.hid hO; have D2 := Lib.hid (hb.trans ((below_al w2 (.cells #[.slice ua ul uc, .slice va vl vc] 25)).mono hb.size)); have E2 := Lib.hid (B0.out.trans (D2.out.mono B0.out.size)); obtain ⟨a0, a1, b0, b1, x0, x1, x2⟩ := CE.out _ D2.out; have HX := Lib.hid (p := ∀ W, Below (w2.alloc (.cells #[.slice ua ul uc, .slice va vl vc] 25)).heap.size (w2.alloc (.cells #[.slice ua ul uc, .slice va vl vc] 25)) W → W.cell? ⟨w2.heap.size, 0, none⟩ = some (.slice ua ul uc) ∧ W.cell? ⟨w2.heap.size, 1, none⟩ = some (.slice va vl vc)) (fun W b => by obtain ⟨q0, q1, _, _⟩ := box_all2 ((b.block _ (by simp)).trans (World.alloc_heap_new w2 _)); exact ⟨q0, q1⟩); clear hI hO hb)
    | (go_at_call 27; refine (KR.out _ E2.out).mono ?_; rintro e w3 ⟨u3, rfl, hI, hb⟩; obtain ⟨ya, yl, yc, yq, za, zl, zc, zq⟩ := u3; have I3 := Lib.hid hI; have D3 := Lib.hid (hb.trans ((below_al w3 (.cells #[.slice ya yl yc, .slice za zl zc] 25)).mono hb.size)); obtain ⟨t0, t1⟩ := HX.out _ D3.out; have E3 := Lib.hid (E2.out.trans (D3.out.mono E2.out.size)); have T3 := Lib.hid (D2.out.trans (D3.out.mono D2.out.size)); have KS := Lib.hid (sameT_any ⟨ua, ul, uc, uq, va, vl, vc, vq⟩ ⟨ya, yl, yc, yq, za, zl, zc, zq⟩ us ur _ (I2.out.later ((below_al w2 (.cells #[.slice ua ul uc, .slice va vl vc] 25)).trans (D3.out.mono (below_al w2 (.cells #[.slice ua ul uc, .slice va vl vc] 25)).size))) (I3.out.later (below_al w3 (.cells #[.slice ya yl yc, .slice za zl zc] 25)))); clear hI hb)
    | (go_at_call 19; refine KS.out.mono ?_; rintro e w4 ⟨rfl, hb⟩; have D4 := Lib.hid (D3.out.trans (hb.mono D3.out.size)); have E4 := Lib.hid (E3.out.trans (hb.mono E3.out.size)); have T4 := Lib.hid (T3.out.trans (hb.mono T3.out.size)); obtain ⟨t2, t3⟩ := HX.out _ D4.out; clear hb))
  have O4 := Lib.hid (O2.out.below ((below_al w2 (.cells #[.slice ua ul uc, .slice va vl vc] 25)).trans (D4.out.mono (below_al w2 (.cells #[.slice ua ul uc, .slice va vl vc] 25)).size)))
  have KW := Lib.hid (table_X B bk late K ua va ul uc vl vc uq vq _ w4 (HS.out.below B0.out) T4.out hK (GG.out _ B0.out).2 O4.out.o1 O4.out.o2 (GG.out _ E4.out).1 O4.out.n O4.out.s O4.out.r O4.out.q)
  have F4 := Lib.hid (Fr.below (bk := bk) E4.out hB)
  go_wp2_with (go_at_call 23; refine KW.out.mono ?_; rintro e w7 ⟨rfl, hS, hF⟩; have S7 := Lib.hid hS; have F7 := Lib.hid (F4.out.trans hF); clear hS hF)
  go_ret
  exact ⟨rfl, S7.out, F7.out⟩
end Go.Proofs.YtglgdfgdfkeogaaDoor

namespace Go.Proofs.YtglgdfgdfkeogaaDoor
open Go.RowKit
set_option linter.unusedVariables false
set_option linter.unusedSimpArgs false

theorem askK_asks : AskK 1 6 := by
  intro B bk late K ta tb ss tt ra rb x w h1 h2 hS hA hB hca hcb hx G hB2 hK l1 l2
  rcases (show x.kd = 1 ∨ x.kd = 2 ∨ x.kd = 3 ∨ x.kd = 4 ∨ x.kd = 5 ∨ x.kd = 6 by omega) with e | e | e | e | e | e
  · rw [e]
    exact ask_bind B bk late K ta tb ss ra x.na x.nn x.nc x.ns x.N w hS hA hx.nl hx.n0 hx.le G hB2 hK
  · rw [e]
    exact ask_cut B bk late K ta tb ss ra x.na x.nn x.nc x.N w hS hA hca hx.N.2 G hB2 hK
  · rw [e]
    exact ask_agree B bk late K ta tb ss tt ra rb x.na x.nn x.nc x.N w hS hA hB (by omega) hB2
  · rw [e]
    exact ask_four B bk late K ta tb ss tt ra rb x.na x.nn x.nc x.N w hS hA hB G hB2 hK
  · rw [e]
    exact ask_five B bk late K ta tb ss tt ra rb x.na x.nn x.nc x.N w hS hA hB G hB2 hK
  · rw [e]
    exact ask_miss B bk late K ta tb ss ra x.na x.nn x.nc x.ns x.N w hS hA hx.nl hx.n0 hx.le G hB2 hK
theorem askK_lays : AskK 4 6 := fun B bk late K ta tb ss tt ra rb x w h1 h2 => askK_asks B bk late K ta tb ss tt ra rb x w (by omega) h2
set_option maxRecDepth 100000 in
theorem tableLays_any (ta tb : Tb) (sa : Option Addr) (sl sc : Nat) (xs : List Aq) (w : World) (h : AskG w ta tb sa sl xs) :
    Calls Tryd.prog 4 #[ta.val, tb.val, .slice sa sl sc] w fun e w' => e = .returned (.bool true) ∧ Below w.heap.size w w' := by
  have hB0 := two_boxes w (.slice ta.an ta.ln ta.cn) (.slice ta.ar ta.lr ta.cr) (.slice tb.an tb.ln tb.cn) (.slice tb.ar tb.lr tb.cr) 25
  have B0 := Lib.hid hB0
  have K := Lib.hid (asks_any 4 6 askK_lays ta tb sa sl sc xs _ (h.later hB0))
  obtain ⟨q0, q1⟩ := two_cells (Below.refl _ ((w.alloc (.cells #[.slice ta.an ta.ln ta.cn, .slice ta.ar ta.lr ta.cr] 25)).alloc (.cells #[.slice tb.an tb.ln tb.cn, .slice tb.ar tb.lr tb.cr] 25)))
  obtain ⟨a0, a1, _, _⟩ := box_all2 q0
  obtain ⟨b0, b1, _, _⟩ := box_all2 q1
  obtain ⟨an, ln, cn, tss, ar, lr, cr, trs⟩ := ta
  obtain ⟨bn, mn, dn, uss, br, mr, dr, urs⟩ := tb
  clear h hB0 q0 q1
  simp only [Tb.val] at *
  go_enter Tryd.func4, Tryd.ntmps4
  go_wp2_with (go_at_call 6; refine K.out.mono ?_; rintro e w2 ⟨rfl, hb⟩; have D2 := Lib.hid (B0.out.trans (hb.mono B0.out.size)); clear hb)
  go_ret
  exact ⟨rfl, D2.out⟩
set_option maxRecDepth 100000 in
theorem tableAsks_any (ta tb : Tb) (sa : Option Addr) (sl sc : Nat) (xs : List Aq) (w : World) (h : AskG w ta tb sa sl xs) :
    Calls Tryd.prog 5 #[ta.val, tb.val, .slice sa sl sc] w fun e w' => e = .returned (.bool true) ∧ Below w.heap.size w w' := by
  have hB0 := two_boxes w (.slice ta.an ta.ln ta.cn) (.slice ta.ar ta.lr ta.cr) (.slice tb.an tb.ln tb.cn) (.slice tb.ar tb.lr tb.cr) 25
  have B0 := Lib.hid hB0
  have K := Lib.hid (asks_any 1 6 askK_asks ta tb sa sl sc xs _ (h.later hB0))
  obtain ⟨q0, q1⟩ := two_cells (Below.refl _ ((w.alloc (.cells #[.slice ta.an ta.ln ta.cn, .slice ta.ar ta.lr ta.cr] 25)).alloc (.cells #[.slice tb.an tb.ln tb.cn, .slice tb.ar tb.lr tb.cr] 25)))
  obtain ⟨a0, a1, _, _⟩ := box_all2 q0
  obtain ⟨b0, b1, _, _⟩ := box_all2 q1
  obtain ⟨an, ln, cn, tss, ar, lr, cr, trs⟩ := ta
  obtain ⟨bn, mn, dn, uss, br, mr, dr, urs⟩ := tb
  clear h hB0 q0 q1
  simp only [Tb.val] at *
  go_enter Tryd.func5, Tryd.ntmps5
  go_wp2_with (go_at_call 6; refine K.out.mono ?_; rintro e w2 ⟨rfl, hb⟩; have D2 := Lib.hid (B0.out.trans (hb.mono B0.out.size)); clear hb)
  go_ret
  exact ⟨rfl, D2.out⟩
end Go.Proofs.YtglgdfgdfkeogaaDoor
