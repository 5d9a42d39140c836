import Derived.Test.YtajocakmmgpoaaaGreatDoorXAR
namespace Go.Proofs.YtajocakmmgpoaaaGreatDoor
open Go.RowKit
set_option linter.unusedVariables false
set_option linter.unusedSimpArgs false

set_option maxRecDepth 100000 in
set_option maxHeartbeats 8000000 in
theorem tableSays_go (t u : Tb) (nm : ByteArray) (day rows : Int) (w : World) (h0 : TbOk w t) (k0 : TbOk w u) (G : Grd w) (hnm : nm.size ≤ 140737488351232) (hday : -9223372036854775808 ≤ day ∧ day ≤ 9223372036854775807) (hrow : -9223372036854775808 ≤ rows ∧ rows ≤ 9223372036854775807) :
    Calls Tryz.prog 3 #[t.val, u.val, .string nm, .int .i64 day, .int .i64 rows] w fun e w' => e = .returned (.bool true) ∧ Below w.heap.size w w' := by
  by_cases hall : validE t.ss (t.rs.map (·.cs)) = 0 ∧ validE u.ss (u.rs.map (·.cs)) = 0
  case neg => exact tableSays_bad t u nm day rows w h0 k0 G hnm hday hrow hall
  have KPL := Lib.hid (fun W => plain_any W)
  have KB := Lib.hid (fun p W (hp : TbIs W p plS plR) b => plainBack p w W hp G b)
  obtain ⟨rsA, hrsA⟩ : ∃ rsA, t.rs.map (·.cs) = rsA := ⟨_, rfl⟩
  obtain ⟨rsB, hrsB⟩ : ∃ rsB, u.rs.map (·.cs) = rsB := ⟨_, rfl⟩
  have HT := Lib.hid (p := TbIs w t t.ss rsA) (by have := tbIs_of h0; rwa [hrsA] at this)
  have HQ := Lib.hid (p := TbIs w u u.ss rsB) (by have := tbIs_of k0; rwa [hrsB] at this)
  have GR := Lib.hid G
  rw [hrsA, hrsB] at hall
  have HALL := Lib.hid hall
  clear hall
  have hwfA : ∀ r ∈ rsA, ∀ c ∈ r, (Lit.int .i64 c.v).wf = true := fun r hr c hc => by
    rw [← hrsA] at hr
    obtain ⟨q, hq, rfl⟩ := List.mem_map.1 hr
    exact (h0.rl.2.2.1 q hq).1.2.2.1 c hc
  have hwfB : ∀ r ∈ rsB, ∀ c ∈ r, (Lit.int .i64 c.v).wf = true := fun r hr c hc => by
    rw [← hrsB] at hr
    obtain ⟨q, hq, rfl⟩ := List.mem_map.1 hr
    exact (k0.rl.2.2.1 q hq).1.2.2.1 c hc
  have GA := Lib.hid (p := validE t.ss rsA = 0 → Gd t.ss rsA) (fun hv => gd_valid hv hwfA)
  have GB := Lib.hid (p := validE u.ss rsB = 0 → Gd u.ss rsB) (fun hv => gd_valid hv hwfB)
  have LNS := Lib.hid (p := t.ln = t.ss.length ∧ u.ln = u.ss.length) ⟨h0.nl.1.symm, k0.nl.1.symm⟩
  clear h0 k0 hrsA hrsB hwfA hwfB
  obtain ⟨an, ln, cn, tss, ar, lr, cr, trs⟩ := t
  obtain ⟨bn, mn, dn, uss, br, mr, dr, urs⟩ := u
  simp only at HT HQ GA GB LNS
  obtain ⟨w0, hw0⟩ : ∃ w0, (w.alloc (.cells #[.slice an ln cn, .slice ar lr cr] 25)).alloc (.cells #[.slice bn mn dn, .slice br mr dr] 25) = w0 := ⟨_, rfl⟩
  have F0 := Lib.hid (p := ∀ W, Below w0.heap.size w0 W → SyF w W ⟨an, ln, cn, tss, ar, lr, cr, trs⟩ ⟨bn, mn, dn, uss, br, mr, dr, urs⟩) (fun W b => by
    have bb : Below w.heap.size w w0 := by rw [← hw0]; exact two_boxes w _ _ _ _ _
    obtain ⟨q1, q2⟩ := two_cells (w := w) (W := W) (by rw [hw0]; exact b)
    exact ⟨bb.trans (b.mono bb.size), q1, q2⟩)
  have KOA := Lib.hid (fun W (L : SyF w W ⟨an, ln, cn, tss, ar, lr, cr, trs⟩ ⟨bn, mn, dn, uss, br, mr, dr, urs⟩) => ownT_any ⟨an, ln, cn, tss, ar, lr, cr, trs⟩ tss rsA W (HT.out.later L.bel) (GR.out.later L.bel).bh)
  have KOB := Lib.hid (fun W (L : SyF w W ⟨an, ln, cn, tss, ar, lr, cr, trs⟩ ⟨bn, mn, dn, uss, br, mr, dr, urs⟩) => ownT_any ⟨bn, mn, dn, uss, br, mr, dr, urs⟩ uss rsB W (HQ.out.later L.bel) (GR.out.later L.bel).bh)
  obtain ⟨Va, hVa⟩ : ∃ V, validE tss rsA = V := ⟨_, rfl⟩
  obtain ⟨Vb, hVb⟩ : ∃ V, validE uss rsB = V := ⟨_, rfl⟩
  have KVA := Lib.hid (fun (W : World) (x : Tb) (hx : TbIs W x tss rsA) => validI_any x tss rsA W hx)
  have KVB := Lib.hid (fun (W : World) (x : Tb) (hx : TbIs W x uss rsB) => validI_any x uss rsB W hx)
  have KOV := Lib.hid (fun W x y hx hy => overlay_any x y tss uss rsA rsB W hx hy)
  unfold OvE at KOV
  obtain ⟨E, hE⟩ : ∃ E, ovE tss rsA uss rsB = E := ⟨_, rfl⟩
  rw [hE] at KOV
  have GOV := Lib.hid (p := E = 0 → Gd (ovN tss uss) (ovR tss rsA uss rsB)) (fun e => by
    rw [e] at hE
    unfold ovE at hE
    split at hE
    · rename_i q1
      split at hE
      · rename_i q2
        split at hE
        · omega
        · exact ov_gd (GA.out q1) (GB.out q2) (by omega)
      · rename_i q2; exact absurd hE q2
    · rename_i q1; exact absurd hE q1)
  have HE := Lib.hid (p := E = if Va = 0 then (if Vb = 0 then (if 64 < (ovN tss uss).length then 6 else 0) else Vb) else Va) (by rw [← hE, ← hVa, ← hVb]; rfl)
  rw [hVa] at KVA GA
  rw [hVb] at KVB GB
  have HVA := Lib.hid hVa
  have HVB := Lib.hid hVb
  clear hVa hVb hE
  have Fs := Lib.hid (F0.out _ (Below.refl _ _))
  have PM := Lib.hid True.intro
  have PN := Lib.hid True.intro
  show Calls Tryz.prog 3 #[.agg #[.slice an ln cn, .slice ar lr cr], .agg #[.slice bn mn dn, .slice br mr dr], .string nm, .int .i64 day, .int .i64 rows] w _
  by_cases hva : Va = 0
  · subst hva
    by_cases hvb : Vb = 0
    · subst hvb
      have E64 := Lib.hid (p := E = if 64 < (ovN tss uss).length then 6 else 0) (by rw [HE.out, if_pos rfl, if_pos rfl])
      clear HE
      have PV := Lib.hid True.intro
      have PO := Lib.hid True.intro
      go_enter Tryz.func3, Tryz.ntmps3
      go_upto_region 7 with (first
        | (go_at_call 5; have qq := PM; refine (KPL.out _).mono ?_; rintro e w1 ⟨⟨a1, n1, c1, s1, b1, m1, d1, q1⟩, rfl, hU, hB⟩; simp only [Tb.val]; have U1 := Lib.hid hU; replace Fs := Lib.hid (Fs.out.later hB); clear hU hB PM qq)
        | (go_at_call 4; refine (KB.out _ _ U1.out Fs.out.bel).mono ?_; rintro e w2 ⟨rfl, hB⟩; replace Fs := Lib.hid (Fs.out.later hB); obtain ⟨e0, e1, e2, e3⟩ := Fs.out.cells; clear hB)
        | (go_at_call 7; have qq := PN; refine (KOA.out _ Fs.out).mono ?_; rintro e w3 ⟨⟨a3, n3, c3, s3, b3, m3, d3, q3⟩, rfl, hU, hB⟩; simp only [Tb.val]; have U3 := Lib.hid hU; replace Fs := Lib.hid (Fs.out.later hB); clear hU hB PN qq)
        | (go_at_call 6; have qq := PV; refine (KVA.out _ _ U3.out).mono ?_; rintro e w4 ⟨rfl, hB⟩; replace Fs := Lib.hid (Fs.out.later hB); obtain ⟨f0, f1, f2, f3⟩ := Fs.out.cells; clear hB PV qq)
        | (go_at_call 7; have qq := PO; refine (KOB.out _ Fs.out).mono ?_; rintro e w5 ⟨⟨a5, n5, c5, s5, b5, m5, d5, q5⟩, rfl, hU, hB⟩; simp only [Tb.val]; have U5 := Lib.hid hU; replace Fs := Lib.hid (Fs.out.later hB); clear hU hB PO qq)
        | (go_at_call 6; refine (KVB.out _ _ U5.out).mono ?_; rintro e w6 ⟨rfl, hB⟩; replace Fs := Lib.hid (Fs.out.later hB); clear hB))
      clear e0 e1 e2 e3
      try clear f0 f1 f2 f3
      generalize w6 = wS at Fs ⊢
      go_cut [14, 15] (fun v f wx => ∃ (bx : Nat) (o : Tb), v = .pointer (some ⟨bx, 0, none⟩) ∧ f = .int .i64 E ∧ RowKit.Hid (SyR E w wx ⟨an, ln, cn, tss, ar, lr, cr, trs⟩ ⟨bn, mn, dn, uss, br, mr, dr, urs⟩ o bx (ovN tss uss) (ovR tss rsA uss rsB)))
      case first =>
        as_aux_lemma =>
          have LC0 := Lib.hid (Fs.out.later (Below.refl _ _).drew)
          have BS := Lib.hid (Below.refl wS.drew.heap.size wS.drew)
          have N4 := Lib.hid True.intro
          have N5 := Lib.hid True.intro
          have N6 := Lib.hid True.intro
          obtain ⟨e0, e1, e2, e3⟩ := Fs.out.cells
          go_region_held3 (fun w' => w'.cell? ⟨w.heap.size, 0, none⟩ = some (.slice an ln cn) ∧ w'.cell? ⟨w.heap.size, 1, none⟩ = some (.slice ar lr cr) ∧ w'.cell? ⟨w.heap.size + 1, 0, none⟩ = some (.slice bn mn dn) ∧ w'.cell? ⟨w.heap.size + 1, 1, none⟩ = some (.slice br mr dr)) (first | exact (LC0.out.later BS.out).cells | exact (LC0.out.later (BS.out.alloc BS.out.size _)).cells | exact (LC0.out.later (below_eq (BS.out.alloc BS.out.size _) rfl rfl rfl rfl)).cells | exact (LC0.out.later (below_eq ((BS.out.setCell (p := ⟨_, 0, none⟩) XS.out _).setCell (p := ⟨_, 1, none⟩) XS.out _) rfl rfl rfl rfl)).cells) (first
            | (go_at_call 7; have qq := N4; refine (KOA.out _ (LC0.out.later BS.out)).mono ?_; rintro e wn ⟨⟨z1a, z1b, z1c, z1d, z1e, z1f, z1g, z1h⟩, rfl, hU, hB⟩; simp only [Tb.val]; have Z1 := Lib.hid hU; replace BS := Lib.hid (BS.out.trans (hB.mono BS.out.size)); (try (replace HX := Lib.hid ((hB.block _ (blk_lt HX.out)).trans HX.out))); clear hU hB N4 qq)
            | (go_at_call 7; have qq := N4; refine (KOA.out _ (LC0.out.later (BS.out.alloc BS.out.size _))).mono ?_; rintro e wn ⟨⟨z1a, z1b, z1c, z1d, z1e, z1f, z1g, z1h⟩, rfl, hU, hB⟩; simp only [Tb.val]; have Z1 := Lib.hid hU; have XS := Lib.hid BS.out.size; have HX := Lib.hid ((hB.block _ (by simp)).trans (World.alloc_heap_new _ _)); replace BS := Lib.hid ((BS.out.alloc BS.out.size _).trans (hB.mono (BS.out.alloc BS.out.size _).size)); clear hU hB N4 qq)
            | (go_at_call 7; have qq := N5; refine (KOB.out _ (LC0.out.later BS.out)).mono ?_; rintro e wn ⟨⟨z2a, z2b, z2c, z2d, z2e, z2f, z2g, z2h⟩, rfl, hU, hB⟩; simp only [Tb.val]; have Z2 := Lib.hid hU; replace BS := Lib.hid (BS.out.trans (hB.mono BS.out.size)); replace Z1 := Lib.hid (Z1.out.later hB); (try (replace HX := Lib.hid ((hB.block _ (blk_lt HX.out)).trans HX.out))); clear hU hB N5 qq)
            | (go_at_call 7; have qq := N5; refine (KOB.out _ (LC0.out.later (BS.out.alloc BS.out.size _))).mono ?_; rintro e wn ⟨⟨z2a, z2b, z2c, z2d, z2e, z2f, z2g, z2h⟩, rfl, hU, hB⟩; simp only [Tb.val]; have Z2 := Lib.hid hU; have XS := Lib.hid BS.out.size; have HX := Lib.hid ((hB.block _ (by simp)).trans (World.alloc_heap_new _ _)); replace BS := Lib.hid ((BS.out.alloc BS.out.size _).trans (hB.mono (BS.out.alloc BS.out.size _).size)); replace Z1 := Lib.hid ((Z1.out.later (below_al _ _)).later hB); clear hU hB N5 qq)
            | (go_at_call 8; have qq := N6; refine (KOV.out _ _ _ Z1.out Z2.out).mono ?_; rintro e wo ⟨⟨oa, ob, oc, od, oe, of, og, oh⟩, rfl, hU, hB⟩; simp only [Tb.val]; have XO := Lib.hid hU; replace BS := Lib.hid (BS.out.trans (hB.mono BS.out.size)); (try (have XL := Lib.hid (blk_lt HX.out); replace HX := Lib.hid ((hB.block _ (blk_lt HX.out)).trans HX.out); obtain ⟨i0, i1, i2, i3⟩ := box_all2 HX.out)); (try (change wo.cell? ⟨wS.heap.size, 0, none⟩ = _ at i0; change wo.cell? ⟨wS.heap.size, 1, none⟩ = _ at i1; change wo.frozen? ⟨wS.heap.size, 0, none⟩ = _ at i2; change wo.frozen? ⟨wS.heap.size, 1, none⟩ = _ at i3)); clear hU hB N6 qq)
            | (go_at_call 8; have qq := N6; refine (KOV.out _ _ _ (Z1.out.later (below_al _ _)) (Z2.out.later (below_al _ _))).mono ?_; rintro e wo ⟨⟨oa, ob, oc, od, oe, of, og, oh⟩, rfl, hU, hB⟩; simp only [Tb.val]; have XO := Lib.hid hU; have XX := sy_box BS.out hB; have XS := Lib.hid XX.1; have XL := Lib.hid XX.2.1; have HX := Lib.hid XX.2.2.1; replace BS := Lib.hid XX.2.2.2; clear XX; obtain ⟨i0, i1, i2, i3⟩ := box_all2 HX.out; clear hU hB N6 qq))
          all_goals
            go_wp2
            go_meet
            case rel => first
              | exact ⟨_, ⟨oa, ob, oc, od, oe, of, og, oh⟩, rfl, rfl, syR_last LC0.out BS.out XO.out rfl rfl rfl rfl⟩
              | exact ⟨_, ⟨oa, ob, oc, od, oe, of, og, oh⟩, rfl, rfl, syR_first LC0.out BS.out XO.out GOV.out HX.out XS.out XL.out rfl rfl rfl rfl⟩
      case rest =>
        obtain ⟨bx, o, rfl, rfl, hD⟩ := hcut
        obtain ⟨oa, ob, oc, od, oe, of, og, oh⟩ := o
        rename World => wx
        have FD := Lib.hid hD.out.1
        have RD := Lib.hid hD.out.2
        clear hD Fs
        by_cases h6 : 64 < (ovN tss uss).length
        · have e6 : E = 6 := by rw [E64.out, if_pos h6]
          subst e6
          have g64 : ln ≤ 64 ∧ mn ≤ 64 := by have := (GA.out (by trivial)).n64; have := (GB.out (by trivial)).n64; have := LNS.out; omega
          have k1 : (64 : Int) < (ln : Int) + (mn : Int) := by have := ovN_len tss uss; have := LNS.out; omega
          have kw : IntKind.i64.wrap ((ln : Int) + (mn : Int)) = (ln : Int) + (mn : Int) := by simp [IntKind.wrap, IntKind.bits, IntKind.signed]; omega
          obtain ⟨e0, e1, e2, e3⟩ := FD.out.cells
          go_wp2
          go_ret
          exact ⟨rfl, FD.out.bel⟩
        · have e6 : E = 0 := by rw [E64.out, if_neg h6]
          subst e6
          have gA := Lib.hid (GA.out (by trivial))
          have gB := Lib.hid (GB.out (by trivial))
          have OD := Lib.hid (RD.out (by trivial))
          have gO := Lib.hid (GOV.out (by trivial))
          clear RD FD E64 h6 GOV GA GB KOV KVA KVB KB KPL U1 U3 U5
          have KCA := Lib.hid (fun (W : World) (s : ByteArray) (dy : Int) (hs : s.size ≤ 140737488351232) (hd : dy ≤ 9223372036854775807) (L : SyO w W ⟨an, ln, cn, tss, ar, lr, cr, trs⟩ ⟨bn, mn, dn, uss, br, mr, dr, urs⟩ ⟨oa, ob, oc, od, oe, of, og, oh⟩ bx (ovN tss uss) (ovR tss rsA uss rsB)) => cell_any ⟨an, ln, cn, tss, ar, lr, cr, trs⟩ tss rsA s dy W (HT.out.later L.f.bel) HVA.out hs hd)
          have KCB := Lib.hid (fun (W : World) (s : ByteArray) (dy : Int) (hs : s.size ≤ 140737488351232) (hd : dy ≤ 9223372036854775807) (L : SyO w W ⟨an, ln, cn, tss, ar, lr, cr, trs⟩ ⟨bn, mn, dn, uss, br, mr, dr, urs⟩ ⟨oa, ob, oc, od, oe, of, og, oh⟩ bx (ovN tss uss) (ovR tss rsA uss rsB)) => cell_any ⟨bn, mn, dn, uss, br, mr, dr, urs⟩ uss rsB s dy W (HQ.out.later L.f.bel) HVB.out hs hd)
          have KCX := Lib.hid (fun (W : World) (s : ByteArray) (dy : Int) (hs : s.size ≤ 140737488351232) (hd : dy ≤ 9223372036854775807) (L : SyO w W ⟨an, ln, cn, tss, ar, lr, cr, trs⟩ ⟨bn, mn, dn, uss, br, mr, dr, urs⟩ ⟨oa, ob, oc, od, oe, of, og, oh⟩ bx (ovN tss uss) (ovR tss rsA uss rsB)) => cell_any ⟨oa, ob, oc, od, oe, of, og, oh⟩ (ovN tss uss) (ovR tss rsA uss rsB) s dy W L.tx (valid_gd gO.out) hs hd)
          obtain ⟨e0, e1, e2, e3⟩ := OD.out.f.cells
          obtain ⟨CC0, hCC0⟩ : ∃ c, celN tss rsA nm 0 = c := ⟨_, rfl⟩
          have KC0 := Lib.hid (KCA.out wx nm 0 hnm (by omega) OD.out)
          obtain ⟨b0, hb0⟩ : ∃ b, nameB nm = b := ⟨_, rfl⟩
          rw [hCC0, hb0] at KC0
          have HB0 := Lib.hid hb0
          clear hCC0 hb0
          obtain ⟨c0h, c0v⟩ := CC0
          have NMB := Lib.hid hnm
          go_upto_if 87 with (first
            | (go_at_call 9; refine KC0.out.mono ?_; rintro e wp ⟨rfl, hB⟩; replace OD := Lib.hid ((OD.out.later hB).later (below_al wp (.cells #[.bool c0h, .int .i64 c0v] 34))); clear hB))
          clear e0 e1 e2 e3 KC0
          generalize wp.alloc (.cells #[.bool c0h, .int .i64 c0v] 34) = wy at OD ⊢
          go_cut [2] (fun v wz => ∃ s, v = .string s ∧ RowKit.Hid (nameB s = true ∧ s.size ≤ 140737488351232) ∧ RowKit.Hid (SyO w wz ⟨an, ln, cn, tss, ar, lr, cr, trs⟩ ⟨bn, mn, dn, uss, br, mr, dr, urs⟩ ⟨oa, ob, oc, od, oe, of, og, oh⟩ bx (ovN tss uss) (ovR tss rsA uss rsB)))
          case first =>
            cases b0 with
            | true =>
              go_wp2
              go_meet
              case rel => exact ⟨nm, rfl, ⟨HB0.out, NMB.out⟩, OD.out⟩
            | false =>
              go_wp2
              go_meet
              case rel => exact ⟨⟨#[82, 65, 84, 69]⟩, rfl, ⟨rate_ok, by decide⟩, OD.out⟩
          case rest =>
            as_aux_lemma =>
              obtain ⟨s, rfl, hS, hD⟩ := hcut
              rename World => wz
              replace OD := Lib.hid hD.out
              have SN := Lib.hid hS.out
              clear hD hS NMB hnm
              obtain ⟨P, hP⟩ : ∃ c, celP tss rsA s day = c := ⟨_, rfl⟩
              obtain ⟨Q, hQ⟩ : ∃ c, celP uss rsB s day = c := ⟨_, rfl⟩
              obtain ⟨R, hR⟩ : ∃ c, celP (ovN tss uss) (ovR tss rsA uss rsB) s day = c := ⟨_, rfl⟩
              have REL := Lib.hid (p := R = if Q.h then Q else P) (by rw [← hR, ← hP, ← hQ]; exact ov_cel gA.out gB.out s day)
              have HP0 := Lib.hid hP
              have K1 := Lib.hid (fun W L => KCA.out W s day SN.out.2 hday.2 L)
              have K2 := Lib.hid (fun W L => KCB.out W s day SN.out.2 hday.2 L)
              have K3 := Lib.hid (fun W L => KCX.out W s day SN.out.2 hday.2 L)
              rw [celN_yes SN.out.1, hP, SN.out.1] at K1
              rw [celN_yes SN.out.1, hQ, SN.out.1] at K2
              rw [celN_yes SN.out.1, hR, SN.out.1] at K3
              clear hP hQ hR KCA KCB KCX
              obtain ⟨ph, pv⟩ := P
              obtain ⟨qh, qv⟩ := Q
              obtain ⟨rh, rv⟩ := R
              obtain ⟨e0, e1, e2, e3⟩ := OD.out.f.cells
              have C1 := Lib.hid True.intro
              have C2 := Lib.hid True.intro
              go_upto_region 16 with (first
                | (go_at_call 9; have qq := C1; refine (K1.out _ OD.out).mono ?_; rintro e wp ⟨rfl, hB⟩; have HP := Lib.hid (World.alloc_heap_new wp (.cells #[.bool ph, .int .i64 pv] 34)); replace OD := Lib.hid ((OD.out.later hB).later (below_al wp (.cells #[.bool ph, .int .i64 pv] 34))); clear hB C1 qq e0 e1 e2 e3; obtain ⟨e0, e1, e2, e3⟩ := OD.out.f.cells)
                | (go_at_call 9; have qq := C2; refine (K2.out _ OD.out).mono ?_; rintro e wq ⟨rfl, hB⟩; have HQ := Lib.hid (World.alloc_heap_new wq (.cells #[.bool qh, .int .i64 qv] 34)); replace HP := Lib.hid (((below_al wq (.cells #[.bool qh, .int .i64 qv] 34)).block _ (Nat.lt_of_lt_of_le (blk_lt HP.out) hB.size)).trans ((hB.block _ (blk_lt HP.out)).trans HP.out)); replace OD := Lib.hid ((OD.out.later hB).later (below_al wq (.cells #[.bool qh, .int .i64 qv] 34))); clear hB C2 qq e0 e1 e2 e3; obtain ⟨e0, e1⟩ := OD.out.cells)
                | (go_at_call 9; refine (K3.out _ OD.out).mono ?_; rintro e wr ⟨rfl, hB⟩; have HR := Lib.hid (World.alloc_heap_new wr (.cells #[.bool rh, .int .i64 rv] 34)); replace HP := Lib.hid (((below_al wr (.cells #[.bool rh, .int .i64 rv] 34)).block _ (Nat.lt_of_lt_of_le (blk_lt HP.out) hB.size)).trans ((hB.block _ (blk_lt HP.out)).trans HP.out)); replace HQ := Lib.hid (((below_al wr (.cells #[.bool rh, .int .i64 rv] 34)).block _ (Nat.lt_of_lt_of_le (blk_lt HQ.out) hB.size)).trans ((hB.block _ (blk_lt HQ.out)).trans HQ.out)); replace OD := Lib.hid ((OD.out.later hB).later (below_al wr (.cells #[.bool rh, .int .i64 rv] 34))); clear hB e0 e1))
              obtain ⟨bp, hbp⟩ : ∃ b, wp.heap.size = b := ⟨_, rfl⟩
              obtain ⟨bq, hbq⟩ : ∃ b, wq.heap.size = b := ⟨_, rfl⟩
              obtain ⟨b3, hb3⟩ : ∃ b, wr.heap.size = b := ⟨_, rfl⟩
              have PP := Lib.hid (p := SyP w _ ⟨an, ln, cn, tss, ar, lr, cr, trs⟩ ⟨bn, mn, dn, uss, br, mr, dr, urs⟩ ⟨oa, ob, oc, od, oe, of, og, oh⟩ bx bp bq b3 (ovN tss uss) (ovR tss rsA uss rsB) ph qh rh pv qv rv) ⟨OD.out, by rw [← hbp]; exact HP.out, by rw [← hbq]; exact HQ.out, by rw [← hb3]; exact HR.out⟩
              rw [hbp, hbq, hb3]
              clear hbp hbq hb3 HP HQ HR OD K1 K2 K3
              generalize wr.alloc (.cells #[.bool rh, .int .i64 rv] 34) = wy at PP ⊢
              obtain ⟨p0, p1, _, _⟩ := box_all2 PP.out.hp
              have P2 := Lib.hid (PP.out.later (below_al wy (.cells #[.bool ph, .int .i64 pv] 34)))
              obtain ⟨q0, q1, _, _⟩ := box_all2 P2.out.hq
              go_upto_if 121 with (fail)
              clear q0 q1 p0 p1
              obtain ⟨q0, q1, _, _⟩ := box_all2 P2.out.hq
              have WB := Lib.hid (World.alloc_heap_new wy (.cells #[.bool ph, .int .i64 pv] 34))
              obtain ⟨y0, y1, y2, y3⟩ := box_all2 WB.out
              go_cut [24] (fun v wz => v = .pointer (some ⟨wy.heap.size, 0, none⟩) ∧ RowKit.Hid (SyP w wz ⟨an, ln, cn, tss, ar, lr, cr, trs⟩ ⟨bn, mn, dn, uss, br, mr, dr, urs⟩ ⟨oa, ob, oc, od, oe, of, og, oh⟩ bx bp bq b3 (ovN tss uss) (ovR tss rsA uss rsB) ph qh rh pv qv rv ∧ wz.heap[wy.heap.size]? = some (.cells #[.bool rh, .int .i64 rv] 34)))
              case first =>
                cases qh with
                | true =>
                  obtain ⟨rfl, rfl⟩ : rh = true ∧ rv = qv := by
                    have := REL.out
                    simpa using this
                  go_wp2
                  go_meet
                  case rel => first
                    | exact ⟨rfl, PP.out.later (below_al wy _), World.alloc_heap_new wy _⟩
                    | exact ⟨rfl, PP.out.later (((below_al wy _).setCell (p := ⟨wy.heap.size, 0, none⟩) (Nat.le_refl _) _).setCell (p := ⟨wy.heap.size, 1, none⟩) (Nat.le_refl _) _), box_set2 WB.out⟩
                | false =>
                  obtain ⟨rfl, rfl⟩ : rh = ph ∧ rv = pv := by
                    have := REL.out
                    simpa using this
                  go_wp2
                  go_meet
                  case rel => exact ⟨rfl, P2.out, WB.out⟩
              case rest =>
                as_aux_lemma =>
                  obtain ⟨rfl, hD⟩ := hcut
                  obtain ⟨bw, hbw⟩ : ∃ b, wy.heap.size = b := ⟨_, rfl⟩
                  rw [hbw] at hD
                  try rw [hbw]
                  rename World => wz
                  replace PP := Lib.hid hD.out.1
                  have HW := Lib.hid hD.out.2
                  clear hD hbw P2 WB q0 q1 y0 y1 y2 y3
                  obtain ⟨r0, r1, _, _⟩ := box_all2 PP.out.hr
                  obtain ⟨v0, v1, _, _⟩ := box_all2 HW.out
                  have KCN := Lib.hid (p := rows < 0 → ∀ (W : World) (x : Tb), TbIs W x tss rsA → Calls Tryz.prog 10 #[x.val, .int .i64 rows] W fun e w' => ∃ c : Tb, e = .returned (.tuple #[c.val, .int .i64 1]) ∧ Below W.heap.size W w') (fun hr W x hx => by
                    refine (cut_any x tss rsA rows W hx hrow.2).mono ?_
                    rintro e w' ⟨c, h1, _, h3⟩
                    have ec : cutE tss rsA rows = 1 := by unfold cutE; rw [if_pos hr]
                    rw [ec] at h1
                    exact ⟨c, h1, h3⟩)
                  have KCP := Lib.hid (p := 0 ≤ rows → ∀ (W : World) (x : Tb), TbIs W x tss rsA → Calls Tryz.prog 10 #[x.val, .int .i64 rows] W fun e w' => ∃ c : Tb, e = .returned (.tuple #[c.val, .int .i64 0]) ∧ TbIs w' c tss (rsA.take rows.toNat) ∧ Below W.heap.size W w') (fun hr W x hx => by
                    refine (cut_any x tss rsA rows W hx hrow.2).mono ?_
                    rintro e w' ⟨c, h1, h2, h3⟩
                    have ec : cutE tss rsA rows = 0 := by unfold cutE; rw [if_neg (by omega)]; exact HVA.out
                    rw [ec] at h1 h2
                    rw [if_pos rfl, if_pos rfl] at h2
                    exact ⟨c, h1, h2, h3⟩)
                  by_cases hneg : rows < 0
                  · obtain ⟨e0, e1, _, _⟩ := PP.out.od.f.cells
                    have BW := Lib.hid PP.out.od.f
                    go_wp2_with (first
                      | (go_at_call 7; refine (KOA.out _ BW.out).mono ?_; rintro e wn ⟨⟨xa, xb, xc, xd, xe, xf, xg, xh⟩, rfl, hU, hB⟩; simp only [Tb.val]; have X1 := Lib.hid hU; replace BW := Lib.hid (BW.out.later hB); clear hU hB)
                      | (go_at_call 10; refine (KCN.out hneg _ _ X1.out).mono ?_; rintro e wc ⟨⟨ca, cb, cc, cd, ce, cf, cg, ch⟩, rfl, hB⟩; simp only [Tb.val]; replace BW := Lib.hid ((BW.out.later hB).later (below_al wc (.cells #[.slice ca cb cc, .slice ce cf cg] 25))); clear hB))
                    go_ret
                    exact ⟨rfl, BW.out.bel⟩
                  · obtain ⟨e0, e1, _, _⟩ := PP.out.od.f.cells
                    have KCUT := Lib.hid (KCP.out (by omega))
                    obtain ⟨S, hS⟩ : ∃ c, celP tss (rsA.take rows.toNat) s day = c := ⟨_, rfl⟩
                    have SREL := Lib.hid (p := S = if day < rows then (⟨ph, pv⟩ : Cl) else ⟨false, 0⟩) (by rw [← hS, cut_cel _ _ _ _ _ (by omega), HP0.out])
                    have KCC := Lib.hid (fun (W : World) (c : Tb) (hc : TbIs W c tss (rsA.take rows.toNat)) => cell_any c tss (rsA.take rows.toNat) s day W hc (valid_gd (gd_take gA.out _)) SN.out.2 hday.2)
                    rw [celN_yes SN.out.1, hS, SN.out.1] at KCC
                    clear hS KCN KCP
                    obtain ⟨sh, sv⟩ := S
                    go_upto_region 28 with (first
                      | (go_at_call 7; refine (KOA.out _ PP.out.od.f).mono ?_; rintro e wn ⟨⟨xa, xb, xc, xd, xe, xf, xg, xh⟩, rfl, hU, hB⟩; simp only [Tb.val]; have X1 := Lib.hid hU; replace PP := Lib.hid (PP.out.later hB); clear hU hB)
                      | (go_at_call 10; refine (KCUT.out _ _ X1.out).mono ?_; rintro e wc ⟨⟨ca, cb, cc, cd, ce, cf, cg, ch⟩, rfl, hU, hB⟩; simp only [Tb.val]; have TC := Lib.hid (hU.later (below_al wc (.cells #[.slice ca cb cc, .slice ce cf cg] 25))); have HC := Lib.hid (World.alloc_heap_new wc (.cells #[.slice ca cb cc, .slice ce cf cg] 25)); replace PP := Lib.hid ((PP.out.later hB).later (below_al wc (.cells #[.slice ca cb cc, .slice ce cf cg] 25))); obtain ⟨f0, f1, _, _⟩ := box_all2 HC.out; clear hU hB)
                      | (go_at_call 9; refine (KCC.out _ ⟨ca, cb, cc, cd, ce, cf, cg, ch⟩ TC.out).mono ?_; rintro e ws ⟨rfl, hB⟩; have HS := Lib.hid (World.alloc_heap_new ws (.cells #[.bool sh, .int .i64 sv] 34)); replace HC := Lib.hid (((below_al ws (.cells #[.bool sh, .int .i64 sv] 34)).block _ (Nat.lt_of_lt_of_le (blk_lt HC.out) hB.size)).trans ((hB.block _ (blk_lt HC.out)).trans HC.out)); replace PP := Lib.hid ((PP.out.later hB).later (below_al ws (.cells #[.bool sh, .int .i64 sv] 34))); clear hB f0 f1))
                    have LCF := Lib.hid (p := (cf : Int) ≤ rows) (by
                      have := (tb_lens TC.out).2
                      simp only [List.length_take] at this
                      omega)
                    clear e0 e1 r0 r1 v0 v1
                    obtain ⟨bc, hbc⟩ : ∃ b, wc.heap.size = b := ⟨_, rfl⟩
                    obtain ⟨bs, hbs⟩ : ∃ b, ws.heap.size = b := ⟨_, rfl⟩
                    rw [hbc] at HC
                    rw [hbs] at HS
                    rw [hbc, hbs]
                    clear hbc hbs TC X1 KCC KCUT HW
                    generalize ws.alloc (.cells #[.bool sh, .int .i64 sv] 34) = wv at PP HC HS ⊢
                    go_cut [183] (fun v wz => v = .bool false ∧ RowKit.Hid (SyP w wz ⟨an, ln, cn, tss, ar, lr, cr, trs⟩ ⟨bn, mn, dn, uss, br, mr, dr, urs⟩ ⟨oa, ob, oc, od, oe, of, og, oh⟩ bx bp bq b3 (ovN tss uss) (ovR tss rsA uss rsB) ph qh rh pv qv rv))
                    case first =>
                      obtain ⟨p0, p1, _, _⟩ := box_all2 PP.out.hp
                      obtain ⟨f0, f1, _, _⟩ := box_all2 HC.out
                      obtain ⟨g0, g1, _, _⟩ := box_all2 HS.out
                      have lcf := LCF.out
                      have l1 : ¬ rows < (cf : Int) := by omega
                      by_cases hdr : day < rows
                      · obtain ⟨rfl, rfl⟩ : sh = ph ∧ sv = pv := by
                          have := SREL.out
                          rw [if_pos hdr] at this
                          simpa using this
                        have l2 : ¬ rows ≤ day := by omega
                        go_wp2
                        go_meet
                        case rel => exact ⟨rfl, PP.out⟩
                      · obtain ⟨rfl, rfl⟩ : sh = false ∧ sv = 0 := by
                          have := SREL.out
                          rw [if_neg hdr] at this
                          simpa using this
                        have l2 : rows ≤ day := by omega
                        go_wp2
                        go_meet
                        case rel => exact ⟨rfl, PP.out⟩
                    case rest =>
                      as_aux_lemma =>
                        obtain ⟨rfl, hD⟩ := hcut
                        rename World => wz
                        replace PP := Lib.hid hD.out
                        clear hD HC HS LCF SREL
                        by_cases hlo : day < 0
                        · go_wp2
                          go_ret
                          exact ⟨rfl, PP.out.od.f.bel⟩
                        · by_cases hhi : 3660 < day
                          · go_wp2
                            go_ret
                            exact ⟨rfl, PP.out.od.f.bel⟩
                          · obtain ⟨d, rfl⟩ : ∃ d : Nat, day = (d : Int) := ⟨day.toNat, by omega⟩
                            have hd3 : d ≤ 3660 := by omega
                            have RW := Lib.hid (p := rawT tss rsA s d = ⟨ph, pv⟩) (by have := HP0.out; unfold celP at this; rw [if_pos (by omega), Int.toNat_natCast] at this; exact this)
                            obtain ⟨e0, e1, _, _⟩ := PP.out.od.f.cells
                            have NLS := Lib.hid (fun (W : World) => nl_one W s SN.out.2)
                            cases ph with
                            | false =>
                              have MS := Lib.hid (miss_no (show (rawT tss rsA s d).h = false by rw [RW.out]))
                              have KM := Lib.hid (fun (W : World) (x : Tb) (b : Nat) (hx : TbIs W x tss rsA) (k : NL W (some ⟨b, 0, none⟩) 1 [s]) => missing_no x tss rsA s b d W hx HVA.out SN.out.1 k hd3 _ _ MS.out)
                              go_upto_region 35 with (first
                                | (go_at_call 7; refine (KOA.out _ PP.out.od.f).mono ?_; rintro e wn ⟨⟨xa, xb, xc, xd, xe, xf, xg, xh⟩, rfl, hU, hB⟩; simp only [Tb.val]; have X1 := Lib.hid hU; replace PP := Lib.hid (PP.out.later hB); clear hU hB)
                                | (go_at_call 11; refine (KM.out _ ⟨xa, xb, xc, xd, xe, xf, xg, xh⟩ _ (X1.out.later (below_al wn (.cells #[.string s] 9))) (NLS.out wn)).mono ?_; rintro e wm ⟨g, m, c, rfl, m0, m1, hm, hB⟩; replace PP := Lib.hid ((PP.out.later (below_al wn (.cells #[.string s] 9))).later hB); clear hB))
                              obtain ⟨p0, p1, _, _⟩ := box_all2 PP.out.hp
                              have kwm : IntKind.i64.wrap (((m + 1 : Nat) : Int) - 1) = (m : Int) := by simp [IntKind.wrap, IntKind.bits, IntKind.signed]; omega
                              have kl : (0 : Int) < ((m + 1 : Nat) : Int) := by omega
                              have kl2 : (m : Int) < ((m + 1 : Nat) : Int) := by omega
                              go_wp2
                              go_ret
                              exact ⟨rfl, PP.out.od.f.bel⟩
                            | true =>
                              have MY := Lib.hid (miss_yes (show (rawT tss rsA s d).h = true by rw [RW.out]))
                              rcases miss_before tss rsA s d with q | ⟨l, k, q, hk⟩
                              · have KM := Lib.hid (fun (W : World) (x : Tb) (b : Nat) (hx : TbIs W x tss rsA) (k : NL W (some ⟨b, 0, none⟩) 1 [s]) => missing_nil x tss rsA s b d W hx HVA.out SN.out.1 k hd3 (MY.out.trans q))
                                clear q
                                go_upto_region 35 with (first
                                  | (go_at_call 7; refine (KOA.out _ PP.out.od.f).mono ?_; rintro e wn ⟨⟨xa, xb, xc, xd, xe, xf, xg, xh⟩, rfl, hU, hB⟩; simp only [Tb.val]; have X1 := Lib.hid hU; replace PP := Lib.hid (PP.out.later hB); clear hU hB)
                                  | (go_at_call 11; refine (KM.out _ ⟨xa, xb, xc, xd, xe, xf, xg, xh⟩ _ (X1.out.later (below_al wn (.cells #[.string s] 9))) (NLS.out wn)).mono ?_; rintro e wm ⟨a, c, rfl, hB⟩; replace PP := Lib.hid ((PP.out.later (below_al wn (.cells #[.string s] 9))).later hB); clear hB))
                                obtain ⟨p0, p1, _, _⟩ := box_all2 PP.out.hp
                                go_wp2
                                go_ret
                                exact ⟨rfl, PP.out.od.f.bel⟩
                              · have KM := Lib.hid (fun (W : World) (x : Tb) (b : Nat) (hx : TbIs W x tss rsA) (k0 : NL W (some ⟨b, 0, none⟩) 1 [s]) => missing_no x tss rsA s b d W hx HVA.out SN.out.1 k0 hd3 l (k : Int) (MY.out.trans q))
                                have kd : ¬ (k : Int) = (d : Int) := by omega
                                have kd2 : ((k : Int) == (d : Int)) = false := by rw [beq_eq_false_iff_ne]; exact kd
                                clear q hk
                                go_upto_region 35 with (first
                                  | (go_at_call 7; refine (KOA.out _ PP.out.od.f).mono ?_; rintro e wn ⟨⟨xa, xb, xc, xd, xe, xf, xg, xh⟩, rfl, hU, hB⟩; simp only [Tb.val]; have X1 := Lib.hid hU; replace PP := Lib.hid (PP.out.later hB); clear hU hB)
                                  | (go_at_call 11; refine (KM.out _ ⟨xa, xb, xc, xd, xe, xf, xg, xh⟩ _ (X1.out.later (below_al wn (.cells #[.string s] 9))) (NLS.out wn)).mono ?_; rintro e wm ⟨g, m, c, rfl, m0, m1, hm, hB⟩; replace PP := Lib.hid ((PP.out.later (below_al wn (.cells #[.string s] 9))).later hB); clear hB))
                                obtain ⟨p0, p1, _, _⟩ := box_all2 PP.out.hp
                                have kwm : IntKind.i64.wrap (((m + 1 : Nat) : Int) - 1) = (m : Int) := by simp [IntKind.wrap, IntKind.bits, IntKind.signed]; omega
                                have kl : (0 : Int) < ((m + 1 : Nat) : Int) := by omega
                                have kl2 : (m : Int) < ((m + 1 : Nat) : Int) := by omega
                                go_wp2
                                go_ret
                                exact ⟨rfl, PP.out.od.f.bel⟩
    · exact absurd (HVB.out.symm.trans HALL.out.2) hvb
  · exact absurd (HVA.out.symm.trans HALL.out.1) hva
end Go.Proofs.YtajocakmmgpoaaaGreatDoor
