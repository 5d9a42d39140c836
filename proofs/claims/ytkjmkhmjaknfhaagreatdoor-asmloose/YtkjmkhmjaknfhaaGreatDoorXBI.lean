import Derived.Test.YtkjmkhmjaknfhaaGreatDoorXBE
import Derived.Test.YtkjmkhmjaknfhaaGreatDoorXBH
import Derived.Laws.BytesString
namespace Go.Proofs.YtkjmkhmjaknfhaaGreatDoor
open Go.RowKit
set_option linter.unusedVariables false
set_option linter.unusedSimpArgs false

/-- Numbers in memory. -/
def How (w : World) (a : Option Addr) (n : Nat) (l : List Int) : Prop := l.length = n ∧ (∀ x ∈ l, i64 x) ∧ (n = 0 ∨ ∃ x o, a = some ⟨x, o, none⟩ ∧ x < w.heap.size ∧ ∀ i, i < n → w.cell? ⟨x, o + i, none⟩ = some (.int .i64 (l.getD i 0)))
theorem How.lat {w V : World} {a : Option Addr} {n : Nat} {l : List Int} (h : How w a n l) (b : Below w.heap.size w V) : How V a n l := by
  refine ⟨h.1, h.2.1, ?_⟩
  rcases h.2.2 with h | ⟨x, o, rfl, hx, hc⟩
  · exact .inl h
  · exact .inr ⟨x, o, rfl, Nat.lt_of_lt_of_le hx b.size, fun i hi => (b.cell (p := ⟨x, o + i, none⟩) hx).trans (hc i hi)⟩
theorem how_of {w : World} {a : Option Addr} {n c : Nat} {l : List Int} (h : (a = none ∧ n = 0 ∧ c = 0 ∧ l = []) ∨ ∃ x, a = some x ∧ n ≤ c ∧ c ≤ maxLen ∧ l.length = c ∧ (∀ i, i < l.length → w.cell? (x.add i) = some (.int .i64 (l.getD i 0))) ∧ ∀ m ∈ l, (Lit.int .i64 m).wf = true) : How w a n (l.take n) := by
  rcases h with ⟨_, h0, _, hl⟩ | ⟨x, rfl, h1, _, h3, hc, hw⟩
  · subst h0 hl
    exact ⟨rfl, (fun x hx => by cases hx), .inl rfl⟩
  · refine ⟨by rw [List.length_take]; omega, (fun y hy => hw y (List.mem_of_mem_take hy)), ?_⟩
    by_cases h0 : n = 0
    · exact .inl h0
    · have q0 := hc 0 (by omega)
      obtain ⟨b, o, s⟩ := x
      have hs : s = none := by
        have := World.cell?_spot q0
        simpa [Addr.add] using this
      subst hs
      refine .inr ⟨b, o, rfl, ?_, fun i hi => ?_⟩
      · have := World.block_lt_of_cell? w _ q0
        rw [Addr.add_lit] at this
        exact this
      · have := hc i (by omega)
        rw [Addr.add_lit] at this
        rw [this]
        congr 2
        rw [List.getD_eq_getElem?_getD, List.getD_eq_getElem?_getD, List.getElem?_take_of_lt hi]
/-- A row of bytes of one's own. -/
def OwB (W : World) (B : Nat) (v : Value) (l : List UInt8) : Prop := W.ownsRow B 5 1 v l.length (Lib.byteCells l)
theorem OwB.str {W : World} {B : Nat} {v : Value} {l : List UInt8} {s : ByteArray} (h : W.ownsRow B 5 1 v (l.length + s.size) (Lib.byteCells l ++ Lib.strCells s)) : OwB W B v (l ++ s.data.toList) := by
  unfold OwB
  rw [strCells_bytes] at h
  have e : s.data.toList.length = s.size := Array.length_toList
  have e2 : Lib.byteCells (l ++ s.data.toList) = Lib.byteCells l ++ Lib.byteCells s.data.toList := by simp [Lib.byteCells]
  rw [e2, List.length_append, e]
  exact h
theorem OwB.lf {W : World} {B : Nat} {v : Value} {l : List UInt8} (h : W.ownsRow B 5 1 v (l.length + 1) (Lib.byteCells l ++ [.int .u8 10])) : OwB W B v (l ++ [10]) := by
  unfold OwB
  have e2 : Lib.byteCells (l ++ [10]) = Lib.byteCells l ++ [.int .u8 10] := by simp [Lib.byteCells]
  rw [e2, List.length_append]
  exact h
theorem conv_own {W : World} {B : Nat} {v : Value} {l : List UInt8} (h : OwB W B v l) : ∃ a cap, v = .slice a l.length cap ∧ (convert 37 9 (.slice a l.length cap)).run Tryz.prog W = .ok (.string ⟨l.toArray⟩) W := by
  have hh := h
  obtain ⟨h1, h2⟩ := h
  rcases h2 with ⟨h3, h2⟩ | ⟨g, cap, cur, rfl, hB, hg, hn, hm, hs, ht⟩
  · have e := List.length_eq_zero_iff.1 h2
    subst e
    refine ⟨none, 0, h3, ?_⟩
    rw [show ([] : List UInt8).length = 0 from rfl, run_convert_bytes_string W 37 9 5 none 0 0 (by kernel_rfl) (by kernel_rfl) (by kernel_rfl)]
    simp [Conv.bytesToString]
    try rfl
  · refine ⟨_, cap, rfl, run_convert_bytes_back (P := Tryz.prog) W 37 9 5 ⟨g, 0, none⟩ cap l (by kernel_rfl) (by kernel_rfl) (by kernel_rfl) (fun j hj => ?_)⟩
    rw [Lib.add_plain, Nat.zero_add, World.ownsRow.cellAt hh j (by omega)]
    simp [Lib.byteCells, hj]
/-- What has been told by now. -/
def tldG (gs : List InsG) (n i : Nat) : Nat := if 0 < n ∧ n ≤ i then cntG (gs.take n) else 0
theorem cnt_step (gs : List InsG) (i : Nat) (h : i < gs.length) : cntG (gs.take (i + 1)) = cntG (gs.take i) + (gs[i].ins.length + 1) := by
  unfold cntG
  rw [List.take_succ_eq_append_getElem h, List.map_append, List.sum_append]
  simp
theorem grp_ins (how : List Int) (i : Nat) (a : ByteArray) : (grp how i a).ins.length = (if kOf how i % 3 = 0 then 1 else 0) + (if kOf how i % 5 = 0 then 1 else 0) := by
  unfold grp
  by_cases h1 : kOf how i % 3 = 0 <;> by_cases h2 : kOf how i % 5 = 0 <;> simp [h1, h2]
theorem cnt_le (how : List Int) (ls : List ByteArray) : ∀ i, i ≤ ls.length → cntG ((gsL how ls).take i) ≤ 3 * i
  | 0, _ => by simp [cntG]
  | i + 1, h => by
    have z := cnt_le how ls i (by omega)
    have hi : i < ls.length := by omega
    rw [cnt_step _ i (by rw [gs_len]; exact hi), gs_get how ls i hi, grp_ins]
    have : (if kOf how i % 3 = 0 then 1 else 0) ≤ 1 := by split <;> omega
    have : (if kOf how i % 5 = 0 then 1 else 0) ≤ 1 := by split <;> omega
    omega
set_option maxRecDepth 100000 in
set_option maxHeartbeats 8000000 in
theorem asmLoose_any {w : World} (text : ByteArray) (ha : Option Addr) (hl hcap : Nat) (how : List Int) (hw : How w ha hl how) (hln : hl ≤ 9223372036854775807) (hG : GlA w) :
    Calls Tryz.prog 6 #[.string text, .slice ha hl hcap] w fun e w' => e = .returned (.bool true) ∧ Below w.heap.size w w' := by
  have KH := Lib.hid (p := ∀ W, Below w.heap.size w W → Calls Tryz.prog 9 #[] W fun e w' => e = .returned (.bool true) ∧ Below W.heap.size W w') (fun W b => heads_any (hG.laterH b))
  have B0 := Lib.hid (Below.refl w.heap.size w)
  by_cases hz : text.size ≤ 131072
  · have z1 : ¬ (131072 : Int) < (text.size : Int) := by omega
    have zb : decide ((131072 : Int) < (text.size : Int)) = false := by simp; omega
    have zb2 : decide (131072 < text.size) = false := by simp; omega
    have KP := Lib.hid (p := ∀ W, Below w.heap.size w W → ∀ s, Calls Tryz.prog 10 #[.string s] W fun e w' => PaE s W e w') (fun W b s => parse_any s (fun W' b' => hG.laterH (b.trans (b'.mono b.size))))
    have KL := Lib.hid (fun W => linesL_any text (by omega) W)
    obtain ⟨n, hn, hn1, hO⟩ := loose_out (s := text) how hz
    have TG := Lib.hid (p := ∀ i, i ≤ (lnsR text).length → (txG (gsL how (lnsR text)) i).length ≤ 8000000) (fun i h => by have a1 := txG_len how (lnsR text) i h; have a2 := txF_len (lnsR text) i; have a3 := lnsR_tot _ text rfl; have a4 := lnsR_len _ text rfl; omega)
    have TS := Lib.hid (p := ∀ i (h : i < (lnsR text).length), txG (gsL how (lnsR text)) (i + 1) = txG (gsL how (lnsR text)) i ++ grpT (grp how i (lnsR text)[i]) ∧ cntG ((gsL how (lnsR text)).take (i + 1)) = cntG ((gsL how (lnsR text)).take i) + ((if kOf how i % 3 = 0 then 1 else 0) + (if kOf how i % 5 = 0 then 1 else 0) + 1)) (fun i h => by
      have e := gs_len how (lnsR text)
      refine ⟨by rw [txG_step _ i (by omega), gs_get how _ i h], ?_⟩
      rw [cnt_step _ i (by omega), gs_get how _ i h, grp_ins])
    have CL := Lib.hid (p := ∀ i, i ≤ (lnsR text).length → cntG ((gsL how (lnsR text)).take i) ≤ 400000) (fun i h => by have := cnt_le how (lnsR text) i h; have a4 := lnsR_len _ text rfl; omega)
    have CE := Lib.hid (p := cntG (gsL how (lnsR text)) = cntG ((gsL how (lnsR text)).take (lnsR text).length)) (by rw [← gs_len how (lnsR text), List.take_length])
    have LB := Lib.hid (p := ∀ k (h : k < (lnsR text).length), (lnsR text)[k].size ≤ 131072) (fun k h => by have := lnsR_bd _ text rfl _ (List.getElem_mem h); omega)
    have LLen := Lib.hid (p := (lnsR text).length ≤ 131072) (by have := lnsR_len _ text rfl; omega)
    have L0 := Lib.hid (p := (lnsR text).length = 0 → txG (gsL how (lnsR text)) 0 = []) (fun _ => by simp [txG])
    have KL1 := Lib.hid (p := ∀ W, Calls Tryz.prog 14 #[.string text] W fun e w' => ∃ a c, e = .returned (.slice a (lnsR text).length c) ∧ OwQ w' W.heap.size (.slice a (lnsR text).length c) (lnsR text) ∧ Below W.heap.size W w') (fun W => (KL.out W).mono (fun e w' ⟨v, h1, h2, h3⟩ => by
      rw [← lns_all] at h2
      obtain ⟨a, c, rfl⟩ := own_slQ h2
      exact ⟨a, c, h1, h2, h3⟩))
    have HG := Lib.hid hG
    have HW := Lib.hid hw
    clear KL hG hw
    generalize hls : lnsR text = ls at *
    clear hls
    generalize hgs : gsL how ls = gs at *
    clear hgs
    obtain ⟨L, hL⟩ : ∃ L, ls.length = L := ⟨_, rfl⟩
    have NL := Lib.hid hL
    rw [hL] at KL1 LLen TG CL CE L0 hO hn1
    obtain ⟨o, ho⟩ : ∃ o, outA text = o := ⟨_, rfl⟩
    rw [ho] at hn hO
    have HO := Lib.hid ho
    obtain ⟨oa, N, E⟩ := o
    simp only at hn hO
    subst hn
    have HO2 := Lib.hid hO
    have N1 := Lib.hid hn1
    have n20 : n ≤ 131073 := by have := LLen.out; omega
    have L20 : L ≤ 131072 := LLen.out
    obtain ⟨i0, hi, hz0, hz1, hz2⟩ := info_parts info8a
    clear hL ho hO hn1
    go_enter Tryz.func6, Tryz.ntmps6
    go_wp2_with (first
    | (go_at_call 9; refine (KH.out _ B0.out).mono ?_; rintro e w1 ⟨rfl, h1⟩; have B1 := Lib.hid h1; clear h1)
    | (go_at_call 10; refine (KP.out w1 B1.out text).mono ?_; rintro e w2 ⟨⟨a0, b0, c0, a1, b1, c1, a2, b2, c2, n0, n1, n2, n3, a3, b3, c3⟩, rfl, hpv, hkey, hb⟩; rw [HO.out] at hkey ⊢; simp only [Pg.agg]; have P2 := Lib.hid hpv; have Q2 := Lib.hid hkey; have B2 := Lib.hid (B1.out.trans (hb.mono B1.out.size)); have A2 := Lib.hid (B2.out.trans ((allocBP w2 (.cells #[.slice a0 c0.length b0, .slice a1 c1.length b1, .slice a2 c2.length b2, .int .i64 n0, .int .i64 n1, .int .i64 n2, .int .i64 n3, .slice a3 c3.length b3] 27)).mono B2.out.size)); clear hb hpv hkey)
    | (go_at_call 14; refine (KL1.out (w2.alloc (.cells #[.slice a0 c0.length b0, .slice a1 c1.length b1, .slice a2 c2.length b2, .int .i64 n0, .int .i64 n1, .int .i64 n2, .int .i64 n3, .slice a3 c3.length b3] 27))).mono ?_; rintro e w3 ⟨al, cl, rfl, h2, h3⟩; have O3 := Lib.hid h2; have Y3 := Lib.hid h3; have B3 := Lib.hid (A2.out.trans (h3.mono A2.out.size)); clear h2 h3))
    have CLn := Lib.hid (p := ∀ k (h : k < ls.length), ∃ g o, al = some ⟨g, o, none⟩ ∧ ∀ W, Below w3.heap.size w3 W → W.cell? ⟨g, o + k, none⟩ = some (.string ls[k])) (fun k h => by
      obtain ⟨g, cap, e⟩ := own_formQ O3.out (by omega)
      injection e with e1 _ e3
      subst e1
      refine ⟨g, 0, rfl, fun W b => ?_⟩
      rcases wrs_of (by have := O3.out; rw [← NL.out] at this; exact this) with q | ⟨g', e, _, q⟩
      · subst q; simp at h
      · injection e with e
        injection e with e e'
        subst e
        have lt := (O3.out.lt g rfl).2
        rw [Nat.zero_add]
        exact (b.cell (p := ⟨g, k, none⟩) lt).trans (q k h).1)
    have BP2 := Lib.hid (p := ∀ W, Below w3.heap.size w3 W → W.heap[w2.heap.size]? = some (.cells #[.slice a0 c0.length b0, .slice a1 c1.length b1, .slice a2 c2.length b2, .int .i64 n0, .int .i64 n1, .int .i64 n2, .int .i64 n3, .slice a3 c3.length b3] 27)) (fun W b => (b.block _ (by have := Y3.out.size; simp at this; omega)).trans ((Y3.out.block _ (by simp)).trans (heapN w2 _)))
    have X23 := Lib.hid (p := Below w2.heap.size w2 w3) ((allocBP w2 _).trans (Y3.out.mono (by simp)))
    clear O3
    go_loopw [9, 10, 11, 12] (fun v td ln t W => ∃ (i : Nat) (u : Value), i ≤ L ∧ u = v ∧ td = .int .i64 ((tldG gs n i : Nat) : Int) ∧ ln = .int .i64 ((cntG (gs.take i) : Nat) : Int) ∧ t = .int .i64 (i : Int) ∧ RowKit.Hid (OwB W w3.heap.size u (txG gs i)) ∧ RowKit.Hid (Below w3.heap.size w3 W)) (fun _ _ _ t _ => L - (intOf t).toNat)
    case atStart => exact ⟨0, _, Nat.zero_le _, rfl, by unfold tldG; rw [if_neg (by omega)]; rfl, by rw [List.take_zero]; rfl, rfl, by unfold txG; rw [List.take_zero]; exact World.ownsRow_nil _ _ _ _, Below.refl _ _⟩
    case round =>
      rename World => W
      obtain ⟨i, v, iL, rfl, rfl, rfl, rfl, HB1, HB⟩ := hrel
      by_cases hlt : i < L
      · have ic : (i : Int) < (L : Int) := by omega
        have il : i < ls.length := by rw [NL.out]; exact hlt
        obtain ⟨xl, xo, rfl, hcl⟩ := CLn.out i il
        have cl1 := hcl W HB.out
        have HCL := Lib.hid hcl
        obtain ⟨ts1, ts2⟩ := TS.out i il
        have TS1 := Lib.hid ts1
        have TS2 := Lib.hid ts2
        have TG1 := Lib.hid (TG.out (i + 1) (by omega))
        have TG0 := Lib.hid (TG.out i (by omega))
        have CL0 := CL.out i (by omega)
        have LB1 := LB.out i il
        have HW3 := Lib.hid (HW.out.lat B3.out)
        generalize ls[i] = s at *
        clear hcl ts1 ts2
        rcases (show hl = 0 ∨ (0 < hl ∧ how.getD (i % hl) 0 < 0) ∨ (0 < hl ∧ 0 ≤ how.getD (i % hl) 0) by omega) with h0 | ⟨h0, hneg⟩ | ⟨h0, hpos⟩
        · subst h0
          obtain ⟨K, hK⟩ : ∃ K, kOf how i = K := ⟨_, rfl⟩
          have hK0 : K = 0 := by
            rw [← hK]
            unfold kOf
            rw [if_pos (List.length_eq_zero_iff.1 HW.out.1)]
          subst hK0
          have KK := Lib.hid hK
          have HK := Lib.hid (p := (0 : Nat) < 9223372036854775808) (by omega)
          clear hK
          go_upto_region 16 with (fail)
          have ZB := Lib.hid (p := (txG gs i).length + 26 + (spR 0 s).length ≤ 9000000) (by have := TG0.out; have := spR_len 0 s; omega)
          have KSP := Lib.hid (p := ∀ W', Calls Tryz.prog 16 #[.string s, .int .i64 0] W' fun e w' => e = .returned (.string ⟨(spR 0 s).toArray⟩) ∧ Below W'.heap.size W' w') (fun W' => spread_any s 0 HK.out (by omega) W')
          have TD1 := Lib.hid (p := ¬ i + 1 = n → tldG gs n (i + 1) = tldG gs n i) (fun h => by
            unfold tldG
            by_cases q : 0 < n ∧ n ≤ i
            · rw [if_pos q, if_pos ⟨q.1, by omega⟩]
            · rw [if_neg q, if_neg (fun z => q ⟨z.1, by omega⟩)])
          have Ox := Lib.hid HB1.out
          have Bx := Lib.hid HB.out
          have sx := Lib.hid HB.out.size
          rw [KK.out] at TS2
          clear HB1 HB TG1 TG0 KH KP KL1 HW HW3
          have h3 : 0 % 3 = 0 := rfl
          have h5 : 0 % 5 = 0 := rfl
          by_cases he : i + 1 = n
          · have BD1 := Lib.hid (p := ((txG gs i)).length + (ByteArray.mk #[32, 59, 32, 97, 32, 99, 111, 109, 109, 101, 110, 116, 58, 32, 115, 116, 97, 99, 107, 32, 57, 32, 10]).size ≤ maxLen ∧ ((txG gs i)).length + (ByteArray.mk #[32, 59, 32, 97, 32, 99, 111, 109, 109, 101, 110, 116, 58, 32, 115, 116, 97, 99, 107, 32, 57, 32, 10]).size ≤ 140737488355328) (by have := ZB.out; have e : (ByteArray.mk #[32, 59, 32, 97, 32, 99, 111, 109, 109, 101, 110, 116, 58, 32, 115, 116, 97, 99, 107, 32, 57, 32, 10]).size = 23 := rfl; unfold maxLen; simp only [List.length_append, e]; omega)
            have BD2 := Lib.hid (p := ((txG gs i) ++ (ByteArray.mk #[32, 59, 32, 97, 32, 99, 111, 109, 109, 101, 110, 116, 58, 32, 115, 116, 97, 99, 107, 32, 57, 32, 10]).data.toList).length + (ByteArray.mk #[9, 10]).size ≤ maxLen ∧ ((txG gs i) ++ (ByteArray.mk #[32, 59, 32, 97, 32, 99, 111, 109, 109, 101, 110, 116, 58, 32, 115, 116, 97, 99, 107, 32, 57, 32, 10]).data.toList).length + (ByteArray.mk #[9, 10]).size ≤ 140737488355328) (by have := ZB.out; have e : (ByteArray.mk #[9, 10]).size = 2 := rfl; unfold maxLen; simp only [List.length_append, e]; have e2 : (ByteArray.mk #[32, 59, 32, 97, 32, 99, 111, 109, 109, 101, 110, 116, 58, 32, 115, 116, 97, 99, 107, 32, 57, 32, 10]).data.toList.length = 23 := rfl; simp only [e2]; omega)
            have BD4 := Lib.hid (p := ((txG gs i) ++ (ByteArray.mk #[32, 59, 32, 97, 32, 99, 111, 109, 109, 101, 110, 116, 58, 32, 115, 116, 97, 99, 107, 32, 57, 32, 10]).data.toList ++ (ByteArray.mk #[9, 10]).data.toList).length + (ByteArray.mk (spR 0 s).toArray).size ≤ maxLen ∧ ((txG gs i) ++ (ByteArray.mk #[32, 59, 32, 97, 32, 99, 111, 109, 109, 101, 110, 116, 58, 32, 115, 116, 97, 99, 107, 32, 57, 32, 10]).data.toList ++ (ByteArray.mk #[9, 10]).data.toList).length + (ByteArray.mk (spR 0 s).toArray).size ≤ 140737488355328) (by have := ZB.out; have e : (ByteArray.mk (spR 0 s).toArray).size = (spR 0 s).length := by { show (spR 0 s).toArray.size = _; simp }; unfold maxLen; simp only [List.length_append, e]; have e2 : (ByteArray.mk #[32, 59, 32, 97, 32, 99, 111, 109, 109, 101, 110, 116, 58, 32, 115, 116, 97, 99, 107, 32, 57, 32, 10]).data.toList.length = 23 := rfl; simp only [e2]; have e3 : (ByteArray.mk #[9, 10]).data.toList.length = 2 := rfl; simp only [e3]; omega)
            have BD5 := Lib.hid (p := ((txG gs i) ++ (ByteArray.mk #[32, 59, 32, 97, 32, 99, 111, 109, 109, 101, 110, 116, 58, 32, 115, 116, 97, 99, 107, 32, 57, 32, 10]).data.toList ++ (ByteArray.mk #[9, 10]).data.toList ++ (ByteArray.mk (spR 0 s).toArray).data.toList).length + 1 ≤ maxLen ∧ ((txG gs i) ++ (ByteArray.mk #[32, 59, 32, 97, 32, 99, 111, 109, 109, 101, 110, 116, 58, 32, 115, 116, 97, 99, 107, 32, 57, 32, 10]).data.toList ++ (ByteArray.mk #[9, 10]).data.toList ++ (ByteArray.mk (spR 0 s).toArray).data.toList).length + 1 ≤ 140737488355328) (by have := ZB.out; have e : (ByteArray.mk (spR 0 s).toArray).data.toList.length = (spR 0 s).length := by { show (spR 0 s).toArray.toList.length = _; simp }; unfold maxLen; simp only [List.length_append, e]; have e2 : (ByteArray.mk #[32, 59, 32, 97, 32, 99, 111, 109, 109, 101, 110, 116, 58, 32, 115, 116, 97, 99, 107, 32, 57, 32, 10]).data.toList.length = 23 := rfl; simp only [e2]; have e3 : (ByteArray.mk #[9, 10]).data.toList.length = 2 := rfl; simp only [e3]; omega)
            have heb : ((i : Int) + 1 == (n : Int)) = true := by simp; omega
            have H3 := Lib.hid h3
            have H5 := Lib.hid h5
            have HE := Lib.hid he
            clear h3 h5 he
            have TK1 : True := trivial
            go_wp2_with (first
              | (at_builtin; have qq := TK1; refine Lib.wpList_append_own_string _ rfl _ _ 37 9 rfl w3.heap.size 5 i0 Tryz.underlying37 Tryz.underlying9 hi hz0 hz1 hz2 _ _ _ rfl Ox.out (ByteArray.mk #[32, 59, 32, 97, 32, 99, 111, 109, 109, 101, 110, 116, 58, 32, 115, 116, 97, 99, 107, 32, 57, 32, 10]) rfl (BD1.out.1) (BD1.out.2) sx.out ?_; intro v1 W1 k1 k2 _; have O1 := Lib.hid (OwB.str k1); have B1 := Lib.hid (Bx.out.grown k2 sx.out (fun q e => (World.ownsRow.lt Ox.out q e).1)); have s1 := Lib.hid (Nat.le_trans sx.out k2.size); have cl11 := HCL.out _ B1.out; clear k1 k2 TK1; have TK2 : True := trivial)
              | (at_builtin; have qq := TK2; refine Lib.wpList_append_own_string _ rfl _ _ 37 9 rfl w3.heap.size 5 i0 Tryz.underlying37 Tryz.underlying9 hi hz0 hz1 hz2 _ _ _ rfl O1.out (ByteArray.mk #[9, 10]) rfl (BD2.out.1) (BD2.out.2) s1.out ?_; intro v2 W2 k1 k2 _; have O2 := Lib.hid (OwB.str k1); have B2 := Lib.hid (B1.out.grown k2 s1.out (fun q e => (World.ownsRow.lt O1.out q e).1)); have s2 := Lib.hid (Nat.le_trans s1.out k2.size); have cl12 := HCL.out _ B2.out; clear k1 k2 TK2; have TK3 : True := trivial)
              | (go_at_call 16; refine (KSP.out _).mono ?_; rintro e W3 ⟨rfl, hh⟩; have O3 := Lib.hid (show OwB W3 w3.heap.size _ _ from own_belQ O2.out hh); have B3 := Lib.hid (B2.out.trans (hh.mono s2.out)); have s3 := Lib.hid (Nat.le_trans s2.out hh.size); clear hh; have TK4 : True := trivial)
              | (at_builtin; have qq := TK4; refine Lib.wpList_append_own_string _ rfl _ _ 37 9 rfl w3.heap.size 5 i0 Tryz.underlying37 Tryz.underlying9 hi hz0 hz1 hz2 _ _ _ rfl O3.out (ByteArray.mk (spR 0 s).toArray) rfl (BD4.out.1) (BD4.out.2) s3.out ?_; intro v4 W4 k1 k2 _; obtain ⟨lq, hlq, oq⟩ : ∃ l, l = (txG gs i) ++ (ByteArray.mk #[32, 59, 32, 97, 32, 99, 111, 109, 109, 101, 110, 116, 58, 32, 115, 116, 97, 99, 107, 32, 57, 32, 10]).data.toList ++ (ByteArray.mk #[9, 10]).data.toList ++ (ByteArray.mk (spR 0 s).toArray).data.toList ∧ OwB W4 w3.heap.size v4 l := ⟨_, rfl, OwB.str k1⟩; have O4 := Lib.hid oq; have BDL := Lib.hid (p := lq.length + 1 ≤ maxLen ∧ lq.length + 1 ≤ 140737488355328) (by rw [hlq]; exact BD5.out); have HLQ := Lib.hid hlq; clear hlq oq; have B4 := Lib.hid (B3.out.grown k2 s3.out (fun q e => (World.ownsRow.lt O3.out q e).1)); have s4 := Lib.hid (Nat.le_trans s3.out k2.size); have cl14 := HCL.out _ B4.out; clear k1 k2 TK4; have TK5 : True := trivial)
              | (at_builtin; have qq := TK5; refine wpList_append_own_at _ rfl _ _ 37 rfl w3.heap.size 5 i0 _ 1 1 Tryz.underlying37 hi hz0 hz1 hz2 rfl (by decide) v4 _ _ rfl (World.ownsRow.alloc O4.out _) ⟨W4.heap.size, 0, none⟩ 1 1 [.int .u8 10] rfl rfl (cell_one_new W4 _ _) (by intro u hu; simp at hu; subst hu; rfl) (by have := BDL.out.1; omega) (by have := BDL.out.2; omega) (Nat.le_trans s4.out (by simp)) ?_; intro v5 W5 k1 k2 k3 k4; have O5 := Lib.hid (OwB.lf k1); have B5 := Lib.hid ((B4.out.alloc s4.out _).grown k2 (Nat.le_trans s4.out (by simp)) (fun q e => (World.ownsRow.lt O4.out q e).1)); clear k1 k2 k3 k4))
            go_roundw
            case rel => exact ⟨i + 1, _, by omega, rfl, by unfold tldG; rw [if_pos (by have := HE.out; omega), ← HE.out, TS2.out]; simp [H3.out, H5.out] <;> omega, by rw [TS2.out]; simp [H3.out, H5.out] <;> omega, by go_num, by show OwB _ _ _ _; rw [TS1.out, grpT_eq, KK.out]; have := O5.out; rw [HLQ.out] at this; simpa [cmL, tbL, H3.out, H5.out] using this, B5.out⟩
            case measure => simp [intOf]; omega
          · have BD1 := Lib.hid (p := ((txG gs i)).length + (ByteArray.mk #[32, 59, 32, 97, 32, 99, 111, 109, 109, 101, 110, 116, 58, 32, 115, 116, 97, 99, 107, 32, 57, 32, 10]).size ≤ maxLen ∧ ((txG gs i)).length + (ByteArray.mk #[32, 59, 32, 97, 32, 99, 111, 109, 109, 101, 110, 116, 58, 32, 115, 116, 97, 99, 107, 32, 57, 32, 10]).size ≤ 140737488355328) (by have := ZB.out; have e : (ByteArray.mk #[32, 59, 32, 97, 32, 99, 111, 109, 109, 101, 110, 116, 58, 32, 115, 116, 97, 99, 107, 32, 57, 32, 10]).size = 23 := rfl; unfold maxLen; simp only [List.length_append, e]; omega)
            have BD2 := Lib.hid (p := ((txG gs i) ++ (ByteArray.mk #[32, 59, 32, 97, 32, 99, 111, 109, 109, 101, 110, 116, 58, 32, 115, 116, 97, 99, 107, 32, 57, 32, 10]).data.toList).length + (ByteArray.mk #[9, 10]).size ≤ maxLen ∧ ((txG gs i) ++ (ByteArray.mk #[32, 59, 32, 97, 32, 99, 111, 109, 109, 101, 110, 116, 58, 32, 115, 116, 97, 99, 107, 32, 57, 32, 10]).data.toList).length + (ByteArray.mk #[9, 10]).size ≤ 140737488355328) (by have := ZB.out; have e : (ByteArray.mk #[9, 10]).size = 2 := rfl; unfold maxLen; simp only [List.length_append, e]; have e2 : (ByteArray.mk #[32, 59, 32, 97, 32, 99, 111, 109, 109, 101, 110, 116, 58, 32, 115, 116, 97, 99, 107, 32, 57, 32, 10]).data.toList.length = 23 := rfl; simp only [e2]; omega)
            have BD4 := Lib.hid (p := ((txG gs i) ++ (ByteArray.mk #[32, 59, 32, 97, 32, 99, 111, 109, 109, 101, 110, 116, 58, 32, 115, 116, 97, 99, 107, 32, 57, 32, 10]).data.toList ++ (ByteArray.mk #[9, 10]).data.toList).length + (ByteArray.mk (spR 0 s).toArray).size ≤ maxLen ∧ ((txG gs i) ++ (ByteArray.mk #[32, 59, 32, 97, 32, 99, 111, 109, 109, 101, 110, 116, 58, 32, 115, 116, 97, 99, 107, 32, 57, 32, 10]).data.toList ++ (ByteArray.mk #[9, 10]).data.toList).length + (ByteArray.mk (spR 0 s).toArray).size ≤ 140737488355328) (by have := ZB.out; have e : (ByteArray.mk (spR 0 s).toArray).size = (spR 0 s).length := by { show (spR 0 s).toArray.size = _; simp }; unfold maxLen; simp only [List.length_append, e]; have e2 : (ByteArray.mk #[32, 59, 32, 97, 32, 99, 111, 109, 109, 101, 110, 116, 58, 32, 115, 116, 97, 99, 107, 32, 57, 32, 10]).data.toList.length = 23 := rfl; simp only [e2]; have e3 : (ByteArray.mk #[9, 10]).data.toList.length = 2 := rfl; simp only [e3]; omega)
            have BD5 := Lib.hid (p := ((txG gs i) ++ (ByteArray.mk #[32, 59, 32, 97, 32, 99, 111, 109, 109, 101, 110, 116, 58, 32, 115, 116, 97, 99, 107, 32, 57, 32, 10]).data.toList ++ (ByteArray.mk #[9, 10]).data.toList ++ (ByteArray.mk (spR 0 s).toArray).data.toList).length + 1 ≤ maxLen ∧ ((txG gs i) ++ (ByteArray.mk #[32, 59, 32, 97, 32, 99, 111, 109, 109, 101, 110, 116, 58, 32, 115, 116, 97, 99, 107, 32, 57, 32, 10]).data.toList ++ (ByteArray.mk #[9, 10]).data.toList ++ (ByteArray.mk (spR 0 s).toArray).data.toList).length + 1 ≤ 140737488355328) (by have := ZB.out; have e : (ByteArray.mk (spR 0 s).toArray).data.toList.length = (spR 0 s).length := by { show (spR 0 s).toArray.toList.length = _; simp }; unfold maxLen; simp only [List.length_append, e]; have e2 : (ByteArray.mk #[32, 59, 32, 97, 32, 99, 111, 109, 109, 101, 110, 116, 58, 32, 115, 116, 97, 99, 107, 32, 57, 32, 10]).data.toList.length = 23 := rfl; simp only [e2]; have e3 : (ByteArray.mk #[9, 10]).data.toList.length = 2 := rfl; simp only [e3]; omega)
            have heb : ((i : Int) + 1 == (n : Int)) = false := by simp; omega
            have H3 := Lib.hid h3
            have H5 := Lib.hid h5
            have HE := Lib.hid he
            clear h3 h5 he
            have TK1 : True := trivial
            go_wp2_with (first
              | (at_builtin; have qq := TK1; refine Lib.wpList_append_own_string _ rfl _ _ 37 9 rfl w3.heap.size 5 i0 Tryz.underlying37 Tryz.underlying9 hi hz0 hz1 hz2 _ _ _ rfl Ox.out (ByteArray.mk #[32, 59, 32, 97, 32, 99, 111, 109, 109, 101, 110, 116, 58, 32, 115, 116, 97, 99, 107, 32, 57, 32, 10]) rfl (BD1.out.1) (BD1.out.2) sx.out ?_; intro v1 W1 k1 k2 _; have O1 := Lib.hid (OwB.str k1); have B1 := Lib.hid (Bx.out.grown k2 sx.out (fun q e => (World.ownsRow.lt Ox.out q e).1)); have s1 := Lib.hid (Nat.le_trans sx.out k2.size); have cl11 := HCL.out _ B1.out; clear k1 k2 TK1; have TK2 : True := trivial)
              | (at_builtin; have qq := TK2; refine Lib.wpList_append_own_string _ rfl _ _ 37 9 rfl w3.heap.size 5 i0 Tryz.underlying37 Tryz.underlying9 hi hz0 hz1 hz2 _ _ _ rfl O1.out (ByteArray.mk #[9, 10]) rfl (BD2.out.1) (BD2.out.2) s1.out ?_; intro v2 W2 k1 k2 _; have O2 := Lib.hid (OwB.str k1); have B2 := Lib.hid (B1.out.grown k2 s1.out (fun q e => (World.ownsRow.lt O1.out q e).1)); have s2 := Lib.hid (Nat.le_trans s1.out k2.size); have cl12 := HCL.out _ B2.out; clear k1 k2 TK2; have TK3 : True := trivial)
              | (go_at_call 16; refine (KSP.out _).mono ?_; rintro e W3 ⟨rfl, hh⟩; have O3 := Lib.hid (show OwB W3 w3.heap.size _ _ from own_belQ O2.out hh); have B3 := Lib.hid (B2.out.trans (hh.mono s2.out)); have s3 := Lib.hid (Nat.le_trans s2.out hh.size); clear hh; have TK4 : True := trivial)
              | (at_builtin; have qq := TK4; refine Lib.wpList_append_own_string _ rfl _ _ 37 9 rfl w3.heap.size 5 i0 Tryz.underlying37 Tryz.underlying9 hi hz0 hz1 hz2 _ _ _ rfl O3.out (ByteArray.mk (spR 0 s).toArray) rfl (BD4.out.1) (BD4.out.2) s3.out ?_; intro v4 W4 k1 k2 _; obtain ⟨lq, hlq, oq⟩ : ∃ l, l = (txG gs i) ++ (ByteArray.mk #[32, 59, 32, 97, 32, 99, 111, 109, 109, 101, 110, 116, 58, 32, 115, 116, 97, 99, 107, 32, 57, 32, 10]).data.toList ++ (ByteArray.mk #[9, 10]).data.toList ++ (ByteArray.mk (spR 0 s).toArray).data.toList ∧ OwB W4 w3.heap.size v4 l := ⟨_, rfl, OwB.str k1⟩; have O4 := Lib.hid oq; have BDL := Lib.hid (p := lq.length + 1 ≤ maxLen ∧ lq.length + 1 ≤ 140737488355328) (by rw [hlq]; exact BD5.out); have HLQ := Lib.hid hlq; clear hlq oq; have B4 := Lib.hid (B3.out.grown k2 s3.out (fun q e => (World.ownsRow.lt O3.out q e).1)); have s4 := Lib.hid (Nat.le_trans s3.out k2.size); have cl14 := HCL.out _ B4.out; clear k1 k2 TK4; have TK5 : True := trivial)
              | (at_builtin; have qq := TK5; refine wpList_append_own_at _ rfl _ _ 37 rfl w3.heap.size 5 i0 _ 1 1 Tryz.underlying37 hi hz0 hz1 hz2 rfl (by decide) v4 _ _ rfl (World.ownsRow.alloc O4.out _) ⟨W4.heap.size, 0, none⟩ 1 1 [.int .u8 10] rfl rfl (cell_one_new W4 _ _) (by intro u hu; simp at hu; subst hu; rfl) (by have := BDL.out.1; omega) (by have := BDL.out.2; omega) (Nat.le_trans s4.out (by simp)) ?_; intro v5 W5 k1 k2 k3 k4; have O5 := Lib.hid (OwB.lf k1); have B5 := Lib.hid ((B4.out.alloc s4.out _).grown k2 (Nat.le_trans s4.out (by simp)) (fun q e => (World.ownsRow.lt O4.out q e).1)); clear k1 k2 k3 k4))
            go_roundw
            case rel => exact ⟨i + 1, _, by omega, rfl, by have := TD1.out HE.out; rw [this], by rw [TS2.out]; simp [H3.out, H5.out] <;> omega, by go_num, by show OwB _ _ _ _; rw [TS1.out, grpT_eq, KK.out]; have := O5.out; rw [HLQ.out] at this; simpa [cmL, tbL, H3.out, H5.out] using this, B5.out⟩
            case measure => simp [intOf]; omega
        · obtain ⟨hx, ho, rfl, hxl, hxc⟩ := HW3.out.2.2.resolve_left (by omega)
          have hm : i % hl < hl := Nat.mod_lt _ h0
          have hc := (HB.out.cell (p := ⟨hx, ho + i % hl, none⟩) hxl).trans (hxc _ hm)
          have hlp : (0 : Int) < (hl : Int) := by omega
          obtain ⟨z, hzd⟩ : ∃ z, how.getD (i % hl) 0 = z := ⟨_, rfl⟩
          have hzr : -9223372036854775808 ≤ z ∧ z ≤ 9223372036854775807 := by
            have hm2 : i % hl < how.length := by rw [HW.out.1]; exact hm
            have := HW.out.2.1 how[i % hl] (List.getElem_mem hm2)
            rw [← hzd]
            rw [show how.getD (i % hl) 0 = how[i % hl] by simp [List.getD, hm2]]
            simpa [i64, Lit.wf, IntKind.min, IntKind.max, IntKind.bits, IntKind.signed] using this
          rw [hzd] at hneg hc
          obtain ⟨K, hK⟩ : ∃ K, kOf how i = K := ⟨_, rfl⟩
          have eK : (K : Int) = -(z + 1) := by
            rw [← hK]
            unfold kOf
            rw [if_neg (by intro q; have := HW.out.1; rw [q] at this; simp at this; omega), HW.out.1, hzd, if_pos hneg]
            omega
          have eK2 : -1 + -z = (K : Int) := by omega
          have eK3 : -(z + 1) = (K : Int) := by omega
          have w1 : IntKind.i64.wrap (z + 1) = z + 1 := by simp [IntKind.wrap, IntKind.bits, IntKind.signed]; omega
          have w2' : IntKind.i64.wrap (K : Int) = (K : Int) := by simp [IntKind.wrap, IntKind.bits, IntKind.signed]; omega
          have HKb := Lib.hid (p := K < 9223372036854775808) (by omega)
          clear eK
          have KK := Lib.hid hK
          have HK := Lib.hid HKb.out
          clear hK hxc hzd
          go_upto_region 16 with (fail)
          clear hc eK2 eK3 w1 w2' hzr hneg
          have ZB := Lib.hid (p := (txG gs i).length + 26 + (spR K s).length ≤ 9000000) (by have := TG0.out; have := spR_len K s; omega)
          have KSP := Lib.hid (p := ∀ W', Calls Tryz.prog 16 #[.string s, .int .i64 (K : Int)] W' fun e w' => e = .returned (.string ⟨(spR K s).toArray⟩) ∧ Below W'.heap.size W' w') (fun W' => spread_any s K HK.out (by omega) W')
          have TD1 := Lib.hid (p := ¬ i + 1 = n → tldG gs n (i + 1) = tldG gs n i) (fun h => by
            unfold tldG
            by_cases q : 0 < n ∧ n ≤ i
            · rw [if_pos q, if_pos ⟨q.1, by omega⟩]
            · rw [if_neg q, if_neg (fun z => q ⟨z.1, by omega⟩)])
          have Ox := Lib.hid HB1.out
          have Bx := Lib.hid HB.out
          have sx := Lib.hid HB.out.size
          rw [KK.out] at TS2
          clear HB1 HB TG1 TG0 KH KP KL1 HW HW3
          by_cases h3 : K % 3 = 0
          · by_cases h5 : K % 5 = 0
            · by_cases he : i + 1 = n
              · have BD1 := Lib.hid (p := ((txG gs i)).length + (ByteArray.mk #[32, 59, 32, 97, 32, 99, 111, 109, 109, 101, 110, 116, 58, 32, 115, 116, 97, 99, 107, 32, 57, 32, 10]).size ≤ maxLen ∧ ((txG gs i)).length + (ByteArray.mk #[32, 59, 32, 97, 32, 99, 111, 109, 109, 101, 110, 116, 58, 32, 115, 116, 97, 99, 107, 32, 57, 32, 10]).size ≤ 140737488355328) (by have := ZB.out; have e : (ByteArray.mk #[32, 59, 32, 97, 32, 99, 111, 109, 109, 101, 110, 116, 58, 32, 115, 116, 97, 99, 107, 32, 57, 32, 10]).size = 23 := rfl; unfold maxLen; simp only [List.length_append, e]; omega)
                have BD2 := Lib.hid (p := ((txG gs i) ++ (ByteArray.mk #[32, 59, 32, 97, 32, 99, 111, 109, 109, 101, 110, 116, 58, 32, 115, 116, 97, 99, 107, 32, 57, 32, 10]).data.toList).length + (ByteArray.mk #[9, 10]).size ≤ maxLen ∧ ((txG gs i) ++ (ByteArray.mk #[32, 59, 32, 97, 32, 99, 111, 109, 109, 101, 110, 116, 58, 32, 115, 116, 97, 99, 107, 32, 57, 32, 10]).data.toList).length + (ByteArray.mk #[9, 10]).size ≤ 140737488355328) (by have := ZB.out; have e : (ByteArray.mk #[9, 10]).size = 2 := rfl; unfold maxLen; simp only [List.length_append, e]; have e2 : (ByteArray.mk #[32, 59, 32, 97, 32, 99, 111, 109, 109, 101, 110, 116, 58, 32, 115, 116, 97, 99, 107, 32, 57, 32, 10]).data.toList.length = 23 := rfl; simp only [e2]; omega)
                have BD4 := Lib.hid (p := ((txG gs i) ++ (ByteArray.mk #[32, 59, 32, 97, 32, 99, 111, 109, 109, 101, 110, 116, 58, 32, 115, 116, 97, 99, 107, 32, 57, 32, 10]).data.toList ++ (ByteArray.mk #[9, 10]).data.toList).length + (ByteArray.mk (spR K s).toArray).size ≤ maxLen ∧ ((txG gs i) ++ (ByteArray.mk #[32, 59, 32, 97, 32, 99, 111, 109, 109, 101, 110, 116, 58, 32, 115, 116, 97, 99, 107, 32, 57, 32, 10]).data.toList ++ (ByteArray.mk #[9, 10]).data.toList).length + (ByteArray.mk (spR K s).toArray).size ≤ 140737488355328) (by have := ZB.out; have e : (ByteArray.mk (spR K s).toArray).size = (spR K s).length := by { show (spR K s).toArray.size = _; simp }; unfold maxLen; simp only [List.length_append, e]; have e2 : (ByteArray.mk #[32, 59, 32, 97, 32, 99, 111, 109, 109, 101, 110, 116, 58, 32, 115, 116, 97, 99, 107, 32, 57, 32, 10]).data.toList.length = 23 := rfl; simp only [e2]; have e3 : (ByteArray.mk #[9, 10]).data.toList.length = 2 := rfl; simp only [e3]; omega)
                have BD5 := Lib.hid (p := ((txG gs i) ++ (ByteArray.mk #[32, 59, 32, 97, 32, 99, 111, 109, 109, 101, 110, 116, 58, 32, 115, 116, 97, 99, 107, 32, 57, 32, 10]).data.toList ++ (ByteArray.mk #[9, 10]).data.toList ++ (ByteArray.mk (spR K s).toArray).data.toList).length + 1 ≤ maxLen ∧ ((txG gs i) ++ (ByteArray.mk #[32, 59, 32, 97, 32, 99, 111, 109, 109, 101, 110, 116, 58, 32, 115, 116, 97, 99, 107, 32, 57, 32, 10]).data.toList ++ (ByteArray.mk #[9, 10]).data.toList ++ (ByteArray.mk (spR K s).toArray).data.toList).length + 1 ≤ 140737488355328) (by have := ZB.out; have e : (ByteArray.mk (spR K s).toArray).data.toList.length = (spR K s).length := by { show (spR K s).toArray.toList.length = _; simp }; unfold maxLen; simp only [List.length_append, e]; have e2 : (ByteArray.mk #[32, 59, 32, 97, 32, 99, 111, 109, 109, 101, 110, 116, 58, 32, 115, 116, 97, 99, 107, 32, 57, 32, 10]).data.toList.length = 23 := rfl; simp only [e2]; have e3 : (ByteArray.mk #[9, 10]).data.toList.length = 2 := rfl; simp only [e3]; omega)
                have h3b : ((K : Int) % 3 == 0) = true := by simp; omega
                have h5b : ((K : Int) % 5 == 0) = true := by simp; omega
                have heb : ((i : Int) + 1 == (n : Int)) = true := by simp; omega
                have H3 := Lib.hid h3
                have H5 := Lib.hid h5
                have HE := Lib.hid he
                clear h3 h5 he
                have TK1 : True := trivial
                go_wp2_with (first
                  | (at_builtin; have qq := TK1; refine Lib.wpList_append_own_string _ rfl _ _ 37 9 rfl w3.heap.size 5 i0 Tryz.underlying37 Tryz.underlying9 hi hz0 hz1 hz2 _ _ _ rfl Ox.out (ByteArray.mk #[32, 59, 32, 97, 32, 99, 111, 109, 109, 101, 110, 116, 58, 32, 115, 116, 97, 99, 107, 32, 57, 32, 10]) rfl (BD1.out.1) (BD1.out.2) sx.out ?_; intro v1 W1 k1 k2 _; have O1 := Lib.hid (OwB.str k1); have B1 := Lib.hid (Bx.out.grown k2 sx.out (fun q e => (World.ownsRow.lt Ox.out q e).1)); have s1 := Lib.hid (Nat.le_trans sx.out k2.size); have cl11 := HCL.out _ B1.out; clear k1 k2 TK1; have TK2 : True := trivial)
                  | (at_builtin; have qq := TK2; refine Lib.wpList_append_own_string _ rfl _ _ 37 9 rfl w3.heap.size 5 i0 Tryz.underlying37 Tryz.underlying9 hi hz0 hz1 hz2 _ _ _ rfl O1.out (ByteArray.mk #[9, 10]) rfl (BD2.out.1) (BD2.out.2) s1.out ?_; intro v2 W2 k1 k2 _; have O2 := Lib.hid (OwB.str k1); have B2 := Lib.hid (B1.out.grown k2 s1.out (fun q e => (World.ownsRow.lt O1.out q e).1)); have s2 := Lib.hid (Nat.le_trans s1.out k2.size); have cl12 := HCL.out _ B2.out; clear k1 k2 TK2; have TK3 : True := trivial)
                  | (go_at_call 16; refine (KSP.out _).mono ?_; rintro e W3 ⟨rfl, hh⟩; have O3 := Lib.hid (show OwB W3 w3.heap.size _ _ from own_belQ O2.out hh); have B3 := Lib.hid (B2.out.trans (hh.mono s2.out)); have s3 := Lib.hid (Nat.le_trans s2.out hh.size); clear hh; have TK4 : True := trivial)
                  | (at_builtin; have qq := TK4; refine Lib.wpList_append_own_string _ rfl _ _ 37 9 rfl w3.heap.size 5 i0 Tryz.underlying37 Tryz.underlying9 hi hz0 hz1 hz2 _ _ _ rfl O3.out (ByteArray.mk (spR K s).toArray) rfl (BD4.out.1) (BD4.out.2) s3.out ?_; intro v4 W4 k1 k2 _; obtain ⟨lq, hlq, oq⟩ : ∃ l, l = (txG gs i) ++ (ByteArray.mk #[32, 59, 32, 97, 32, 99, 111, 109, 109, 101, 110, 116, 58, 32, 115, 116, 97, 99, 107, 32, 57, 32, 10]).data.toList ++ (ByteArray.mk #[9, 10]).data.toList ++ (ByteArray.mk (spR K s).toArray).data.toList ∧ OwB W4 w3.heap.size v4 l := ⟨_, rfl, OwB.str k1⟩; have O4 := Lib.hid oq; have BDL := Lib.hid (p := lq.length + 1 ≤ maxLen ∧ lq.length + 1 ≤ 140737488355328) (by rw [hlq]; exact BD5.out); have HLQ := Lib.hid hlq; clear hlq oq; have B4 := Lib.hid (B3.out.grown k2 s3.out (fun q e => (World.ownsRow.lt O3.out q e).1)); have s4 := Lib.hid (Nat.le_trans s3.out k2.size); have cl14 := HCL.out _ B4.out; clear k1 k2 TK4; have TK5 : True := trivial)
                  | (at_builtin; have qq := TK5; refine wpList_append_own_at _ rfl _ _ 37 rfl w3.heap.size 5 i0 _ 1 1 Tryz.underlying37 hi hz0 hz1 hz2 rfl (by decide) v4 _ _ rfl (World.ownsRow.alloc O4.out _) ⟨W4.heap.size, 0, none⟩ 1 1 [.int .u8 10] rfl rfl (cell_one_new W4 _ _) (by intro u hu; simp at hu; subst hu; rfl) (by have := BDL.out.1; omega) (by have := BDL.out.2; omega) (Nat.le_trans s4.out (by simp)) ?_; intro v5 W5 k1 k2 k3 k4; have O5 := Lib.hid (OwB.lf k1); have B5 := Lib.hid ((B4.out.alloc s4.out _).grown k2 (Nat.le_trans s4.out (by simp)) (fun q e => (World.ownsRow.lt O4.out q e).1)); clear k1 k2 k3 k4))
                go_roundw
                case rel => exact ⟨i + 1, _, by omega, rfl, by unfold tldG; rw [if_pos (by have := HE.out; omega), ← HE.out, TS2.out]; simp [H3.out, H5.out] <;> omega, by rw [TS2.out]; simp [H3.out, H5.out] <;> omega, by go_num, by show OwB _ _ _ _; rw [TS1.out, grpT_eq, KK.out]; have := O5.out; rw [HLQ.out] at this; simpa [cmL, tbL, H3.out, H5.out] using this, B5.out⟩
                case measure => simp [intOf]; omega
              · have BD1 := Lib.hid (p := ((txG gs i)).length + (ByteArray.mk #[32, 59, 32, 97, 32, 99, 111, 109, 109, 101, 110, 116, 58, 32, 115, 116, 97, 99, 107, 32, 57, 32, 10]).size ≤ maxLen ∧ ((txG gs i)).length + (ByteArray.mk #[32, 59, 32, 97, 32, 99, 111, 109, 109, 101, 110, 116, 58, 32, 115, 116, 97, 99, 107, 32, 57, 32, 10]).size ≤ 140737488355328) (by have := ZB.out; have e : (ByteArray.mk #[32, 59, 32, 97, 32, 99, 111, 109, 109, 101, 110, 116, 58, 32, 115, 116, 97, 99, 107, 32, 57, 32, 10]).size = 23 := rfl; unfold maxLen; simp only [List.length_append, e]; omega)
                have BD2 := Lib.hid (p := ((txG gs i) ++ (ByteArray.mk #[32, 59, 32, 97, 32, 99, 111, 109, 109, 101, 110, 116, 58, 32, 115, 116, 97, 99, 107, 32, 57, 32, 10]).data.toList).length + (ByteArray.mk #[9, 10]).size ≤ maxLen ∧ ((txG gs i) ++ (ByteArray.mk #[32, 59, 32, 97, 32, 99, 111, 109, 109, 101, 110, 116, 58, 32, 115, 116, 97, 99, 107, 32, 57, 32, 10]).data.toList).length + (ByteArray.mk #[9, 10]).size ≤ 140737488355328) (by have := ZB.out; have e : (ByteArray.mk #[9, 10]).size = 2 := rfl; unfold maxLen; simp only [List.length_append, e]; have e2 : (ByteArray.mk #[32, 59, 32, 97, 32, 99, 111, 109, 109, 101, 110, 116, 58, 32, 115, 116, 97, 99, 107, 32, 57, 32, 10]).data.toList.length = 23 := rfl; simp only [e2]; omega)
                have BD4 := Lib.hid (p := ((txG gs i) ++ (ByteArray.mk #[32, 59, 32, 97, 32, 99, 111, 109, 109, 101, 110, 116, 58, 32, 115, 116, 97, 99, 107, 32, 57, 32, 10]).data.toList ++ (ByteArray.mk #[9, 10]).data.toList).length + (ByteArray.mk (spR K s).toArray).size ≤ maxLen ∧ ((txG gs i) ++ (ByteArray.mk #[32, 59, 32, 97, 32, 99, 111, 109, 109, 101, 110, 116, 58, 32, 115, 116, 97, 99, 107, 32, 57, 32, 10]).data.toList ++ (ByteArray.mk #[9, 10]).data.toList).length + (ByteArray.mk (spR K s).toArray).size ≤ 140737488355328) (by have := ZB.out; have e : (ByteArray.mk (spR K s).toArray).size = (spR K s).length := by { show (spR K s).toArray.size = _; simp }; unfold maxLen; simp only [List.length_append, e]; have e2 : (ByteArray.mk #[32, 59, 32, 97, 32, 99, 111, 109, 109, 101, 110, 116, 58, 32, 115, 116, 97, 99, 107, 32, 57, 32, 10]).data.toList.length = 23 := rfl; simp only [e2]; have e3 : (ByteArray.mk #[9, 10]).data.toList.length = 2 := rfl; simp only [e3]; omega)
                have BD5 := Lib.hid (p := ((txG gs i) ++ (ByteArray.mk #[32, 59, 32, 97, 32, 99, 111, 109, 109, 101, 110, 116, 58, 32, 115, 116, 97, 99, 107, 32, 57, 32, 10]).data.toList ++ (ByteArray.mk #[9, 10]).data.toList ++ (ByteArray.mk (spR K s).toArray).data.toList).length + 1 ≤ maxLen ∧ ((txG gs i) ++ (ByteArray.mk #[32, 59, 32, 97, 32, 99, 111, 109, 109, 101, 110, 116, 58, 32, 115, 116, 97, 99, 107, 32, 57, 32, 10]).data.toList ++ (ByteArray.mk #[9, 10]).data.toList ++ (ByteArray.mk (spR K s).toArray).data.toList).length + 1 ≤ 140737488355328) (by have := ZB.out; have e : (ByteArray.mk (spR K s).toArray).data.toList.length = (spR K s).length := by { show (spR K s).toArray.toList.length = _; simp }; unfold maxLen; simp only [List.length_append, e]; have e2 : (ByteArray.mk #[32, 59, 32, 97, 32, 99, 111, 109, 109, 101, 110, 116, 58, 32, 115, 116, 97, 99, 107, 32, 57, 32, 10]).data.toList.length = 23 := rfl; simp only [e2]; have e3 : (ByteArray.mk #[9, 10]).data.toList.length = 2 := rfl; simp only [e3]; omega)
                have h3b : ((K : Int) % 3 == 0) = true := by simp; omega
                have h5b : ((K : Int) % 5 == 0) = true := by simp; omega
                have heb : ((i : Int) + 1 == (n : Int)) = false := by simp; omega
                have H3 := Lib.hid h3
                have H5 := Lib.hid h5
                have HE := Lib.hid he
                clear h3 h5 he
                have TK1 : True := trivial
                go_wp2_with (first
                  | (at_builtin; have qq := TK1; refine Lib.wpList_append_own_string _ rfl _ _ 37 9 rfl w3.heap.size 5 i0 Tryz.underlying37 Tryz.underlying9 hi hz0 hz1 hz2 _ _ _ rfl Ox.out (ByteArray.mk #[32, 59, 32, 97, 32, 99, 111, 109, 109, 101, 110, 116, 58, 32, 115, 116, 97, 99, 107, 32, 57, 32, 10]) rfl (BD1.out.1) (BD1.out.2) sx.out ?_; intro v1 W1 k1 k2 _; have O1 := Lib.hid (OwB.str k1); have B1 := Lib.hid (Bx.out.grown k2 sx.out (fun q e => (World.ownsRow.lt Ox.out q e).1)); have s1 := Lib.hid (Nat.le_trans sx.out k2.size); have cl11 := HCL.out _ B1.out; clear k1 k2 TK1; have TK2 : True := trivial)
                  | (at_builtin; have qq := TK2; refine Lib.wpList_append_own_string _ rfl _ _ 37 9 rfl w3.heap.size 5 i0 Tryz.underlying37 Tryz.underlying9 hi hz0 hz1 hz2 _ _ _ rfl O1.out (ByteArray.mk #[9, 10]) rfl (BD2.out.1) (BD2.out.2) s1.out ?_; intro v2 W2 k1 k2 _; have O2 := Lib.hid (OwB.str k1); have B2 := Lib.hid (B1.out.grown k2 s1.out (fun q e => (World.ownsRow.lt O1.out q e).1)); have s2 := Lib.hid (Nat.le_trans s1.out k2.size); have cl12 := HCL.out _ B2.out; clear k1 k2 TK2; have TK3 : True := trivial)
                  | (go_at_call 16; refine (KSP.out _).mono ?_; rintro e W3 ⟨rfl, hh⟩; have O3 := Lib.hid (show OwB W3 w3.heap.size _ _ from own_belQ O2.out hh); have B3 := Lib.hid (B2.out.trans (hh.mono s2.out)); have s3 := Lib.hid (Nat.le_trans s2.out hh.size); clear hh; have TK4 : True := trivial)
                  | (at_builtin; have qq := TK4; refine Lib.wpList_append_own_string _ rfl _ _ 37 9 rfl w3.heap.size 5 i0 Tryz.underlying37 Tryz.underlying9 hi hz0 hz1 hz2 _ _ _ rfl O3.out (ByteArray.mk (spR K s).toArray) rfl (BD4.out.1) (BD4.out.2) s3.out ?_; intro v4 W4 k1 k2 _; obtain ⟨lq, hlq, oq⟩ : ∃ l, l = (txG gs i) ++ (ByteArray.mk #[32, 59, 32, 97, 32, 99, 111, 109, 109, 101, 110, 116, 58, 32, 115, 116, 97, 99, 107, 32, 57, 32, 10]).data.toList ++ (ByteArray.mk #[9, 10]).data.toList ++ (ByteArray.mk (spR K s).toArray).data.toList ∧ OwB W4 w3.heap.size v4 l := ⟨_, rfl, OwB.str k1⟩; have O4 := Lib.hid oq; have BDL := Lib.hid (p := lq.length + 1 ≤ maxLen ∧ lq.length + 1 ≤ 140737488355328) (by rw [hlq]; exact BD5.out); have HLQ := Lib.hid hlq; clear hlq oq; have B4 := Lib.hid (B3.out.grown k2 s3.out (fun q e => (World.ownsRow.lt O3.out q e).1)); have s4 := Lib.hid (Nat.le_trans s3.out k2.size); have cl14 := HCL.out _ B4.out; clear k1 k2 TK4; have TK5 : True := trivial)
                  | (at_builtin; have qq := TK5; refine wpList_append_own_at _ rfl _ _ 37 rfl w3.heap.size 5 i0 _ 1 1 Tryz.underlying37 hi hz0 hz1 hz2 rfl (by decide) v4 _ _ rfl (World.ownsRow.alloc O4.out _) ⟨W4.heap.size, 0, none⟩ 1 1 [.int .u8 10] rfl rfl (cell_one_new W4 _ _) (by intro u hu; simp at hu; subst hu; rfl) (by have := BDL.out.1; omega) (by have := BDL.out.2; omega) (Nat.le_trans s4.out (by simp)) ?_; intro v5 W5 k1 k2 k3 k4; have O5 := Lib.hid (OwB.lf k1); have B5 := Lib.hid ((B4.out.alloc s4.out _).grown k2 (Nat.le_trans s4.out (by simp)) (fun q e => (World.ownsRow.lt O4.out q e).1)); clear k1 k2 k3 k4))
                go_roundw
                case rel => exact ⟨i + 1, _, by omega, rfl, by have := TD1.out HE.out; rw [this], by rw [TS2.out]; simp [H3.out, H5.out] <;> omega, by go_num, by show OwB _ _ _ _; rw [TS1.out, grpT_eq, KK.out]; have := O5.out; rw [HLQ.out] at this; simpa [cmL, tbL, H3.out, H5.out] using this, B5.out⟩
                case measure => simp [intOf]; omega
            · by_cases he : i + 1 = n
              · have BD1 := Lib.hid (p := ((txG gs i)).length + (ByteArray.mk #[32, 59, 32, 97, 32, 99, 111, 109, 109, 101, 110, 116, 58, 32, 115, 116, 97, 99, 107, 32, 57, 32, 10]).size ≤ maxLen ∧ ((txG gs i)).length + (ByteArray.mk #[32, 59, 32, 97, 32, 99, 111, 109, 109, 101, 110, 116, 58, 32, 115, 116, 97, 99, 107, 32, 57, 32, 10]).size ≤ 140737488355328) (by have := ZB.out; have e : (ByteArray.mk #[32, 59, 32, 97, 32, 99, 111, 109, 109, 101, 110, 116, 58, 32, 115, 116, 97, 99, 107, 32, 57, 32, 10]).size = 23 := rfl; unfold maxLen; simp only [List.length_append, e]; omega)
                have BD3 := Lib.hid (p := ((txG gs i) ++ (ByteArray.mk #[32, 59, 32, 97, 32, 99, 111, 109, 109, 101, 110, 116, 58, 32, 115, 116, 97, 99, 107, 32, 57, 32, 10]).data.toList).length + (ByteArray.mk (spR K s).toArray).size ≤ maxLen ∧ ((txG gs i) ++ (ByteArray.mk #[32, 59, 32, 97, 32, 99, 111, 109, 109, 101, 110, 116, 58, 32, 115, 116, 97, 99, 107, 32, 57, 32, 10]).data.toList).length + (ByteArray.mk (spR K s).toArray).size ≤ 140737488355328) (by have := ZB.out; have e : (ByteArray.mk (spR K s).toArray).size = (spR K s).length := by { show (spR K s).toArray.size = _; simp }; unfold maxLen; simp only [List.length_append, e]; have e2 : (ByteArray.mk #[32, 59, 32, 97, 32, 99, 111, 109, 109, 101, 110, 116, 58, 32, 115, 116, 97, 99, 107, 32, 57, 32, 10]).data.toList.length = 23 := rfl; simp only [e2]; omega)
                have BD4 := Lib.hid (p := ((txG gs i) ++ (ByteArray.mk #[32, 59, 32, 97, 32, 99, 111, 109, 109, 101, 110, 116, 58, 32, 115, 116, 97, 99, 107, 32, 57, 32, 10]).data.toList ++ (ByteArray.mk (spR K s).toArray).data.toList).length + 1 ≤ maxLen ∧ ((txG gs i) ++ (ByteArray.mk #[32, 59, 32, 97, 32, 99, 111, 109, 109, 101, 110, 116, 58, 32, 115, 116, 97, 99, 107, 32, 57, 32, 10]).data.toList ++ (ByteArray.mk (spR K s).toArray).data.toList).length + 1 ≤ 140737488355328) (by have := ZB.out; have e : (ByteArray.mk (spR K s).toArray).data.toList.length = (spR K s).length := by { show (spR K s).toArray.toList.length = _; simp }; unfold maxLen; simp only [List.length_append, e]; have e2 : (ByteArray.mk #[32, 59, 32, 97, 32, 99, 111, 109, 109, 101, 110, 116, 58, 32, 115, 116, 97, 99, 107, 32, 57, 32, 10]).data.toList.length = 23 := rfl; simp only [e2]; omega)
                have h3b : ((K : Int) % 3 == 0) = true := by simp; omega
                have h5b : ((K : Int) % 5 == 0) = false := by simp; omega
                have heb : ((i : Int) + 1 == (n : Int)) = true := by simp; omega
                have H3 := Lib.hid h3
                have H5 := Lib.hid h5
                have HE := Lib.hid he
                clear h3 h5 he
                have TK1 : True := trivial
                go_wp2_with (first
                  | (at_builtin; have qq := TK1; refine Lib.wpList_append_own_string _ rfl _ _ 37 9 rfl w3.heap.size 5 i0 Tryz.underlying37 Tryz.underlying9 hi hz0 hz1 hz2 _ _ _ rfl Ox.out (ByteArray.mk #[32, 59, 32, 97, 32, 99, 111, 109, 109, 101, 110, 116, 58, 32, 115, 116, 97, 99, 107, 32, 57, 32, 10]) rfl (BD1.out.1) (BD1.out.2) sx.out ?_; intro v1 W1 k1 k2 _; have O1 := Lib.hid (OwB.str k1); have B1 := Lib.hid (Bx.out.grown k2 sx.out (fun q e => (World.ownsRow.lt Ox.out q e).1)); have s1 := Lib.hid (Nat.le_trans sx.out k2.size); have cl11 := HCL.out _ B1.out; clear k1 k2 TK1; have TK2 : True := trivial)
                  | (go_at_call 16; refine (KSP.out _).mono ?_; rintro e W2 ⟨rfl, hh⟩; have O2 := Lib.hid (show OwB W2 w3.heap.size _ _ from own_belQ O1.out hh); have B2 := Lib.hid (B1.out.trans (hh.mono s1.out)); have s2 := Lib.hid (Nat.le_trans s1.out hh.size); clear hh; have TK3 : True := trivial)
                  | (at_builtin; have qq := TK3; refine Lib.wpList_append_own_string _ rfl _ _ 37 9 rfl w3.heap.size 5 i0 Tryz.underlying37 Tryz.underlying9 hi hz0 hz1 hz2 _ _ _ rfl O2.out (ByteArray.mk (spR K s).toArray) rfl (BD3.out.1) (BD3.out.2) s2.out ?_; intro v3 W3 k1 k2 _; obtain ⟨lq, hlq, oq⟩ : ∃ l, l = (txG gs i) ++ (ByteArray.mk #[32, 59, 32, 97, 32, 99, 111, 109, 109, 101, 110, 116, 58, 32, 115, 116, 97, 99, 107, 32, 57, 32, 10]).data.toList ++ (ByteArray.mk (spR K s).toArray).data.toList ∧ OwB W3 w3.heap.size v3 l := ⟨_, rfl, OwB.str k1⟩; have O3 := Lib.hid oq; have BDL := Lib.hid (p := lq.length + 1 ≤ maxLen ∧ lq.length + 1 ≤ 140737488355328) (by rw [hlq]; exact BD4.out); have HLQ := Lib.hid hlq; clear hlq oq; have B3 := Lib.hid (B2.out.grown k2 s2.out (fun q e => (World.ownsRow.lt O2.out q e).1)); have s3 := Lib.hid (Nat.le_trans s2.out k2.size); have cl13 := HCL.out _ B3.out; clear k1 k2 TK3; have TK4 : True := trivial)
                  | (at_builtin; have qq := TK4; refine wpList_append_own_at _ rfl _ _ 37 rfl w3.heap.size 5 i0 _ 1 1 Tryz.underlying37 hi hz0 hz1 hz2 rfl (by decide) v3 _ _ rfl (World.ownsRow.alloc O3.out _) ⟨W3.heap.size, 0, none⟩ 1 1 [.int .u8 10] rfl rfl (cell_one_new W3 _ _) (by intro u hu; simp at hu; subst hu; rfl) (by have := BDL.out.1; omega) (by have := BDL.out.2; omega) (Nat.le_trans s3.out (by simp)) ?_; intro v4 W4 k1 k2 k3 k4; have O4 := Lib.hid (OwB.lf k1); have B4 := Lib.hid ((B3.out.alloc s3.out _).grown k2 (Nat.le_trans s3.out (by simp)) (fun q e => (World.ownsRow.lt O3.out q e).1)); clear k1 k2 k3 k4))
                go_roundw
                case rel => exact ⟨i + 1, _, by omega, rfl, by unfold tldG; rw [if_pos (by have := HE.out; omega), ← HE.out, TS2.out]; simp [H3.out, H5.out] <;> omega, by rw [TS2.out]; simp [H3.out, H5.out] <;> omega, by go_num, by show OwB _ _ _ _; rw [TS1.out, grpT_eq, KK.out]; have := O4.out; rw [HLQ.out] at this; simpa [cmL, tbL, H3.out, H5.out] using this, B4.out⟩
                case measure => simp [intOf]; omega
              · have BD1 := Lib.hid (p := ((txG gs i)).length + (ByteArray.mk #[32, 59, 32, 97, 32, 99, 111, 109, 109, 101, 110, 116, 58, 32, 115, 116, 97, 99, 107, 32, 57, 32, 10]).size ≤ maxLen ∧ ((txG gs i)).length + (ByteArray.mk #[32, 59, 32, 97, 32, 99, 111, 109, 109, 101, 110, 116, 58, 32, 115, 116, 97, 99, 107, 32, 57, 32, 10]).size ≤ 140737488355328) (by have := ZB.out; have e : (ByteArray.mk #[32, 59, 32, 97, 32, 99, 111, 109, 109, 101, 110, 116, 58, 32, 115, 116, 97, 99, 107, 32, 57, 32, 10]).size = 23 := rfl; unfold maxLen; simp only [List.length_append, e]; omega)
                have BD3 := Lib.hid (p := ((txG gs i) ++ (ByteArray.mk #[32, 59, 32, 97, 32, 99, 111, 109, 109, 101, 110, 116, 58, 32, 115, 116, 97, 99, 107, 32, 57, 32, 10]).data.toList).length + (ByteArray.mk (spR K s).toArray).size ≤ maxLen ∧ ((txG gs i) ++ (ByteArray.mk #[32, 59, 32, 97, 32, 99, 111, 109, 109, 101, 110, 116, 58, 32, 115, 116, 97, 99, 107, 32, 57, 32, 10]).data.toList).length + (ByteArray.mk (spR K s).toArray).size ≤ 140737488355328) (by have := ZB.out; have e : (ByteArray.mk (spR K s).toArray).size = (spR K s).length := by { show (spR K s).toArray.size = _; simp }; unfold maxLen; simp only [List.length_append, e]; have e2 : (ByteArray.mk #[32, 59, 32, 97, 32, 99, 111, 109, 109, 101, 110, 116, 58, 32, 115, 116, 97, 99, 107, 32, 57, 32, 10]).data.toList.length = 23 := rfl; simp only [e2]; omega)
                have BD4 := Lib.hid (p := ((txG gs i) ++ (ByteArray.mk #[32, 59, 32, 97, 32, 99, 111, 109, 109, 101, 110, 116, 58, 32, 115, 116, 97, 99, 107, 32, 57, 32, 10]).data.toList ++ (ByteArray.mk (spR K s).toArray).data.toList).length + 1 ≤ maxLen ∧ ((txG gs i) ++ (ByteArray.mk #[32, 59, 32, 97, 32, 99, 111, 109, 109, 101, 110, 116, 58, 32, 115, 116, 97, 99, 107, 32, 57, 32, 10]).data.toList ++ (ByteArray.mk (spR K s).toArray).data.toList).length + 1 ≤ 140737488355328) (by have := ZB.out; have e : (ByteArray.mk (spR K s).toArray).data.toList.length = (spR K s).length := by { show (spR K s).toArray.toList.length = _; simp }; unfold maxLen; simp only [List.length_append, e]; have e2 : (ByteArray.mk #[32, 59, 32, 97, 32, 99, 111, 109, 109, 101, 110, 116, 58, 32, 115, 116, 97, 99, 107, 32, 57, 32, 10]).data.toList.length = 23 := rfl; simp only [e2]; omega)
                have h3b : ((K : Int) % 3 == 0) = true := by simp; omega
                have h5b : ((K : Int) % 5 == 0) = false := by simp; omega
                have heb : ((i : Int) + 1 == (n : Int)) = false := by simp; omega
                have H3 := Lib.hid h3
                have H5 := Lib.hid h5
                have HE := Lib.hid he
                clear h3 h5 he
                have TK1 : True := trivial
                go_wp2_with (first
                  | (at_builtin; have qq := TK1; refine Lib.wpList_append_own_string _ rfl _ _ 37 9 rfl w3.heap.size 5 i0 Tryz.underlying37 Tryz.underlying9 hi hz0 hz1 hz2 _ _ _ rfl Ox.out (ByteArray.mk #[32, 59, 32, 97, 32, 99, 111, 109, 109, 101, 110, 116, 58, 32, 115, 116, 97, 99, 107, 32, 57, 32, 10]) rfl (BD1.out.1) (BD1.out.2) sx.out ?_; intro v1 W1 k1 k2 _; have O1 := Lib.hid (OwB.str k1); have B1 := Lib.hid (Bx.out.grown k2 sx.out (fun q e => (World.ownsRow.lt Ox.out q e).1)); have s1 := Lib.hid (Nat.le_trans sx.out k2.size); have cl11 := HCL.out _ B1.out; clear k1 k2 TK1; have TK2 : True := trivial)
                  | (go_at_call 16; refine (KSP.out _).mono ?_; rintro e W2 ⟨rfl, hh⟩; have O2 := Lib.hid (show OwB W2 w3.heap.size _ _ from own_belQ O1.out hh); have B2 := Lib.hid (B1.out.trans (hh.mono s1.out)); have s2 := Lib.hid (Nat.le_trans s1.out hh.size); clear hh; have TK3 : True := trivial)
                  | (at_builtin; have qq := TK3; refine Lib.wpList_append_own_string _ rfl _ _ 37 9 rfl w3.heap.size 5 i0 Tryz.underlying37 Tryz.underlying9 hi hz0 hz1 hz2 _ _ _ rfl O2.out (ByteArray.mk (spR K s).toArray) rfl (BD3.out.1) (BD3.out.2) s2.out ?_; intro v3 W3 k1 k2 _; obtain ⟨lq, hlq, oq⟩ : ∃ l, l = (txG gs i) ++ (ByteArray.mk #[32, 59, 32, 97, 32, 99, 111, 109, 109, 101, 110, 116, 58, 32, 115, 116, 97, 99, 107, 32, 57, 32, 10]).data.toList ++ (ByteArray.mk (spR K s).toArray).data.toList ∧ OwB W3 w3.heap.size v3 l := ⟨_, rfl, OwB.str k1⟩; have O3 := Lib.hid oq; have BDL := Lib.hid (p := lq.length + 1 ≤ maxLen ∧ lq.length + 1 ≤ 140737488355328) (by rw [hlq]; exact BD4.out); have HLQ := Lib.hid hlq; clear hlq oq; have B3 := Lib.hid (B2.out.grown k2 s2.out (fun q e => (World.ownsRow.lt O2.out q e).1)); have s3 := Lib.hid (Nat.le_trans s2.out k2.size); have cl13 := HCL.out _ B3.out; clear k1 k2 TK3; have TK4 : True := trivial)
                  | (at_builtin; have qq := TK4; refine wpList_append_own_at _ rfl _ _ 37 rfl w3.heap.size 5 i0 _ 1 1 Tryz.underlying37 hi hz0 hz1 hz2 rfl (by decide) v3 _ _ rfl (World.ownsRow.alloc O3.out _) ⟨W3.heap.size, 0, none⟩ 1 1 [.int .u8 10] rfl rfl (cell_one_new W3 _ _) (by intro u hu; simp at hu; subst hu; rfl) (by have := BDL.out.1; omega) (by have := BDL.out.2; omega) (Nat.le_trans s3.out (by simp)) ?_; intro v4 W4 k1 k2 k3 k4; have O4 := Lib.hid (OwB.lf k1); have B4 := Lib.hid ((B3.out.alloc s3.out _).grown k2 (Nat.le_trans s3.out (by simp)) (fun q e => (World.ownsRow.lt O3.out q e).1)); clear k1 k2 k3 k4))
                go_roundw
                case rel => exact ⟨i + 1, _, by omega, rfl, by have := TD1.out HE.out; rw [this], by rw [TS2.out]; simp [H3.out, H5.out] <;> omega, by go_num, by show OwB _ _ _ _; rw [TS1.out, grpT_eq, KK.out]; have := O4.out; rw [HLQ.out] at this; simpa [cmL, tbL, H3.out, H5.out] using this, B4.out⟩
                case measure => simp [intOf]; omega
          · by_cases h5 : K % 5 = 0
            · by_cases he : i + 1 = n
              · have BD1 := Lib.hid (p := ((txG gs i)).length + (ByteArray.mk #[9, 10]).size ≤ maxLen ∧ ((txG gs i)).length + (ByteArray.mk #[9, 10]).size ≤ 140737488355328) (by have := ZB.out; have e : (ByteArray.mk #[9, 10]).size = 2 := rfl; unfold maxLen; simp only [List.length_append, e]; omega)
                have BD3 := Lib.hid (p := ((txG gs i) ++ (ByteArray.mk #[9, 10]).data.toList).length + (ByteArray.mk (spR K s).toArray).size ≤ maxLen ∧ ((txG gs i) ++ (ByteArray.mk #[9, 10]).data.toList).length + (ByteArray.mk (spR K s).toArray).size ≤ 140737488355328) (by have := ZB.out; have e : (ByteArray.mk (spR K s).toArray).size = (spR K s).length := by { show (spR K s).toArray.size = _; simp }; unfold maxLen; simp only [List.length_append, e]; have e3 : (ByteArray.mk #[9, 10]).data.toList.length = 2 := rfl; simp only [e3]; omega)
                have BD4 := Lib.hid (p := ((txG gs i) ++ (ByteArray.mk #[9, 10]).data.toList ++ (ByteArray.mk (spR K s).toArray).data.toList).length + 1 ≤ maxLen ∧ ((txG gs i) ++ (ByteArray.mk #[9, 10]).data.toList ++ (ByteArray.mk (spR K s).toArray).data.toList).length + 1 ≤ 140737488355328) (by have := ZB.out; have e : (ByteArray.mk (spR K s).toArray).data.toList.length = (spR K s).length := by { show (spR K s).toArray.toList.length = _; simp }; unfold maxLen; simp only [List.length_append, e]; have e3 : (ByteArray.mk #[9, 10]).data.toList.length = 2 := rfl; simp only [e3]; omega)
                have h3b : ((K : Int) % 3 == 0) = false := by simp; omega
                have h5b : ((K : Int) % 5 == 0) = true := by simp; omega
                have heb : ((i : Int) + 1 == (n : Int)) = true := by simp; omega
                have H3 := Lib.hid h3
                have H5 := Lib.hid h5
                have HE := Lib.hid he
                clear h3 h5 he
                have TK1 : True := trivial
                go_wp2_with (first
                  | (at_builtin; have qq := TK1; refine Lib.wpList_append_own_string _ rfl _ _ 37 9 rfl w3.heap.size 5 i0 Tryz.underlying37 Tryz.underlying9 hi hz0 hz1 hz2 _ _ _ rfl Ox.out (ByteArray.mk #[9, 10]) rfl (BD1.out.1) (BD1.out.2) sx.out ?_; intro v1 W1 k1 k2 _; have O1 := Lib.hid (OwB.str k1); have B1 := Lib.hid (Bx.out.grown k2 sx.out (fun q e => (World.ownsRow.lt Ox.out q e).1)); have s1 := Lib.hid (Nat.le_trans sx.out k2.size); have cl11 := HCL.out _ B1.out; clear k1 k2 TK1; have TK2 : True := trivial)
                  | (go_at_call 16; refine (KSP.out _).mono ?_; rintro e W2 ⟨rfl, hh⟩; have O2 := Lib.hid (show OwB W2 w3.heap.size _ _ from own_belQ O1.out hh); have B2 := Lib.hid (B1.out.trans (hh.mono s1.out)); have s2 := Lib.hid (Nat.le_trans s1.out hh.size); clear hh; have TK3 : True := trivial)
                  | (at_builtin; have qq := TK3; refine Lib.wpList_append_own_string _ rfl _ _ 37 9 rfl w3.heap.size 5 i0 Tryz.underlying37 Tryz.underlying9 hi hz0 hz1 hz2 _ _ _ rfl O2.out (ByteArray.mk (spR K s).toArray) rfl (BD3.out.1) (BD3.out.2) s2.out ?_; intro v3 W3 k1 k2 _; obtain ⟨lq, hlq, oq⟩ : ∃ l, l = (txG gs i) ++ (ByteArray.mk #[9, 10]).data.toList ++ (ByteArray.mk (spR K s).toArray).data.toList ∧ OwB W3 w3.heap.size v3 l := ⟨_, rfl, OwB.str k1⟩; have O3 := Lib.hid oq; have BDL := Lib.hid (p := lq.length + 1 ≤ maxLen ∧ lq.length + 1 ≤ 140737488355328) (by rw [hlq]; exact BD4.out); have HLQ := Lib.hid hlq; clear hlq oq; have B3 := Lib.hid (B2.out.grown k2 s2.out (fun q e => (World.ownsRow.lt O2.out q e).1)); have s3 := Lib.hid (Nat.le_trans s2.out k2.size); have cl13 := HCL.out _ B3.out; clear k1 k2 TK3; have TK4 : True := trivial)
                  | (at_builtin; have qq := TK4; refine wpList_append_own_at _ rfl _ _ 37 rfl w3.heap.size 5 i0 _ 1 1 Tryz.underlying37 hi hz0 hz1 hz2 rfl (by decide) v3 _ _ rfl (World.ownsRow.alloc O3.out _) ⟨W3.heap.size, 0, none⟩ 1 1 [.int .u8 10] rfl rfl (cell_one_new W3 _ _) (by intro u hu; simp at hu; subst hu; rfl) (by have := BDL.out.1; omega) (by have := BDL.out.2; omega) (Nat.le_trans s3.out (by simp)) ?_; intro v4 W4 k1 k2 k3 k4; have O4 := Lib.hid (OwB.lf k1); have B4 := Lib.hid ((B3.out.alloc s3.out _).grown k2 (Nat.le_trans s3.out (by simp)) (fun q e => (World.ownsRow.lt O3.out q e).1)); clear k1 k2 k3 k4))
                go_roundw
                case rel => exact ⟨i + 1, _, by omega, rfl, by unfold tldG; rw [if_pos (by have := HE.out; omega), ← HE.out, TS2.out]; simp [H3.out, H5.out] <;> omega, by rw [TS2.out]; simp [H3.out, H5.out] <;> omega, by go_num, by show OwB _ _ _ _; rw [TS1.out, grpT_eq, KK.out]; have := O4.out; rw [HLQ.out] at this; simpa [cmL, tbL, H3.out, H5.out] using this, B4.out⟩
                case measure => simp [intOf]; omega
              · have BD1 := Lib.hid (p := ((txG gs i)).length + (ByteArray.mk #[9, 10]).size ≤ maxLen ∧ ((txG gs i)).length + (ByteArray.mk #[9, 10]).size ≤ 140737488355328) (by have := ZB.out; have e : (ByteArray.mk #[9, 10]).size = 2 := rfl; unfold maxLen; simp only [List.length_append, e]; omega)
                have BD3 := Lib.hid (p := ((txG gs i) ++ (ByteArray.mk #[9, 10]).data.toList).length + (ByteArray.mk (spR K s).toArray).size ≤ maxLen ∧ ((txG gs i) ++ (ByteArray.mk #[9, 10]).data.toList).length + (ByteArray.mk (spR K s).toArray).size ≤ 140737488355328) (by have := ZB.out; have e : (ByteArray.mk (spR K s).toArray).size = (spR K s).length := by { show (spR K s).toArray.size = _; simp }; unfold maxLen; simp only [List.length_append, e]; have e3 : (ByteArray.mk #[9, 10]).data.toList.length = 2 := rfl; simp only [e3]; omega)
                have BD4 := Lib.hid (p := ((txG gs i) ++ (ByteArray.mk #[9, 10]).data.toList ++ (ByteArray.mk (spR K s).toArray).data.toList).length + 1 ≤ maxLen ∧ ((txG gs i) ++ (ByteArray.mk #[9, 10]).data.toList ++ (ByteArray.mk (spR K s).toArray).data.toList).length + 1 ≤ 140737488355328) (by have := ZB.out; have e : (ByteArray.mk (spR K s).toArray).data.toList.length = (spR K s).length := by { show (spR K s).toArray.toList.length = _; simp }; unfold maxLen; simp only [List.length_append, e]; have e3 : (ByteArray.mk #[9, 10]).data.toList.length = 2 := rfl; simp only [e3]; omega)
                have h3b : ((K : Int) % 3 == 0) = false := by simp; omega
                have h5b : ((K : Int) % 5 == 0) = true := by simp; omega
                have heb : ((i : Int) + 1 == (n : Int)) = false := by simp; omega
                have H3 := Lib.hid h3
                have H5 := Lib.hid h5
                have HE := Lib.hid he
                clear h3 h5 he
                have TK1 : True := trivial
                go_wp2_with (first
                  | (at_builtin; have qq := TK1; refine Lib.wpList_append_own_string _ rfl _ _ 37 9 rfl w3.heap.size 5 i0 Tryz.underlying37 Tryz.underlying9 hi hz0 hz1 hz2 _ _ _ rfl Ox.out (ByteArray.mk #[9, 10]) rfl (BD1.out.1) (BD1.out.2) sx.out ?_; intro v1 W1 k1 k2 _; have O1 := Lib.hid (OwB.str k1); have B1 := Lib.hid (Bx.out.grown k2 sx.out (fun q e => (World.ownsRow.lt Ox.out q e).1)); have s1 := Lib.hid (Nat.le_trans sx.out k2.size); have cl11 := HCL.out _ B1.out; clear k1 k2 TK1; have TK2 : True := trivial)
                  | (go_at_call 16; refine (KSP.out _).mono ?_; rintro e W2 ⟨rfl, hh⟩; have O2 := Lib.hid (show OwB W2 w3.heap.size _ _ from own_belQ O1.out hh); have B2 := Lib.hid (B1.out.trans (hh.mono s1.out)); have s2 := Lib.hid (Nat.le_trans s1.out hh.size); clear hh; have TK3 : True := trivial)
                  | (at_builtin; have qq := TK3; refine Lib.wpList_append_own_string _ rfl _ _ 37 9 rfl w3.heap.size 5 i0 Tryz.underlying37 Tryz.underlying9 hi hz0 hz1 hz2 _ _ _ rfl O2.out (ByteArray.mk (spR K s).toArray) rfl (BD3.out.1) (BD3.out.2) s2.out ?_; intro v3 W3 k1 k2 _; obtain ⟨lq, hlq, oq⟩ : ∃ l, l = (txG gs i) ++ (ByteArray.mk #[9, 10]).data.toList ++ (ByteArray.mk (spR K s).toArray).data.toList ∧ OwB W3 w3.heap.size v3 l := ⟨_, rfl, OwB.str k1⟩; have O3 := Lib.hid oq; have BDL := Lib.hid (p := lq.length + 1 ≤ maxLen ∧ lq.length + 1 ≤ 140737488355328) (by rw [hlq]; exact BD4.out); have HLQ := Lib.hid hlq; clear hlq oq; have B3 := Lib.hid (B2.out.grown k2 s2.out (fun q e => (World.ownsRow.lt O2.out q e).1)); have s3 := Lib.hid (Nat.le_trans s2.out k2.size); have cl13 := HCL.out _ B3.out; clear k1 k2 TK3; have TK4 : True := trivial)
                  | (at_builtin; have qq := TK4; refine wpList_append_own_at _ rfl _ _ 37 rfl w3.heap.size 5 i0 _ 1 1 Tryz.underlying37 hi hz0 hz1 hz2 rfl (by decide) v3 _ _ rfl (World.ownsRow.alloc O3.out _) ⟨W3.heap.size, 0, none⟩ 1 1 [.int .u8 10] rfl rfl (cell_one_new W3 _ _) (by intro u hu; simp at hu; subst hu; rfl) (by have := BDL.out.1; omega) (by have := BDL.out.2; omega) (Nat.le_trans s3.out (by simp)) ?_; intro v4 W4 k1 k2 k3 k4; have O4 := Lib.hid (OwB.lf k1); have B4 := Lib.hid ((B3.out.alloc s3.out _).grown k2 (Nat.le_trans s3.out (by simp)) (fun q e => (World.ownsRow.lt O3.out q e).1)); clear k1 k2 k3 k4))
                go_roundw
                case rel => exact ⟨i + 1, _, by omega, rfl, by have := TD1.out HE.out; rw [this], by rw [TS2.out]; simp [H3.out, H5.out] <;> omega, by go_num, by show OwB _ _ _ _; rw [TS1.out, grpT_eq, KK.out]; have := O4.out; rw [HLQ.out] at this; simpa [cmL, tbL, H3.out, H5.out] using this, B4.out⟩
                case measure => simp [intOf]; omega
            · by_cases he : i + 1 = n
              · have BD2 := Lib.hid (p := ((txG gs i)).length + (ByteArray.mk (spR K s).toArray).size ≤ maxLen ∧ ((txG gs i)).length + (ByteArray.mk (spR K s).toArray).size ≤ 140737488355328) (by have := ZB.out; have e : (ByteArray.mk (spR K s).toArray).size = (spR K s).length := by { show (spR K s).toArray.size = _; simp }; unfold maxLen; simp only [List.length_append, e]; omega)
                have BD3 := Lib.hid (p := ((txG gs i) ++ (ByteArray.mk (spR K s).toArray).data.toList).length + 1 ≤ maxLen ∧ ((txG gs i) ++ (ByteArray.mk (spR K s).toArray).data.toList).length + 1 ≤ 140737488355328) (by have := ZB.out; have e : (ByteArray.mk (spR K s).toArray).data.toList.length = (spR K s).length := by { show (spR K s).toArray.toList.length = _; simp }; unfold maxLen; simp only [List.length_append, e]; omega)
                have h3b : ((K : Int) % 3 == 0) = false := by simp; omega
                have h5b : ((K : Int) % 5 == 0) = false := by simp; omega
                have heb : ((i : Int) + 1 == (n : Int)) = true := by simp; omega
                have H3 := Lib.hid h3
                have H5 := Lib.hid h5
                have HE := Lib.hid he
                clear h3 h5 he
                have TK1 : True := trivial
                go_wp2_with (first
                  | (go_at_call 16; refine (KSP.out _).mono ?_; rintro e W1 ⟨rfl, hh⟩; have O1 := Lib.hid (show OwB W1 w3.heap.size _ _ from own_belQ Ox.out hh); have B1 := Lib.hid (Bx.out.trans (hh.mono sx.out)); have s1 := Lib.hid (Nat.le_trans sx.out hh.size); clear hh; have TK2 : True := trivial)
                  | (at_builtin; have qq := TK2; refine Lib.wpList_append_own_string _ rfl _ _ 37 9 rfl w3.heap.size 5 i0 Tryz.underlying37 Tryz.underlying9 hi hz0 hz1 hz2 _ _ _ rfl O1.out (ByteArray.mk (spR K s).toArray) rfl (BD2.out.1) (BD2.out.2) s1.out ?_; intro v2 W2 k1 k2 _; obtain ⟨lq, hlq, oq⟩ : ∃ l, l = (txG gs i) ++ (ByteArray.mk (spR K s).toArray).data.toList ∧ OwB W2 w3.heap.size v2 l := ⟨_, rfl, OwB.str k1⟩; have O2 := Lib.hid oq; have BDL := Lib.hid (p := lq.length + 1 ≤ maxLen ∧ lq.length + 1 ≤ 140737488355328) (by rw [hlq]; exact BD3.out); have HLQ := Lib.hid hlq; clear hlq oq; have B2 := Lib.hid (B1.out.grown k2 s1.out (fun q e => (World.ownsRow.lt O1.out q e).1)); have s2 := Lib.hid (Nat.le_trans s1.out k2.size); have cl12 := HCL.out _ B2.out; clear k1 k2 TK2; have TK3 : True := trivial)
                  | (at_builtin; have qq := TK3; refine wpList_append_own_at _ rfl _ _ 37 rfl w3.heap.size 5 i0 _ 1 1 Tryz.underlying37 hi hz0 hz1 hz2 rfl (by decide) v2 _ _ rfl (World.ownsRow.alloc O2.out _) ⟨W2.heap.size, 0, none⟩ 1 1 [.int .u8 10] rfl rfl (cell_one_new W2 _ _) (by intro u hu; simp at hu; subst hu; rfl) (by have := BDL.out.1; omega) (by have := BDL.out.2; omega) (Nat.le_trans s2.out (by simp)) ?_; intro v3 W3 k1 k2 k3 k4; have O3 := Lib.hid (OwB.lf k1); have B3 := Lib.hid ((B2.out.alloc s2.out _).grown k2 (Nat.le_trans s2.out (by simp)) (fun q e => (World.ownsRow.lt O2.out q e).1)); clear k1 k2 k3 k4))
                go_roundw
                case rel => exact ⟨i + 1, _, by omega, rfl, by unfold tldG; rw [if_pos (by have := HE.out; omega), ← HE.out, TS2.out]; simp [H3.out, H5.out] <;> omega, by rw [TS2.out]; simp [H3.out, H5.out] <;> omega, by go_num, by show OwB _ _ _ _; rw [TS1.out, grpT_eq, KK.out]; have := O3.out; rw [HLQ.out] at this; simpa [cmL, tbL, H3.out, H5.out] using this, B3.out⟩
                case measure => simp [intOf]; omega
              · have BD2 := Lib.hid (p := ((txG gs i)).length + (ByteArray.mk (spR K s).toArray).size ≤ maxLen ∧ ((txG gs i)).length + (ByteArray.mk (spR K s).toArray).size ≤ 140737488355328) (by have := ZB.out; have e : (ByteArray.mk (spR K s).toArray).size = (spR K s).length := by { show (spR K s).toArray.size = _; simp }; unfold maxLen; simp only [List.length_append, e]; omega)
                have BD3 := Lib.hid (p := ((txG gs i) ++ (ByteArray.mk (spR K s).toArray).data.toList).length + 1 ≤ maxLen ∧ ((txG gs i) ++ (ByteArray.mk (spR K s).toArray).data.toList).length + 1 ≤ 140737488355328) (by have := ZB.out; have e : (ByteArray.mk (spR K s).toArray).data.toList.length = (spR K s).length := by { show (spR K s).toArray.toList.length = _; simp }; unfold maxLen; simp only [List.length_append, e]; omega)
                have h3b : ((K : Int) % 3 == 0) = false := by simp; omega
                have h5b : ((K : Int) % 5 == 0) = false := by simp; omega
                have heb : ((i : Int) + 1 == (n : Int)) = false := by simp; omega
                have H3 := Lib.hid h3
                have H5 := Lib.hid h5
                have HE := Lib.hid he
                clear h3 h5 he
                have TK1 : True := trivial
                go_wp2_with (first
                  | (go_at_call 16; refine (KSP.out _).mono ?_; rintro e W1 ⟨rfl, hh⟩; have O1 := Lib.hid (show OwB W1 w3.heap.size _ _ from own_belQ Ox.out hh); have B1 := Lib.hid (Bx.out.trans (hh.mono sx.out)); have s1 := Lib.hid (Nat.le_trans sx.out hh.size); clear hh; have TK2 : True := trivial)
                  | (at_builtin; have qq := TK2; refine Lib.wpList_append_own_string _ rfl _ _ 37 9 rfl w3.heap.size 5 i0 Tryz.underlying37 Tryz.underlying9 hi hz0 hz1 hz2 _ _ _ rfl O1.out (ByteArray.mk (spR K s).toArray) rfl (BD2.out.1) (BD2.out.2) s1.out ?_; intro v2 W2 k1 k2 _; obtain ⟨lq, hlq, oq⟩ : ∃ l, l = (txG gs i) ++ (ByteArray.mk (spR K s).toArray).data.toList ∧ OwB W2 w3.heap.size v2 l := ⟨_, rfl, OwB.str k1⟩; have O2 := Lib.hid oq; have BDL := Lib.hid (p := lq.length + 1 ≤ maxLen ∧ lq.length + 1 ≤ 140737488355328) (by rw [hlq]; exact BD3.out); have HLQ := Lib.hid hlq; clear hlq oq; have B2 := Lib.hid (B1.out.grown k2 s1.out (fun q e => (World.ownsRow.lt O1.out q e).1)); have s2 := Lib.hid (Nat.le_trans s1.out k2.size); have cl12 := HCL.out _ B2.out; clear k1 k2 TK2; have TK3 : True := trivial)
                  | (at_builtin; have qq := TK3; refine wpList_append_own_at _ rfl _ _ 37 rfl w3.heap.size 5 i0 _ 1 1 Tryz.underlying37 hi hz0 hz1 hz2 rfl (by decide) v2 _ _ rfl (World.ownsRow.alloc O2.out _) ⟨W2.heap.size, 0, none⟩ 1 1 [.int .u8 10] rfl rfl (cell_one_new W2 _ _) (by intro u hu; simp at hu; subst hu; rfl) (by have := BDL.out.1; omega) (by have := BDL.out.2; omega) (Nat.le_trans s2.out (by simp)) ?_; intro v3 W3 k1 k2 k3 k4; have O3 := Lib.hid (OwB.lf k1); have B3 := Lib.hid ((B2.out.alloc s2.out _).grown k2 (Nat.le_trans s2.out (by simp)) (fun q e => (World.ownsRow.lt O2.out q e).1)); clear k1 k2 k3 k4))
                go_roundw
                case rel => exact ⟨i + 1, _, by omega, rfl, by have := TD1.out HE.out; rw [this], by rw [TS2.out]; simp [H3.out, H5.out] <;> omega, by go_num, by show OwB _ _ _ _; rw [TS1.out, grpT_eq, KK.out]; have := O3.out; rw [HLQ.out] at this; simpa [cmL, tbL, H3.out, H5.out] using this, B3.out⟩
                case measure => simp [intOf]; omega
        · obtain ⟨hx, ho, rfl, hxl, hxc⟩ := HW3.out.2.2.resolve_left (by omega)
          have hm : i % hl < hl := Nat.mod_lt _ h0
          have hc := (HB.out.cell (p := ⟨hx, ho + i % hl, none⟩) hxl).trans (hxc _ hm)
          have hlp : (0 : Int) < (hl : Int) := by omega
          obtain ⟨z, hzd⟩ : ∃ z, how.getD (i % hl) 0 = z := ⟨_, rfl⟩
          have hzr : z ≤ 9223372036854775807 := by
            have hm2 : i % hl < how.length := by rw [HW.out.1]; exact hm
            have := HW.out.2.1 how[i % hl] (List.getElem_mem hm2)
            rw [← hzd]
            rw [show how.getD (i % hl) 0 = how[i % hl] by simp [List.getD, hm2]]
            have q : -9223372036854775808 ≤ how[i % hl] ∧ how[i % hl] ≤ 9223372036854775807 := by simpa [i64, Lit.wf, IntKind.min, IntKind.max, IntKind.bits, IntKind.signed] using this
            exact q.2
          rw [hzd] at hpos hc
          obtain ⟨K, hK⟩ : ∃ K, kOf how i = K := ⟨_, rfl⟩
          have eK : z = (K : Int) := by
            rw [← hK]
            unfold kOf
            rw [if_neg (by intro q; have := HW.out.1; rw [q] at this; simp at this; omega), HW.out.1, hzd, if_neg (by omega)]
            omega
          subst eK
          have kn : ¬ (K : Int) < 0 := by omega
          have KK := Lib.hid hK
          have HK := Lib.hid (p := K < 9223372036854775808) (by omega)
          clear hK hxc hzd
          go_upto_region 16 with (fail)
          clear hc hzr hpos kn
          have ZB := Lib.hid (p := (txG gs i).length + 26 + (spR K s).length ≤ 9000000) (by have := TG0.out; have := spR_len K s; omega)
          have KSP := Lib.hid (p := ∀ W', Calls Tryz.prog 16 #[.string s, .int .i64 (K : Int)] W' fun e w' => e = .returned (.string ⟨(spR K s).toArray⟩) ∧ Below W'.heap.size W' w') (fun W' => spread_any s K HK.out (by omega) W')
          have TD1 := Lib.hid (p := ¬ i + 1 = n → tldG gs n (i + 1) = tldG gs n i) (fun h => by
            unfold tldG
            by_cases q : 0 < n ∧ n ≤ i
            · rw [if_pos q, if_pos ⟨q.1, by omega⟩]
            · rw [if_neg q, if_neg (fun z => q ⟨z.1, by omega⟩)])
          have Ox := Lib.hid HB1.out
          have Bx := Lib.hid HB.out
          have sx := Lib.hid HB.out.size
          rw [KK.out] at TS2
          clear HB1 HB TG1 TG0 KH KP KL1 HW HW3
          by_cases h3 : K % 3 = 0
          · by_cases h5 : K % 5 = 0
            · by_cases he : i + 1 = n
              · have BD1 := Lib.hid (p := ((txG gs i)).length + (ByteArray.mk #[32, 59, 32, 97, 32, 99, 111, 109, 109, 101, 110, 116, 58, 32, 115, 116, 97, 99, 107, 32, 57, 32, 10]).size ≤ maxLen ∧ ((txG gs i)).length + (ByteArray.mk #[32, 59, 32, 97, 32, 99, 111, 109, 109, 101, 110, 116, 58, 32, 115, 116, 97, 99, 107, 32, 57, 32, 10]).size ≤ 140737488355328) (by have := ZB.out; have e : (ByteArray.mk #[32, 59, 32, 97, 32, 99, 111, 109, 109, 101, 110, 116, 58, 32, 115, 116, 97, 99, 107, 32, 57, 32, 10]).size = 23 := rfl; unfold maxLen; simp only [List.length_append, e]; omega)
                have BD2 := Lib.hid (p := ((txG gs i) ++ (ByteArray.mk #[32, 59, 32, 97, 32, 99, 111, 109, 109, 101, 110, 116, 58, 32, 115, 116, 97, 99, 107, 32, 57, 32, 10]).data.toList).length + (ByteArray.mk #[9, 10]).size ≤ maxLen ∧ ((txG gs i) ++ (ByteArray.mk #[32, 59, 32, 97, 32, 99, 111, 109, 109, 101, 110, 116, 58, 32, 115, 116, 97, 99, 107, 32, 57, 32, 10]).data.toList).length + (ByteArray.mk #[9, 10]).size ≤ 140737488355328) (by have := ZB.out; have e : (ByteArray.mk #[9, 10]).size = 2 := rfl; unfold maxLen; simp only [List.length_append, e]; have e2 : (ByteArray.mk #[32, 59, 32, 97, 32, 99, 111, 109, 109, 101, 110, 116, 58, 32, 115, 116, 97, 99, 107, 32, 57, 32, 10]).data.toList.length = 23 := rfl; simp only [e2]; omega)
                have BD4 := Lib.hid (p := ((txG gs i) ++ (ByteArray.mk #[32, 59, 32, 97, 32, 99, 111, 109, 109, 101, 110, 116, 58, 32, 115, 116, 97, 99, 107, 32, 57, 32, 10]).data.toList ++ (ByteArray.mk #[9, 10]).data.toList).length + (ByteArray.mk (spR K s).toArray).size ≤ maxLen ∧ ((txG gs i) ++ (ByteArray.mk #[32, 59, 32, 97, 32, 99, 111, 109, 109, 101, 110, 116, 58, 32, 115, 116, 97, 99, 107, 32, 57, 32, 10]).data.toList ++ (ByteArray.mk #[9, 10]).data.toList).length + (ByteArray.mk (spR K s).toArray).size ≤ 140737488355328) (by have := ZB.out; have e : (ByteArray.mk (spR K s).toArray).size = (spR K s).length := by { show (spR K s).toArray.size = _; simp }; unfold maxLen; simp only [List.length_append, e]; have e2 : (ByteArray.mk #[32, 59, 32, 97, 32, 99, 111, 109, 109, 101, 110, 116, 58, 32, 115, 116, 97, 99, 107, 32, 57, 32, 10]).data.toList.length = 23 := rfl; simp only [e2]; have e3 : (ByteArray.mk #[9, 10]).data.toList.length = 2 := rfl; simp only [e3]; omega)
                have BD5 := Lib.hid (p := ((txG gs i) ++ (ByteArray.mk #[32, 59, 32, 97, 32, 99, 111, 109, 109, 101, 110, 116, 58, 32, 115, 116, 97, 99, 107, 32, 57, 32, 10]).data.toList ++ (ByteArray.mk #[9, 10]).data.toList ++ (ByteArray.mk (spR K s).toArray).data.toList).length + 1 ≤ maxLen ∧ ((txG gs i) ++ (ByteArray.mk #[32, 59, 32, 97, 32, 99, 111, 109, 109, 101, 110, 116, 58, 32, 115, 116, 97, 99, 107, 32, 57, 32, 10]).data.toList ++ (ByteArray.mk #[9, 10]).data.toList ++ (ByteArray.mk (spR K s).toArray).data.toList).length + 1 ≤ 140737488355328) (by have := ZB.out; have e : (ByteArray.mk (spR K s).toArray).data.toList.length = (spR K s).length := by { show (spR K s).toArray.toList.length = _; simp }; unfold maxLen; simp only [List.length_append, e]; have e2 : (ByteArray.mk #[32, 59, 32, 97, 32, 99, 111, 109, 109, 101, 110, 116, 58, 32, 115, 116, 97, 99, 107, 32, 57, 32, 10]).data.toList.length = 23 := rfl; simp only [e2]; have e3 : (ByteArray.mk #[9, 10]).data.toList.length = 2 := rfl; simp only [e3]; omega)
                have h3b : ((K : Int) % 3 == 0) = true := by simp; omega
                have h5b : ((K : Int) % 5 == 0) = true := by simp; omega
                have heb : ((i : Int) + 1 == (n : Int)) = true := by simp; omega
                have H3 := Lib.hid h3
                have H5 := Lib.hid h5
                have HE := Lib.hid he
                clear h3 h5 he
                have TK1 : True := trivial
                go_wp2_with (first
                  | (at_builtin; have qq := TK1; refine Lib.wpList_append_own_string _ rfl _ _ 37 9 rfl w3.heap.size 5 i0 Tryz.underlying37 Tryz.underlying9 hi hz0 hz1 hz2 _ _ _ rfl Ox.out (ByteArray.mk #[32, 59, 32, 97, 32, 99, 111, 109, 109, 101, 110, 116, 58, 32, 115, 116, 97, 99, 107, 32, 57, 32, 10]) rfl (BD1.out.1) (BD1.out.2) sx.out ?_; intro v1 W1 k1 k2 _; have O1 := Lib.hid (OwB.str k1); have B1 := Lib.hid (Bx.out.grown k2 sx.out (fun q e => (World.ownsRow.lt Ox.out q e).1)); have s1 := Lib.hid (Nat.le_trans sx.out k2.size); have cl11 := HCL.out _ B1.out; clear k1 k2 TK1; have TK2 : True := trivial)
                  | (at_builtin; have qq := TK2; refine Lib.wpList_append_own_string _ rfl _ _ 37 9 rfl w3.heap.size 5 i0 Tryz.underlying37 Tryz.underlying9 hi hz0 hz1 hz2 _ _ _ rfl O1.out (ByteArray.mk #[9, 10]) rfl (BD2.out.1) (BD2.out.2) s1.out ?_; intro v2 W2 k1 k2 _; have O2 := Lib.hid (OwB.str k1); have B2 := Lib.hid (B1.out.grown k2 s1.out (fun q e => (World.ownsRow.lt O1.out q e).1)); have s2 := Lib.hid (Nat.le_trans s1.out k2.size); have cl12 := HCL.out _ B2.out; clear k1 k2 TK2; have TK3 : True := trivial)
                  | (go_at_call 16; refine (KSP.out _).mono ?_; rintro e W3 ⟨rfl, hh⟩; have O3 := Lib.hid (show OwB W3 w3.heap.size _ _ from own_belQ O2.out hh); have B3 := Lib.hid (B2.out.trans (hh.mono s2.out)); have s3 := Lib.hid (Nat.le_trans s2.out hh.size); clear hh; have TK4 : True := trivial)
                  | (at_builtin; have qq := TK4; refine Lib.wpList_append_own_string _ rfl _ _ 37 9 rfl w3.heap.size 5 i0 Tryz.underlying37 Tryz.underlying9 hi hz0 hz1 hz2 _ _ _ rfl O3.out (ByteArray.mk (spR K s).toArray) rfl (BD4.out.1) (BD4.out.2) s3.out ?_; intro v4 W4 k1 k2 _; obtain ⟨lq, hlq, oq⟩ : ∃ l, l = (txG gs i) ++ (ByteArray.mk #[32, 59, 32, 97, 32, 99, 111, 109, 109, 101, 110, 116, 58, 32, 115, 116, 97, 99, 107, 32, 57, 32, 10]).data.toList ++ (ByteArray.mk #[9, 10]).data.toList ++ (ByteArray.mk (spR K s).toArray).data.toList ∧ OwB W4 w3.heap.size v4 l := ⟨_, rfl, OwB.str k1⟩; have O4 := Lib.hid oq; have BDL := Lib.hid (p := lq.length + 1 ≤ maxLen ∧ lq.length + 1 ≤ 140737488355328) (by rw [hlq]; exact BD5.out); have HLQ := Lib.hid hlq; clear hlq oq; have B4 := Lib.hid (B3.out.grown k2 s3.out (fun q e => (World.ownsRow.lt O3.out q e).1)); have s4 := Lib.hid (Nat.le_trans s3.out k2.size); have cl14 := HCL.out _ B4.out; clear k1 k2 TK4; have TK5 : True := trivial)
                  | (at_builtin; have qq := TK5; refine wpList_append_own_at _ rfl _ _ 37 rfl w3.heap.size 5 i0 _ 1 1 Tryz.underlying37 hi hz0 hz1 hz2 rfl (by decide) v4 _ _ rfl (World.ownsRow.alloc O4.out _) ⟨W4.heap.size, 0, none⟩ 1 1 [.int .u8 10] rfl rfl (cell_one_new W4 _ _) (by intro u hu; simp at hu; subst hu; rfl) (by have := BDL.out.1; omega) (by have := BDL.out.2; omega) (Nat.le_trans s4.out (by simp)) ?_; intro v5 W5 k1 k2 k3 k4; have O5 := Lib.hid (OwB.lf k1); have B5 := Lib.hid ((B4.out.alloc s4.out _).grown k2 (Nat.le_trans s4.out (by simp)) (fun q e => (World.ownsRow.lt O4.out q e).1)); clear k1 k2 k3 k4))
                go_roundw
                case rel => exact ⟨i + 1, _, by omega, rfl, by unfold tldG; rw [if_pos (by have := HE.out; omega), ← HE.out, TS2.out]; simp [H3.out, H5.out] <;> omega, by rw [TS2.out]; simp [H3.out, H5.out] <;> omega, by go_num, by show OwB _ _ _ _; rw [TS1.out, grpT_eq, KK.out]; have := O5.out; rw [HLQ.out] at this; simpa [cmL, tbL, H3.out, H5.out] using this, B5.out⟩
                case measure => simp [intOf]; omega
              · have BD1 := Lib.hid (p := ((txG gs i)).length + (ByteArray.mk #[32, 59, 32, 97, 32, 99, 111, 109, 109, 101, 110, 116, 58, 32, 115, 116, 97, 99, 107, 32, 57, 32, 10]).size ≤ maxLen ∧ ((txG gs i)).length + (ByteArray.mk #[32, 59, 32, 97, 32, 99, 111, 109, 109, 101, 110, 116, 58, 32, 115, 116, 97, 99, 107, 32, 57, 32, 10]).size ≤ 140737488355328) (by have := ZB.out; have e : (ByteArray.mk #[32, 59, 32, 97, 32, 99, 111, 109, 109, 101, 110, 116, 58, 32, 115, 116, 97, 99, 107, 32, 57, 32, 10]).size = 23 := rfl; unfold maxLen; simp only [List.length_append, e]; omega)
                have BD2 := Lib.hid (p := ((txG gs i) ++ (ByteArray.mk #[32, 59, 32, 97, 32, 99, 111, 109, 109, 101, 110, 116, 58, 32, 115, 116, 97, 99, 107, 32, 57, 32, 10]).data.toList).length + (ByteArray.mk #[9, 10]).size ≤ maxLen ∧ ((txG gs i) ++ (ByteArray.mk #[32, 59, 32, 97, 32, 99, 111, 109, 109, 101, 110, 116, 58, 32, 115, 116, 97, 99, 107, 32, 57, 32, 10]).data.toList).length + (ByteArray.mk #[9, 10]).size ≤ 140737488355328) (by have := ZB.out; have e : (ByteArray.mk #[9, 10]).size = 2 := rfl; unfold maxLen; simp only [List.length_append, e]; have e2 : (ByteArray.mk #[32, 59, 32, 97, 32, 99, 111, 109, 109, 101, 110, 116, 58, 32, 115, 116, 97, 99, 107, 32, 57, 32, 10]).data.toList.length = 23 := rfl; simp only [e2]; omega)
                have BD4 := Lib.hid (p := ((txG gs i) ++ (ByteArray.mk #[32, 59, 32, 97, 32, 99, 111, 109, 109, 101, 110, 116, 58, 32, 115, 116, 97, 99, 107, 32, 57, 32, 10]).data.toList ++ (ByteArray.mk #[9, 10]).data.toList).length + (ByteArray.mk (spR K s).toArray).size ≤ maxLen ∧ ((txG gs i) ++ (ByteArray.mk #[32, 59, 32, 97, 32, 99, 111, 109, 109, 101, 110, 116, 58, 32, 115, 116, 97, 99, 107, 32, 57, 32, 10]).data.toList ++ (ByteArray.mk #[9, 10]).data.toList).length + (ByteArray.mk (spR K s).toArray).size ≤ 140737488355328) (by have := ZB.out; have e : (ByteArray.mk (spR K s).toArray).size = (spR K s).length := by { show (spR K s).toArray.size = _; simp }; unfold maxLen; simp only [List.length_append, e]; have e2 : (ByteArray.mk #[32, 59, 32, 97, 32, 99, 111, 109, 109, 101, 110, 116, 58, 32, 115, 116, 97, 99, 107, 32, 57, 32, 10]).data.toList.length = 23 := rfl; simp only [e2]; have e3 : (ByteArray.mk #[9, 10]).data.toList.length = 2 := rfl; simp only [e3]; omega)
                have BD5 := Lib.hid (p := ((txG gs i) ++ (ByteArray.mk #[32, 59, 32, 97, 32, 99, 111, 109, 109, 101, 110, 116, 58, 32, 115, 116, 97, 99, 107, 32, 57, 32, 10]).data.toList ++ (ByteArray.mk #[9, 10]).data.toList ++ (ByteArray.mk (spR K s).toArray).data.toList).length + 1 ≤ maxLen ∧ ((txG gs i) ++ (ByteArray.mk #[32, 59, 32, 97, 32, 99, 111, 109, 109, 101, 110, 116, 58, 32, 115, 116, 97, 99, 107, 32, 57, 32, 10]).data.toList ++ (ByteArray.mk #[9, 10]).data.toList ++ (ByteArray.mk (spR K s).toArray).data.toList).length + 1 ≤ 140737488355328) (by have := ZB.out; have e : (ByteArray.mk (spR K s).toArray).data.toList.length = (spR K s).length := by { show (spR K s).toArray.toList.length = _; simp }; unfold maxLen; simp only [List.length_append, e]; have e2 : (ByteArray.mk #[32, 59, 32, 97, 32, 99, 111, 109, 109, 101, 110, 116, 58, 32, 115, 116, 97, 99, 107, 32, 57, 32, 10]).data.toList.length = 23 := rfl; simp only [e2]; have e3 : (ByteArray.mk #[9, 10]).data.toList.length = 2 := rfl; simp only [e3]; omega)
                have h3b : ((K : Int) % 3 == 0) = true := by simp; omega
                have h5b : ((K : Int) % 5 == 0) = true := by simp; omega
                have heb : ((i : Int) + 1 == (n : Int)) = false := by simp; omega
                have H3 := Lib.hid h3
                have H5 := Lib.hid h5
                have HE := Lib.hid he
                clear h3 h5 he
                have TK1 : True := trivial
                go_wp2_with (first
                  | (at_builtin; have qq := TK1; refine Lib.wpList_append_own_string _ rfl _ _ 37 9 rfl w3.heap.size 5 i0 Tryz.underlying37 Tryz.underlying9 hi hz0 hz1 hz2 _ _ _ rfl Ox.out (ByteArray.mk #[32, 59, 32, 97, 32, 99, 111, 109, 109, 101, 110, 116, 58, 32, 115, 116, 97, 99, 107, 32, 57, 32, 10]) rfl (BD1.out.1) (BD1.out.2) sx.out ?_; intro v1 W1 k1 k2 _; have O1 := Lib.hid (OwB.str k1); have B1 := Lib.hid (Bx.out.grown k2 sx.out (fun q e => (World.ownsRow.lt Ox.out q e).1)); have s1 := Lib.hid (Nat.le_trans sx.out k2.size); have cl11 := HCL.out _ B1.out; clear k1 k2 TK1; have TK2 : True := trivial)
                  | (at_builtin; have qq := TK2; refine Lib.wpList_append_own_string _ rfl _ _ 37 9 rfl w3.heap.size 5 i0 Tryz.underlying37 Tryz.underlying9 hi hz0 hz1 hz2 _ _ _ rfl O1.out (ByteArray.mk #[9, 10]) rfl (BD2.out.1) (BD2.out.2) s1.out ?_; intro v2 W2 k1 k2 _; have O2 := Lib.hid (OwB.str k1); have B2 := Lib.hid (B1.out.grown k2 s1.out (fun q e => (World.ownsRow.lt O1.out q e).1)); have s2 := Lib.hid (Nat.le_trans s1.out k2.size); have cl12 := HCL.out _ B2.out; clear k1 k2 TK2; have TK3 : True := trivial)
                  | (go_at_call 16; refine (KSP.out _).mono ?_; rintro e W3 ⟨rfl, hh⟩; have O3 := Lib.hid (show OwB W3 w3.heap.size _ _ from own_belQ O2.out hh); have B3 := Lib.hid (B2.out.trans (hh.mono s2.out)); have s3 := Lib.hid (Nat.le_trans s2.out hh.size); clear hh; have TK4 : True := trivial)
                  | (at_builtin; have qq := TK4; refine Lib.wpList_append_own_string _ rfl _ _ 37 9 rfl w3.heap.size 5 i0 Tryz.underlying37 Tryz.underlying9 hi hz0 hz1 hz2 _ _ _ rfl O3.out (ByteArray.mk (spR K s).toArray) rfl (BD4.out.1) (BD4.out.2) s3.out ?_; intro v4 W4 k1 k2 _; obtain ⟨lq, hlq, oq⟩ : ∃ l, l = (txG gs i) ++ (ByteArray.mk #[32, 59, 32, 97, 32, 99, 111, 109, 109, 101, 110, 116, 58, 32, 115, 116, 97, 99, 107, 32, 57, 32, 10]).data.toList ++ (ByteArray.mk #[9, 10]).data.toList ++ (ByteArray.mk (spR K s).toArray).data.toList ∧ OwB W4 w3.heap.size v4 l := ⟨_, rfl, OwB.str k1⟩; have O4 := Lib.hid oq; have BDL := Lib.hid (p := lq.length + 1 ≤ maxLen ∧ lq.length + 1 ≤ 140737488355328) (by rw [hlq]; exact BD5.out); have HLQ := Lib.hid hlq; clear hlq oq; have B4 := Lib.hid (B3.out.grown k2 s3.out (fun q e => (World.ownsRow.lt O3.out q e).1)); have s4 := Lib.hid (Nat.le_trans s3.out k2.size); have cl14 := HCL.out _ B4.out; clear k1 k2 TK4; have TK5 : True := trivial)
                  | (at_builtin; have qq := TK5; refine wpList_append_own_at _ rfl _ _ 37 rfl w3.heap.size 5 i0 _ 1 1 Tryz.underlying37 hi hz0 hz1 hz2 rfl (by decide) v4 _ _ rfl (World.ownsRow.alloc O4.out _) ⟨W4.heap.size, 0, none⟩ 1 1 [.int .u8 10] rfl rfl (cell_one_new W4 _ _) (by intro u hu; simp at hu; subst hu; rfl) (by have := BDL.out.1; omega) (by have := BDL.out.2; omega) (Nat.le_trans s4.out (by simp)) ?_; intro v5 W5 k1 k2 k3 k4; have O5 := Lib.hid (OwB.lf k1); have B5 := Lib.hid ((B4.out.alloc s4.out _).grown k2 (Nat.le_trans s4.out (by simp)) (fun q e => (World.ownsRow.lt O4.out q e).1)); clear k1 k2 k3 k4))
                go_roundw
                case rel => exact ⟨i + 1, _, by omega, rfl, by have := TD1.out HE.out; rw [this], by rw [TS2.out]; simp [H3.out, H5.out] <;> omega, by go_num, by show OwB _ _ _ _; rw [TS1.out, grpT_eq, KK.out]; have := O5.out; rw [HLQ.out] at this; simpa [cmL, tbL, H3.out, H5.out] using this, B5.out⟩
                case measure => simp [intOf]; omega
            · by_cases he : i + 1 = n
              · have BD1 := Lib.hid (p := ((txG gs i)).length + (ByteArray.mk #[32, 59, 32, 97, 32, 99, 111, 109, 109, 101, 110, 116, 58, 32, 115, 116, 97, 99, 107, 32, 57, 32, 10]).size ≤ maxLen ∧ ((txG gs i)).length + (ByteArray.mk #[32, 59, 32, 97, 32, 99, 111, 109, 109, 101, 110, 116, 58, 32, 115, 116, 97, 99, 107, 32, 57, 32, 10]).size ≤ 140737488355328) (by have := ZB.out; have e : (ByteArray.mk #[32, 59, 32, 97, 32, 99, 111, 109, 109, 101, 110, 116, 58, 32, 115, 116, 97, 99, 107, 32, 57, 32, 10]).size = 23 := rfl; unfold maxLen; simp only [List.length_append, e]; omega)
                have BD3 := Lib.hid (p := ((txG gs i) ++ (ByteArray.mk #[32, 59, 32, 97, 32, 99, 111, 109, 109, 101, 110, 116, 58, 32, 115, 116, 97, 99, 107, 32, 57, 32, 10]).data.toList).length + (ByteArray.mk (spR K s).toArray).size ≤ maxLen ∧ ((txG gs i) ++ (ByteArray.mk #[32, 59, 32, 97, 32, 99, 111, 109, 109, 101, 110, 116, 58, 32, 115, 116, 97, 99, 107, 32, 57, 32, 10]).data.toList).length + (ByteArray.mk (spR K s).toArray).size ≤ 140737488355328) (by have := ZB.out; have e : (ByteArray.mk (spR K s).toArray).size = (spR K s).length := by { show (spR K s).toArray.size = _; simp }; unfold maxLen; simp only [List.length_append, e]; have e2 : (ByteArray.mk #[32, 59, 32, 97, 32, 99, 111, 109, 109, 101, 110, 116, 58, 32, 115, 116, 97, 99, 107, 32, 57, 32, 10]).data.toList.length = 23 := rfl; simp only [e2]; omega)
                have BD4 := Lib.hid (p := ((txG gs i) ++ (ByteArray.mk #[32, 59, 32, 97, 32, 99, 111, 109, 109, 101, 110, 116, 58, 32, 115, 116, 97, 99, 107, 32, 57, 32, 10]).data.toList ++ (ByteArray.mk (spR K s).toArray).data.toList).length + 1 ≤ maxLen ∧ ((txG gs i) ++ (ByteArray.mk #[32, 59, 32, 97, 32, 99, 111, 109, 109, 101, 110, 116, 58, 32, 115, 116, 97, 99, 107, 32, 57, 32, 10]).data.toList ++ (ByteArray.mk (spR K s).toArray).data.toList).length + 1 ≤ 140737488355328) (by have := ZB.out; have e : (ByteArray.mk (spR K s).toArray).data.toList.length = (spR K s).length := by { show (spR K s).toArray.toList.length = _; simp }; unfold maxLen; simp only [List.length_append, e]; have e2 : (ByteArray.mk #[32, 59, 32, 97, 32, 99, 111, 109, 109, 101, 110, 116, 58, 32, 115, 116, 97, 99, 107, 32, 57, 32, 10]).data.toList.length = 23 := rfl; simp only [e2]; omega)
                have h3b : ((K : Int) % 3 == 0) = true := by simp; omega
                have h5b : ((K : Int) % 5 == 0) = false := by simp; omega
                have heb : ((i : Int) + 1 == (n : Int)) = true := by simp; omega
                have H3 := Lib.hid h3
                have H5 := Lib.hid h5
                have HE := Lib.hid he
                clear h3 h5 he
                have TK1 : True := trivial
                go_wp2_with (first
                  | (at_builtin; have qq := TK1; refine Lib.wpList_append_own_string _ rfl _ _ 37 9 rfl w3.heap.size 5 i0 Tryz.underlying37 Tryz.underlying9 hi hz0 hz1 hz2 _ _ _ rfl Ox.out (ByteArray.mk #[32, 59, 32, 97, 32, 99, 111, 109, 109, 101, 110, 116, 58, 32, 115, 116, 97, 99, 107, 32, 57, 32, 10]) rfl (BD1.out.1) (BD1.out.2) sx.out ?_; intro v1 W1 k1 k2 _; have O1 := Lib.hid (OwB.str k1); have B1 := Lib.hid (Bx.out.grown k2 sx.out (fun q e => (World.ownsRow.lt Ox.out q e).1)); have s1 := Lib.hid (Nat.le_trans sx.out k2.size); have cl11 := HCL.out _ B1.out; clear k1 k2 TK1; have TK2 : True := trivial)
                  | (go_at_call 16; refine (KSP.out _).mono ?_; rintro e W2 ⟨rfl, hh⟩; have O2 := Lib.hid (show OwB W2 w3.heap.size _ _ from own_belQ O1.out hh); have B2 := Lib.hid (B1.out.trans (hh.mono s1.out)); have s2 := Lib.hid (Nat.le_trans s1.out hh.size); clear hh; have TK3 : True := trivial)
                  | (at_builtin; have qq := TK3; refine Lib.wpList_append_own_string _ rfl _ _ 37 9 rfl w3.heap.size 5 i0 Tryz.underlying37 Tryz.underlying9 hi hz0 hz1 hz2 _ _ _ rfl O2.out (ByteArray.mk (spR K s).toArray) rfl (BD3.out.1) (BD3.out.2) s2.out ?_; intro v3 W3 k1 k2 _; obtain ⟨lq, hlq, oq⟩ : ∃ l, l = (txG gs i) ++ (ByteArray.mk #[32, 59, 32, 97, 32, 99, 111, 109, 109, 101, 110, 116, 58, 32, 115, 116, 97, 99, 107, 32, 57, 32, 10]).data.toList ++ (ByteArray.mk (spR K s).toArray).data.toList ∧ OwB W3 w3.heap.size v3 l := ⟨_, rfl, OwB.str k1⟩; have O3 := Lib.hid oq; have BDL := Lib.hid (p := lq.length + 1 ≤ maxLen ∧ lq.length + 1 ≤ 140737488355328) (by rw [hlq]; exact BD4.out); have HLQ := Lib.hid hlq; clear hlq oq; have B3 := Lib.hid (B2.out.grown k2 s2.out (fun q e => (World.ownsRow.lt O2.out q e).1)); have s3 := Lib.hid (Nat.le_trans s2.out k2.size); have cl13 := HCL.out _ B3.out; clear k1 k2 TK3; have TK4 : True := trivial)
                  | (at_builtin; have qq := TK4; refine wpList_append_own_at _ rfl _ _ 37 rfl w3.heap.size 5 i0 _ 1 1 Tryz.underlying37 hi hz0 hz1 hz2 rfl (by decide) v3 _ _ rfl (World.ownsRow.alloc O3.out _) ⟨W3.heap.size, 0, none⟩ 1 1 [.int .u8 10] rfl rfl (cell_one_new W3 _ _) (by intro u hu; simp at hu; subst hu; rfl) (by have := BDL.out.1; omega) (by have := BDL.out.2; omega) (Nat.le_trans s3.out (by simp)) ?_; intro v4 W4 k1 k2 k3 k4; have O4 := Lib.hid (OwB.lf k1); have B4 := Lib.hid ((B3.out.alloc s3.out _).grown k2 (Nat.le_trans s3.out (by simp)) (fun q e => (World.ownsRow.lt O3.out q e).1)); clear k1 k2 k3 k4))
                go_roundw
                case rel => exact ⟨i + 1, _, by omega, rfl, by unfold tldG; rw [if_pos (by have := HE.out; omega), ← HE.out, TS2.out]; simp [H3.out, H5.out] <;> omega, by rw [TS2.out]; simp [H3.out, H5.out] <;> omega, by go_num, by show OwB _ _ _ _; rw [TS1.out, grpT_eq, KK.out]; have := O4.out; rw [HLQ.out] at this; simpa [cmL, tbL, H3.out, H5.out] using this, B4.out⟩
                case measure => simp [intOf]; omega
              · have BD1 := Lib.hid (p := ((txG gs i)).length + (ByteArray.mk #[32, 59, 32, 97, 32, 99, 111, 109, 109, 101, 110, 116, 58, 32, 115, 116, 97, 99, 107, 32, 57, 32, 10]).size ≤ maxLen ∧ ((txG gs i)).length + (ByteArray.mk #[32, 59, 32, 97, 32, 99, 111, 109, 109, 101, 110, 116, 58, 32, 115, 116, 97, 99, 107, 32, 57, 32, 10]).size ≤ 140737488355328) (by have := ZB.out; have e : (ByteArray.mk #[32, 59, 32, 97, 32, 99, 111, 109, 109, 101, 110, 116, 58, 32, 115, 116, 97, 99, 107, 32, 57, 32, 10]).size = 23 := rfl; unfold maxLen; simp only [List.length_append, e]; omega)
                have BD3 := Lib.hid (p := ((txG gs i) ++ (ByteArray.mk #[32, 59, 32, 97, 32, 99, 111, 109, 109, 101, 110, 116, 58, 32, 115, 116, 97, 99, 107, 32, 57, 32, 10]).data.toList).length + (ByteArray.mk (spR K s).toArray).size ≤ maxLen ∧ ((txG gs i) ++ (ByteArray.mk #[32, 59, 32, 97, 32, 99, 111, 109, 109, 101, 110, 116, 58, 32, 115, 116, 97, 99, 107, 32, 57, 32, 10]).data.toList).length + (ByteArray.mk (spR K s).toArray).size ≤ 140737488355328) (by have := ZB.out; have e : (ByteArray.mk (spR K s).toArray).size = (spR K s).length := by { show (spR K s).toArray.size = _; simp }; unfold maxLen; simp only [List.length_append, e]; have e2 : (ByteArray.mk #[32, 59, 32, 97, 32, 99, 111, 109, 109, 101, 110, 116, 58, 32, 115, 116, 97, 99, 107, 32, 57, 32, 10]).data.toList.length = 23 := rfl; simp only [e2]; omega)
                have BD4 := Lib.hid (p := ((txG gs i) ++ (ByteArray.mk #[32, 59, 32, 97, 32, 99, 111, 109, 109, 101, 110, 116, 58, 32, 115, 116, 97, 99, 107, 32, 57, 32, 10]).data.toList ++ (ByteArray.mk (spR K s).toArray).data.toList).length + 1 ≤ maxLen ∧ ((txG gs i) ++ (ByteArray.mk #[32, 59, 32, 97, 32, 99, 111, 109, 109, 101, 110, 116, 58, 32, 115, 116, 97, 99, 107, 32, 57, 32, 10]).data.toList ++ (ByteArray.mk (spR K s).toArray).data.toList).length + 1 ≤ 140737488355328) (by have := ZB.out; have e : (ByteArray.mk (spR K s).toArray).data.toList.length = (spR K s).length := by { show (spR K s).toArray.toList.length = _; simp }; unfold maxLen; simp only [List.length_append, e]; have e2 : (ByteArray.mk #[32, 59, 32, 97, 32, 99, 111, 109, 109, 101, 110, 116, 58, 32, 115, 116, 97, 99, 107, 32, 57, 32, 10]).data.toList.length = 23 := rfl; simp only [e2]; omega)
                have h3b : ((K : Int) % 3 == 0) = true := by simp; omega
                have h5b : ((K : Int) % 5 == 0) = false := by simp; omega
                have heb : ((i : Int) + 1 == (n : Int)) = false := by simp; omega
                have H3 := Lib.hid h3
                have H5 := Lib.hid h5
                have HE := Lib.hid he
                clear h3 h5 he
                have TK1 : True := trivial
                go_wp2_with (first
                  | (at_builtin; have qq := TK1; refine Lib.wpList_append_own_string _ rfl _ _ 37 9 rfl w3.heap.size 5 i0 Tryz.underlying37 Tryz.underlying9 hi hz0 hz1 hz2 _ _ _ rfl Ox.out (ByteArray.mk #[32, 59, 32, 97, 32, 99, 111, 109, 109, 101, 110, 116, 58, 32, 115, 116, 97, 99, 107, 32, 57, 32, 10]) rfl (BD1.out.1) (BD1.out.2) sx.out ?_; intro v1 W1 k1 k2 _; have O1 := Lib.hid (OwB.str k1); have B1 := Lib.hid (Bx.out.grown k2 sx.out (fun q e => (World.ownsRow.lt Ox.out q e).1)); have s1 := Lib.hid (Nat.le_trans sx.out k2.size); have cl11 := HCL.out _ B1.out; clear k1 k2 TK1; have TK2 : True := trivial)
                  | (go_at_call 16; refine (KSP.out _).mono ?_; rintro e W2 ⟨rfl, hh⟩; have O2 := Lib.hid (show OwB W2 w3.heap.size _ _ from own_belQ O1.out hh); have B2 := Lib.hid (B1.out.trans (hh.mono s1.out)); have s2 := Lib.hid (Nat.le_trans s1.out hh.size); clear hh; have TK3 : True := trivial)
                  | (at_builtin; have qq := TK3; refine Lib.wpList_append_own_string _ rfl _ _ 37 9 rfl w3.heap.size 5 i0 Tryz.underlying37 Tryz.underlying9 hi hz0 hz1 hz2 _ _ _ rfl O2.out (ByteArray.mk (spR K s).toArray) rfl (BD3.out.1) (BD3.out.2) s2.out ?_; intro v3 W3 k1 k2 _; obtain ⟨lq, hlq, oq⟩ : ∃ l, l = (txG gs i) ++ (ByteArray.mk #[32, 59, 32, 97, 32, 99, 111, 109, 109, 101, 110, 116, 58, 32, 115, 116, 97, 99, 107, 32, 57, 32, 10]).data.toList ++ (ByteArray.mk (spR K s).toArray).data.toList ∧ OwB W3 w3.heap.size v3 l := ⟨_, rfl, OwB.str k1⟩; have O3 := Lib.hid oq; have BDL := Lib.hid (p := lq.length + 1 ≤ maxLen ∧ lq.length + 1 ≤ 140737488355328) (by rw [hlq]; exact BD4.out); have HLQ := Lib.hid hlq; clear hlq oq; have B3 := Lib.hid (B2.out.grown k2 s2.out (fun q e => (World.ownsRow.lt O2.out q e).1)); have s3 := Lib.hid (Nat.le_trans s2.out k2.size); have cl13 := HCL.out _ B3.out; clear k1 k2 TK3; have TK4 : True := trivial)
                  | (at_builtin; have qq := TK4; refine wpList_append_own_at _ rfl _ _ 37 rfl w3.heap.size 5 i0 _ 1 1 Tryz.underlying37 hi hz0 hz1 hz2 rfl (by decide) v3 _ _ rfl (World.ownsRow.alloc O3.out _) ⟨W3.heap.size, 0, none⟩ 1 1 [.int .u8 10] rfl rfl (cell_one_new W3 _ _) (by intro u hu; simp at hu; subst hu; rfl) (by have := BDL.out.1; omega) (by have := BDL.out.2; omega) (Nat.le_trans s3.out (by simp)) ?_; intro v4 W4 k1 k2 k3 k4; have O4 := Lib.hid (OwB.lf k1); have B4 := Lib.hid ((B3.out.alloc s3.out _).grown k2 (Nat.le_trans s3.out (by simp)) (fun q e => (World.ownsRow.lt O3.out q e).1)); clear k1 k2 k3 k4))
                go_roundw
                case rel => exact ⟨i + 1, _, by omega, rfl, by have := TD1.out HE.out; rw [this], by rw [TS2.out]; simp [H3.out, H5.out] <;> omega, by go_num, by show OwB _ _ _ _; rw [TS1.out, grpT_eq, KK.out]; have := O4.out; rw [HLQ.out] at this; simpa [cmL, tbL, H3.out, H5.out] using this, B4.out⟩
                case measure => simp [intOf]; omega
          · by_cases h5 : K % 5 = 0
            · by_cases he : i + 1 = n
              · have BD1 := Lib.hid (p := ((txG gs i)).length + (ByteArray.mk #[9, 10]).size ≤ maxLen ∧ ((txG gs i)).length + (ByteArray.mk #[9, 10]).size ≤ 140737488355328) (by have := ZB.out; have e : (ByteArray.mk #[9, 10]).size = 2 := rfl; unfold maxLen; simp only [List.length_append, e]; omega)
                have BD3 := Lib.hid (p := ((txG gs i) ++ (ByteArray.mk #[9, 10]).data.toList).length + (ByteArray.mk (spR K s).toArray).size ≤ maxLen ∧ ((txG gs i) ++ (ByteArray.mk #[9, 10]).data.toList).length + (ByteArray.mk (spR K s).toArray).size ≤ 140737488355328) (by have := ZB.out; have e : (ByteArray.mk (spR K s).toArray).size = (spR K s).length := by { show (spR K s).toArray.size = _; simp }; unfold maxLen; simp only [List.length_append, e]; have e3 : (ByteArray.mk #[9, 10]).data.toList.length = 2 := rfl; simp only [e3]; omega)
                have BD4 := Lib.hid (p := ((txG gs i) ++ (ByteArray.mk #[9, 10]).data.toList ++ (ByteArray.mk (spR K s).toArray).data.toList).length + 1 ≤ maxLen ∧ ((txG gs i) ++ (ByteArray.mk #[9, 10]).data.toList ++ (ByteArray.mk (spR K s).toArray).data.toList).length + 1 ≤ 140737488355328) (by have := ZB.out; have e : (ByteArray.mk (spR K s).toArray).data.toList.length = (spR K s).length := by { show (spR K s).toArray.toList.length = _; simp }; unfold maxLen; simp only [List.length_append, e]; have e3 : (ByteArray.mk #[9, 10]).data.toList.length = 2 := rfl; simp only [e3]; omega)
                have h3b : ((K : Int) % 3 == 0) = false := by simp; omega
                have h5b : ((K : Int) % 5 == 0) = true := by simp; omega
                have heb : ((i : Int) + 1 == (n : Int)) = true := by simp; omega
                have H3 := Lib.hid h3
                have H5 := Lib.hid h5
                have HE := Lib.hid he
                clear h3 h5 he
                have TK1 : True := trivial
                go_wp2_with (first
                  | (at_builtin; have qq := TK1; refine Lib.wpList_append_own_string _ rfl _ _ 37 9 rfl w3.heap.size 5 i0 Tryz.underlying37 Tryz.underlying9 hi hz0 hz1 hz2 _ _ _ rfl Ox.out (ByteArray.mk #[9, 10]) rfl (BD1.out.1) (BD1.out.2) sx.out ?_; intro v1 W1 k1 k2 _; have O1 := Lib.hid (OwB.str k1); have B1 := Lib.hid (Bx.out.grown k2 sx.out (fun q e => (World.ownsRow.lt Ox.out q e).1)); have s1 := Lib.hid (Nat.le_trans sx.out k2.size); have cl11 := HCL.out _ B1.out; clear k1 k2 TK1; have TK2 : True := trivial)
                  | (go_at_call 16; refine (KSP.out _).mono ?_; rintro e W2 ⟨rfl, hh⟩; have O2 := Lib.hid (show OwB W2 w3.heap.size _ _ from own_belQ O1.out hh); have B2 := Lib.hid (B1.out.trans (hh.mono s1.out)); have s2 := Lib.hid (Nat.le_trans s1.out hh.size); clear hh; have TK3 : True := trivial)
                  | (at_builtin; have qq := TK3; refine Lib.wpList_append_own_string _ rfl _ _ 37 9 rfl w3.heap.size 5 i0 Tryz.underlying37 Tryz.underlying9 hi hz0 hz1 hz2 _ _ _ rfl O2.out (ByteArray.mk (spR K s).toArray) rfl (BD3.out.1) (BD3.out.2) s2.out ?_; intro v3 W3 k1 k2 _; obtain ⟨lq, hlq, oq⟩ : ∃ l, l = (txG gs i) ++ (ByteArray.mk #[9, 10]).data.toList ++ (ByteArray.mk (spR K s).toArray).data.toList ∧ OwB W3 w3.heap.size v3 l := ⟨_, rfl, OwB.str k1⟩; have O3 := Lib.hid oq; have BDL := Lib.hid (p := lq.length + 1 ≤ maxLen ∧ lq.length + 1 ≤ 140737488355328) (by rw [hlq]; exact BD4.out); have HLQ := Lib.hid hlq; clear hlq oq; have B3 := Lib.hid (B2.out.grown k2 s2.out (fun q e => (World.ownsRow.lt O2.out q e).1)); have s3 := Lib.hid (Nat.le_trans s2.out k2.size); have cl13 := HCL.out _ B3.out; clear k1 k2 TK3; have TK4 : True := trivial)
                  | (at_builtin; have qq := TK4; refine wpList_append_own_at _ rfl _ _ 37 rfl w3.heap.size 5 i0 _ 1 1 Tryz.underlying37 hi hz0 hz1 hz2 rfl (by decide) v3 _ _ rfl (World.ownsRow.alloc O3.out _) ⟨W3.heap.size, 0, none⟩ 1 1 [.int .u8 10] rfl rfl (cell_one_new W3 _ _) (by intro u hu; simp at hu; subst hu; rfl) (by have := BDL.out.1; omega) (by have := BDL.out.2; omega) (Nat.le_trans s3.out (by simp)) ?_; intro v4 W4 k1 k2 k3 k4; have O4 := Lib.hid (OwB.lf k1); have B4 := Lib.hid ((B3.out.alloc s3.out _).grown k2 (Nat.le_trans s3.out (by simp)) (fun q e => (World.ownsRow.lt O3.out q e).1)); clear k1 k2 k3 k4))
                go_roundw
                case rel => exact ⟨i + 1, _, by omega, rfl, by unfold tldG; rw [if_pos (by have := HE.out; omega), ← HE.out, TS2.out]; simp [H3.out, H5.out] <;> omega, by rw [TS2.out]; simp [H3.out, H5.out] <;> omega, by go_num, by show OwB _ _ _ _; rw [TS1.out, grpT_eq, KK.out]; have := O4.out; rw [HLQ.out] at this; simpa [cmL, tbL, H3.out, H5.out] using this, B4.out⟩
                case measure => simp [intOf]; omega
              · have BD1 := Lib.hid (p := ((txG gs i)).length + (ByteArray.mk #[9, 10]).size ≤ maxLen ∧ ((txG gs i)).length + (ByteArray.mk #[9, 10]).size ≤ 140737488355328) (by have := ZB.out; have e : (ByteArray.mk #[9, 10]).size = 2 := rfl; unfold maxLen; simp only [List.length_append, e]; omega)
                have BD3 := Lib.hid (p := ((txG gs i) ++ (ByteArray.mk #[9, 10]).data.toList).length + (ByteArray.mk (spR K s).toArray).size ≤ maxLen ∧ ((txG gs i) ++ (ByteArray.mk #[9, 10]).data.toList).length + (ByteArray.mk (spR K s).toArray).size ≤ 140737488355328) (by have := ZB.out; have e : (ByteArray.mk (spR K s).toArray).size = (spR K s).length := by { show (spR K s).toArray.size = _; simp }; unfold maxLen; simp only [List.length_append, e]; have e3 : (ByteArray.mk #[9, 10]).data.toList.length = 2 := rfl; simp only [e3]; omega)
                have BD4 := Lib.hid (p := ((txG gs i) ++ (ByteArray.mk #[9, 10]).data.toList ++ (ByteArray.mk (spR K s).toArray).data.toList).length + 1 ≤ maxLen ∧ ((txG gs i) ++ (ByteArray.mk #[9, 10]).data.toList ++ (ByteArray.mk (spR K s).toArray).data.toList).length + 1 ≤ 140737488355328) (by have := ZB.out; have e : (ByteArray.mk (spR K s).toArray).data.toList.length = (spR K s).length := by { show (spR K s).toArray.toList.length = _; simp }; unfold maxLen; simp only [List.length_append, e]; have e3 : (ByteArray.mk #[9, 10]).data.toList.length = 2 := rfl; simp only [e3]; omega)
                have h3b : ((K : Int) % 3 == 0) = false := by simp; omega
                have h5b : ((K : Int) % 5 == 0) = true := by simp; omega
                have heb : ((i : Int) + 1 == (n : Int)) = false := by simp; omega
                have H3 := Lib.hid h3
                have H5 := Lib.hid h5
                have HE := Lib.hid he
                clear h3 h5 he
                have TK1 : True := trivial
                go_wp2_with (first
                  | (at_builtin; have qq := TK1; refine Lib.wpList_append_own_string _ rfl _ _ 37 9 rfl w3.heap.size 5 i0 Tryz.underlying37 Tryz.underlying9 hi hz0 hz1 hz2 _ _ _ rfl Ox.out (ByteArray.mk #[9, 10]) rfl (BD1.out.1) (BD1.out.2) sx.out ?_; intro v1 W1 k1 k2 _; have O1 := Lib.hid (OwB.str k1); have B1 := Lib.hid (Bx.out.grown k2 sx.out (fun q e => (World.ownsRow.lt Ox.out q e).1)); have s1 := Lib.hid (Nat.le_trans sx.out k2.size); have cl11 := HCL.out _ B1.out; clear k1 k2 TK1; have TK2 : True := trivial)
                  | (go_at_call 16; refine (KSP.out _).mono ?_; rintro e W2 ⟨rfl, hh⟩; have O2 := Lib.hid (show OwB W2 w3.heap.size _ _ from own_belQ O1.out hh); have B2 := Lib.hid (B1.out.trans (hh.mono s1.out)); have s2 := Lib.hid (Nat.le_trans s1.out hh.size); clear hh; have TK3 : True := trivial)
                  | (at_builtin; have qq := TK3; refine Lib.wpList_append_own_string _ rfl _ _ 37 9 rfl w3.heap.size 5 i0 Tryz.underlying37 Tryz.underlying9 hi hz0 hz1 hz2 _ _ _ rfl O2.out (ByteArray.mk (spR K s).toArray) rfl (BD3.out.1) (BD3.out.2) s2.out ?_; intro v3 W3 k1 k2 _; obtain ⟨lq, hlq, oq⟩ : ∃ l, l = (txG gs i) ++ (ByteArray.mk #[9, 10]).data.toList ++ (ByteArray.mk (spR K s).toArray).data.toList ∧ OwB W3 w3.heap.size v3 l := ⟨_, rfl, OwB.str k1⟩; have O3 := Lib.hid oq; have BDL := Lib.hid (p := lq.length + 1 ≤ maxLen ∧ lq.length + 1 ≤ 140737488355328) (by rw [hlq]; exact BD4.out); have HLQ := Lib.hid hlq; clear hlq oq; have B3 := Lib.hid (B2.out.grown k2 s2.out (fun q e => (World.ownsRow.lt O2.out q e).1)); have s3 := Lib.hid (Nat.le_trans s2.out k2.size); have cl13 := HCL.out _ B3.out; clear k1 k2 TK3; have TK4 : True := trivial)
                  | (at_builtin; have qq := TK4; refine wpList_append_own_at _ rfl _ _ 37 rfl w3.heap.size 5 i0 _ 1 1 Tryz.underlying37 hi hz0 hz1 hz2 rfl (by decide) v3 _ _ rfl (World.ownsRow.alloc O3.out _) ⟨W3.heap.size, 0, none⟩ 1 1 [.int .u8 10] rfl rfl (cell_one_new W3 _ _) (by intro u hu; simp at hu; subst hu; rfl) (by have := BDL.out.1; omega) (by have := BDL.out.2; omega) (Nat.le_trans s3.out (by simp)) ?_; intro v4 W4 k1 k2 k3 k4; have O4 := Lib.hid (OwB.lf k1); have B4 := Lib.hid ((B3.out.alloc s3.out _).grown k2 (Nat.le_trans s3.out (by simp)) (fun q e => (World.ownsRow.lt O3.out q e).1)); clear k1 k2 k3 k4))
                go_roundw
                case rel => exact ⟨i + 1, _, by omega, rfl, by have := TD1.out HE.out; rw [this], by rw [TS2.out]; simp [H3.out, H5.out] <;> omega, by go_num, by show OwB _ _ _ _; rw [TS1.out, grpT_eq, KK.out]; have := O4.out; rw [HLQ.out] at this; simpa [cmL, tbL, H3.out, H5.out] using this, B4.out⟩
                case measure => simp [intOf]; omega
            · by_cases he : i + 1 = n
              · have BD2 := Lib.hid (p := ((txG gs i)).length + (ByteArray.mk (spR K s).toArray).size ≤ maxLen ∧ ((txG gs i)).length + (ByteArray.mk (spR K s).toArray).size ≤ 140737488355328) (by have := ZB.out; have e : (ByteArray.mk (spR K s).toArray).size = (spR K s).length := by { show (spR K s).toArray.size = _; simp }; unfold maxLen; simp only [List.length_append, e]; omega)
                have BD3 := Lib.hid (p := ((txG gs i) ++ (ByteArray.mk (spR K s).toArray).data.toList).length + 1 ≤ maxLen ∧ ((txG gs i) ++ (ByteArray.mk (spR K s).toArray).data.toList).length + 1 ≤ 140737488355328) (by have := ZB.out; have e : (ByteArray.mk (spR K s).toArray).data.toList.length = (spR K s).length := by { show (spR K s).toArray.toList.length = _; simp }; unfold maxLen; simp only [List.length_append, e]; omega)
                have h3b : ((K : Int) % 3 == 0) = false := by simp; omega
                have h5b : ((K : Int) % 5 == 0) = false := by simp; omega
                have heb : ((i : Int) + 1 == (n : Int)) = true := by simp; omega
                have H3 := Lib.hid h3
                have H5 := Lib.hid h5
                have HE := Lib.hid he
                clear h3 h5 he
                have TK1 : True := trivial
                go_wp2_with (first
                  | (go_at_call 16; refine (KSP.out _).mono ?_; rintro e W1 ⟨rfl, hh⟩; have O1 := Lib.hid (show OwB W1 w3.heap.size _ _ from own_belQ Ox.out hh); have B1 := Lib.hid (Bx.out.trans (hh.mono sx.out)); have s1 := Lib.hid (Nat.le_trans sx.out hh.size); clear hh; have TK2 : True := trivial)
                  | (at_builtin; have qq := TK2; refine Lib.wpList_append_own_string _ rfl _ _ 37 9 rfl w3.heap.size 5 i0 Tryz.underlying37 Tryz.underlying9 hi hz0 hz1 hz2 _ _ _ rfl O1.out (ByteArray.mk (spR K s).toArray) rfl (BD2.out.1) (BD2.out.2) s1.out ?_; intro v2 W2 k1 k2 _; obtain ⟨lq, hlq, oq⟩ : ∃ l, l = (txG gs i) ++ (ByteArray.mk (spR K s).toArray).data.toList ∧ OwB W2 w3.heap.size v2 l := ⟨_, rfl, OwB.str k1⟩; have O2 := Lib.hid oq; have BDL := Lib.hid (p := lq.length + 1 ≤ maxLen ∧ lq.length + 1 ≤ 140737488355328) (by rw [hlq]; exact BD3.out); have HLQ := Lib.hid hlq; clear hlq oq; have B2 := Lib.hid (B1.out.grown k2 s1.out (fun q e => (World.ownsRow.lt O1.out q e).1)); have s2 := Lib.hid (Nat.le_trans s1.out k2.size); have cl12 := HCL.out _ B2.out; clear k1 k2 TK2; have TK3 : True := trivial)
                  | (at_builtin; have qq := TK3; refine wpList_append_own_at _ rfl _ _ 37 rfl w3.heap.size 5 i0 _ 1 1 Tryz.underlying37 hi hz0 hz1 hz2 rfl (by decide) v2 _ _ rfl (World.ownsRow.alloc O2.out _) ⟨W2.heap.size, 0, none⟩ 1 1 [.int .u8 10] rfl rfl (cell_one_new W2 _ _) (by intro u hu; simp at hu; subst hu; rfl) (by have := BDL.out.1; omega) (by have := BDL.out.2; omega) (Nat.le_trans s2.out (by simp)) ?_; intro v3 W3 k1 k2 k3 k4; have O3 := Lib.hid (OwB.lf k1); have B3 := Lib.hid ((B2.out.alloc s2.out _).grown k2 (Nat.le_trans s2.out (by simp)) (fun q e => (World.ownsRow.lt O2.out q e).1)); clear k1 k2 k3 k4))
                go_roundw
                case rel => exact ⟨i + 1, _, by omega, rfl, by unfold tldG; rw [if_pos (by have := HE.out; omega), ← HE.out, TS2.out]; simp [H3.out, H5.out] <;> omega, by rw [TS2.out]; simp [H3.out, H5.out] <;> omega, by go_num, by show OwB _ _ _ _; rw [TS1.out, grpT_eq, KK.out]; have := O3.out; rw [HLQ.out] at this; simpa [cmL, tbL, H3.out, H5.out] using this, B3.out⟩
                case measure => simp [intOf]; omega
              · have BD2 := Lib.hid (p := ((txG gs i)).length + (ByteArray.mk (spR K s).toArray).size ≤ maxLen ∧ ((txG gs i)).length + (ByteArray.mk (spR K s).toArray).size ≤ 140737488355328) (by have := ZB.out; have e : (ByteArray.mk (spR K s).toArray).size = (spR K s).length := by { show (spR K s).toArray.size = _; simp }; unfold maxLen; simp only [List.length_append, e]; omega)
                have BD3 := Lib.hid (p := ((txG gs i) ++ (ByteArray.mk (spR K s).toArray).data.toList).length + 1 ≤ maxLen ∧ ((txG gs i) ++ (ByteArray.mk (spR K s).toArray).data.toList).length + 1 ≤ 140737488355328) (by have := ZB.out; have e : (ByteArray.mk (spR K s).toArray).data.toList.length = (spR K s).length := by { show (spR K s).toArray.toList.length = _; simp }; unfold maxLen; simp only [List.length_append, e]; omega)
                have h3b : ((K : Int) % 3 == 0) = false := by simp; omega
                have h5b : ((K : Int) % 5 == 0) = false := by simp; omega
                have heb : ((i : Int) + 1 == (n : Int)) = false := by simp; omega
                have H3 := Lib.hid h3
                have H5 := Lib.hid h5
                have HE := Lib.hid he
                clear h3 h5 he
                have TK1 : True := trivial
                go_wp2_with (first
                  | (go_at_call 16; refine (KSP.out _).mono ?_; rintro e W1 ⟨rfl, hh⟩; have O1 := Lib.hid (show OwB W1 w3.heap.size _ _ from own_belQ Ox.out hh); have B1 := Lib.hid (Bx.out.trans (hh.mono sx.out)); have s1 := Lib.hid (Nat.le_trans sx.out hh.size); clear hh; have TK2 : True := trivial)
                  | (at_builtin; have qq := TK2; refine Lib.wpList_append_own_string _ rfl _ _ 37 9 rfl w3.heap.size 5 i0 Tryz.underlying37 Tryz.underlying9 hi hz0 hz1 hz2 _ _ _ rfl O1.out (ByteArray.mk (spR K s).toArray) rfl (BD2.out.1) (BD2.out.2) s1.out ?_; intro v2 W2 k1 k2 _; obtain ⟨lq, hlq, oq⟩ : ∃ l, l = (txG gs i) ++ (ByteArray.mk (spR K s).toArray).data.toList ∧ OwB W2 w3.heap.size v2 l := ⟨_, rfl, OwB.str k1⟩; have O2 := Lib.hid oq; have BDL := Lib.hid (p := lq.length + 1 ≤ maxLen ∧ lq.length + 1 ≤ 140737488355328) (by rw [hlq]; exact BD3.out); have HLQ := Lib.hid hlq; clear hlq oq; have B2 := Lib.hid (B1.out.grown k2 s1.out (fun q e => (World.ownsRow.lt O1.out q e).1)); have s2 := Lib.hid (Nat.le_trans s1.out k2.size); have cl12 := HCL.out _ B2.out; clear k1 k2 TK2; have TK3 : True := trivial)
                  | (at_builtin; have qq := TK3; refine wpList_append_own_at _ rfl _ _ 37 rfl w3.heap.size 5 i0 _ 1 1 Tryz.underlying37 hi hz0 hz1 hz2 rfl (by decide) v2 _ _ rfl (World.ownsRow.alloc O2.out _) ⟨W2.heap.size, 0, none⟩ 1 1 [.int .u8 10] rfl rfl (cell_one_new W2 _ _) (by intro u hu; simp at hu; subst hu; rfl) (by have := BDL.out.1; omega) (by have := BDL.out.2; omega) (Nat.le_trans s2.out (by simp)) ?_; intro v3 W3 k1 k2 k3 k4; have O3 := Lib.hid (OwB.lf k1); have B3 := Lib.hid ((B2.out.alloc s2.out _).grown k2 (Nat.le_trans s2.out (by simp)) (fun q e => (World.ownsRow.lt O2.out q e).1)); clear k1 k2 k3 k4))
                go_roundw
                case rel => exact ⟨i + 1, _, by omega, rfl, by have := TD1.out HE.out; rw [this], by rw [TS2.out]; simp [H3.out, H5.out] <;> omega, by go_num, by show OwB _ _ _ _; rw [TS1.out, grpT_eq, KK.out]; have := O3.out; rw [HLQ.out] at this; simpa [cmL, tbL, H3.out, H5.out] using this, B3.out⟩
                case measure => simp [intOf]; omega
      · obtain rfl : i = L := by omega
        have BW := Lib.hid (B3.out.trans (HB.out.mono B3.out.size))
        have CL0 := CL.out i (Nat.le_refl _)
        have TGi := Lib.hid (TG.out i (Nat.le_refl _))
        obtain ⟨a9, cap9, rfl, CV⟩ := conv_own HB1.out
        by_cases hnL : i < n
        · have E2 := Lib.hid (p := outA ⟨(txG gs i).toArray⟩ = (oa, ((cntG (gs.take i) : Nat) : Int) + 1, E)) (by
            rw [HO2.out]
            unfold toldG
            rw [if_pos hnL, CE.out]
            rfl)
          have c1 : (i : Int) < (n : Int) := by omega
          have cb : decide ((i : Int) < (n : Int)) = true := by simp; omega
          have cb2 : decide (i < n) = true := by simp; omega
          clear HO2 KL1 KH CLn TS HB1
          go_wp2_with (first
            | (go_at_call 10; refine (KP.out W BW.out _).mono ?_; rintro e w7 ⟨⟨d0, e0, f0, d1, e1, f1, d2, e2, f2, m0, m1, m2, m3, d3, e3, f3⟩, rfl, hpv, hkey, hb⟩; rw [E2.out] at hkey ⊢; simp only [Pg.agg]; have P7 := Lib.hid hpv; have Q7 := Lib.hid hkey; have B7 := Lib.hid (BW.out.trans (hb.mono BW.out.size)); have A7 := Lib.hid (B7.out.trans ((allocBP w7 (.cells #[.slice d0 f0.length e0, .slice d1 f1.length e1, .slice d2 f2.length e2, .int .i64 m0, .int .i64 m1, .int .i64 m2, .int .i64 m3, .slice d3 f3.length e3] 27)).mono B7.out.size)); have W7 := Lib.hid (p := Below W.heap.size W (w7.alloc (.cells #[.slice d0 f0.length e0, .slice d1 f1.length e1, .slice d2 f2.length e2, .int .i64 m0, .int .i64 m1, .int .i64 m2, .int .i64 m3, .slice d3 f3.length e3] 27))) (hb.trans ((allocBP w7 (.cells #[.slice d0 f0.length e0, .slice d1 f1.length e1, .slice d2 f2.length e2, .int .i64 m0, .int .i64 m1, .int .i64 m2, .int .i64 m3, .slice d3 f3.length e3] 27)).mono hb.size)); have V7 := Lib.hid (p := Below w2.heap.size w2 (w7.alloc (.cells #[.slice d0 f0.length e0, .slice d1 f1.length e1, .slice d2 f2.length e2, .int .i64 m0, .int .i64 m1, .int .i64 m2, .int .i64 m3, .slice d3 f3.length e3] 27))) (X23.out.trans ((HB.out.trans (W7.out.mono HB.out.size)).mono X23.out.size)); obtain ⟨y0, y1, y2, y3, y4, y5, y6, y7⟩ := box_8Q (heapN w7 (.cells #[.slice d0 f0.length e0, .slice d1 f1.length e1, .slice d2 f2.length e2, .int .i64 m0, .int .i64 m1, .int .i64 m2, .int .i64 m3, .slice d3 f3.length e3] 27)); obtain ⟨x0, x1, x2, x3, x4, x5, x6, x7⟩ := box_8Q (BP2.out (w7.alloc (.cells #[.slice d0 f0.length e0, .slice d1 f1.length e1, .slice d2 f2.length e2, .int .i64 m0, .int .i64 m1, .int .i64 m2, .int .i64 m3, .slice d3 f3.length e3] 27)) (HB.out.trans (W7.out.mono HB.out.size))); have KS := Lib.hid (same13_any (w := w7.alloc (.cells #[.slice d0 f0.length e0, .slice d1 f1.length e1, .slice d2 f2.length e2, .int .i64 m0, .int .i64 m1, .int .i64 m2, .int .i64 m3, .slice d3 f3.length e3] 27)) (P2.out.later V7.out) (P7.out.later (allocBP w7 _)) (Q7.out.trans Q2.out.symm)); clear hpv hkey hb)
            | (go_at_call 11; refine KS.out.mono ?_; rintro e w8 ⟨rfl, h8⟩; have B8 := Lib.hid (A7.out.trans (h8.mono A7.out.size)); clear h8))
          go_ret
          exact ⟨by simp, B8.out⟩
        · have E2 := Lib.hid (p := outA ⟨(txG gs i).toArray⟩ = (oa, ((tldG gs n i : Nat) : Int), E)) (by
            rw [HO2.out]
            have : toldG gs i n = tldG gs n i := by
              unfold toldG tldG
              rw [if_neg hnL]
              by_cases q : 0 < n
              · rw [if_pos ⟨q, by omega⟩]
              · rw [if_neg (fun z => q z.1), show n = 0 by omega]
                rfl
            rw [this])
          have c1 : ¬ (i : Int) < (n : Int) := by omega
          have cb : decide ((i : Int) < (n : Int)) = false := by simp; omega
          have cb2 : decide (i < n) = false := by simp; omega
          clear HO2 KL1 KH CLn TS HB1
          go_wp2_with (first
            | (go_at_call 10; refine (KP.out W BW.out _).mono ?_; rintro e w7 ⟨⟨d0, e0, f0, d1, e1, f1, d2, e2, f2, m0, m1, m2, m3, d3, e3, f3⟩, rfl, hpv, hkey, hb⟩; rw [E2.out] at hkey ⊢; simp only [Pg.agg]; have P7 := Lib.hid hpv; have Q7 := Lib.hid hkey; have B7 := Lib.hid (BW.out.trans (hb.mono BW.out.size)); have A7 := Lib.hid (B7.out.trans ((allocBP w7 (.cells #[.slice d0 f0.length e0, .slice d1 f1.length e1, .slice d2 f2.length e2, .int .i64 m0, .int .i64 m1, .int .i64 m2, .int .i64 m3, .slice d3 f3.length e3] 27)).mono B7.out.size)); have W7 := Lib.hid (p := Below W.heap.size W (w7.alloc (.cells #[.slice d0 f0.length e0, .slice d1 f1.length e1, .slice d2 f2.length e2, .int .i64 m0, .int .i64 m1, .int .i64 m2, .int .i64 m3, .slice d3 f3.length e3] 27))) (hb.trans ((allocBP w7 (.cells #[.slice d0 f0.length e0, .slice d1 f1.length e1, .slice d2 f2.length e2, .int .i64 m0, .int .i64 m1, .int .i64 m2, .int .i64 m3, .slice d3 f3.length e3] 27)).mono hb.size)); have V7 := Lib.hid (p := Below w2.heap.size w2 (w7.alloc (.cells #[.slice d0 f0.length e0, .slice d1 f1.length e1, .slice d2 f2.length e2, .int .i64 m0, .int .i64 m1, .int .i64 m2, .int .i64 m3, .slice d3 f3.length e3] 27))) (X23.out.trans ((HB.out.trans (W7.out.mono HB.out.size)).mono X23.out.size)); obtain ⟨y0, y1, y2, y3, y4, y5, y6, y7⟩ := box_8Q (heapN w7 (.cells #[.slice d0 f0.length e0, .slice d1 f1.length e1, .slice d2 f2.length e2, .int .i64 m0, .int .i64 m1, .int .i64 m2, .int .i64 m3, .slice d3 f3.length e3] 27)); obtain ⟨x0, x1, x2, x3, x4, x5, x6, x7⟩ := box_8Q (BP2.out (w7.alloc (.cells #[.slice d0 f0.length e0, .slice d1 f1.length e1, .slice d2 f2.length e2, .int .i64 m0, .int .i64 m1, .int .i64 m2, .int .i64 m3, .slice d3 f3.length e3] 27)) (HB.out.trans (W7.out.mono HB.out.size))); have KS := Lib.hid (same13_any (w := w7.alloc (.cells #[.slice d0 f0.length e0, .slice d1 f1.length e1, .slice d2 f2.length e2, .int .i64 m0, .int .i64 m1, .int .i64 m2, .int .i64 m3, .slice d3 f3.length e3] 27)) (P2.out.later V7.out) (P7.out.later (allocBP w7 _)) (Q7.out.trans Q2.out.symm)); clear hpv hkey hb)
            | (go_at_call 11; refine KS.out.mono ?_; rintro e w8 ⟨rfl, h8⟩; have B8 := Lib.hid (A7.out.trans (h8.mono A7.out.size)); clear h8))
          go_ret
          exact ⟨by simp, B8.out⟩
  · have z1 : (131072 : Int) < (text.size : Int) := by omega
    go_enter Tryz.func6, Tryz.ntmps6
    go_upto_region 2 with (go_at_call 9; refine (KH.out _ B0.out).mono ?_; rintro e w1 ⟨rfl, h1⟩; have B1 := Lib.hid h1; clear h1)
    go_wp2_with (go_at_call 9; refine (KH.out _ B1.out).mono ?_; rintro e w2 ⟨rfl, h2⟩; have B2 := Lib.hid (B1.out.trans (h2.mono B1.out.size)); clear h2)
    go_ret
    exact ⟨rfl, B2.out⟩
end Go.Proofs.YtkjmkhmjaknfhaaGreatDoor
