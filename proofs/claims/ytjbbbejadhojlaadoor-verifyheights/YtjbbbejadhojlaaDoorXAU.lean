import Derived.Test.YtjbbbejadhojlaaDoorXAT
namespace Go.Proofs.YtjbbbejadhojlaaDoor
open Go.RowKit
set_option linter.unusedVariables false
set_option linter.unusedSimpArgs false
/-- What lies there when hand begins. -/
structure HnI (w : World) (hb : Bool) (ta : Option Addr) (tn tc : Nat) (ua : Option Addr) (um uc : Nat) (sa : Option Addr) (sn sc : Nat) (ka : Option Addr) (km kc : Nat) (W : World) : Prop where
  bel : Below w.heap.size w W
  tb : BkP W w.heap.size #[.bool hb, .slice ta tn tc, .slice ua um uc] 72
  sb : BkP W (w.heap.size + 1) #[.bool true, .slice sa sn sc, .slice ka km kc] 72
  zb : BkP W (w.heap.size + 2) #[.bool false, .slice none 0 0, .slice none 0 0] 72
theorem HnI.lat {w : World} {hb : Bool} {ta : Option Addr} {tn tc : Nat} {ua : Option Addr} {um uc : Nat} {sa : Option Addr} {sn sc : Nat} {ka : Option Addr} {km kc : Nat} {W W' : World} (h : HnI w hb ta tn tc ua um uc sa sn sc ka km kc W) (b : Below W.heap.size W W') : HnI w hb ta tn tc ua um uc sa sn sc ka km kc W' := ⟨h.bel.trans (b.mono h.bel.size), h.tb.lat b, h.sb.lat b, h.zb.lat b⟩
theorem hn_start (w : World) (hb : Bool) (ta : Option Addr) (tn tc : Nat) (ua : Option Addr) (um uc : Nat) (sa : Option Addr) (sn sc : Nat) (ka : Option Addr) (km kc : Nat) : HnI w hb ta tn tc ua um uc sa sn sc ka km kc (((w.alloc (.cells #[.bool hb, .slice ta tn tc, .slice ua um uc] 72)).alloc (.cells #[.bool true, .slice sa sn sc, .slice ka km kc] 72)).alloc (.cells #[.bool false, .slice none 0 0, .slice none 0 0] 72)) := by
  obtain ⟨W1, h1⟩ : ∃ W, w.alloc (.cells #[.bool hb, .slice ta tn tc, .slice ua um uc] 72) = W := ⟨_, rfl⟩
  rw [h1]
  obtain ⟨W2, h2⟩ : ∃ W, W1.alloc (.cells #[.bool true, .slice sa sn sc, .slice ka km kc] 72) = W := ⟨_, rfl⟩
  rw [h2]
  have s1 : W1.heap.size = w.heap.size + 1 := by rw [← h1]; simp
  have s2 : W2.heap.size = w.heap.size + 2 := by rw [← h2]; simp [s1]
  have b1 : Below w.heap.size w W1 := by rw [← h1]; exact allocBP _ _
  have b2 : Below W1.heap.size W1 W2 := by rw [← h2]; exact allocBP _ _
  have b3 := allocBP W2 (.cells #[.bool false, .slice none 0 0, .slice none 0 0] 72)
  have t1 : BkP W1 w.heap.size #[.bool hb, .slice ta tn tc, .slice ua um uc] 72 := by rw [← h1]; exact heapN _ _
  have t2 : BkP W2 W1.heap.size #[.bool true, .slice sa sn sc, .slice ka km kc] 72 := by rw [← h2]; exact heapN _ _
  have t3 : BkP (W2.alloc (.cells #[.bool false, .slice none 0 0, .slice none 0 0] 72)) W2.heap.size #[.bool false, .slice none 0 0, .slice none 0 0] 72 := heapN _ _
  rw [s1] at t2
  rw [s2] at t3
  have b12 := b1.trans (b2.mono b1.size)
  exact ⟨b12.trans (b3.mono b12.size), (t1.lat b2).lat b3, t2.lat b3, t3⟩
set_option maxRecDepth 100000 in
theorem hand14_none {w : World} {sa : Option Addr} {sn sc : Nat} {ka : Option Addr} {km kc : Nat} : Calls Tryd.prog 34 #[.agg #[.bool false, .slice none 0 0, .slice none 0 0], .agg #[.bool true, .slice sa sn sc, .slice ka km kc]] w fun e w' => e = .returned (.tuple #[.agg #[.bool true, .slice sa sn sc, .slice ka km kc], .int .i64 0]) ∧ Below w.heap.size w w' := by
  have hI := hn_start w false none 0 0 none 0 0 sa sn sc ka km kc
  obtain ⟨W0, hW0⟩ : ∃ W, ((w.alloc (.cells #[.bool false, .slice none 0 0, .slice none 0 0] 72)).alloc (.cells #[.bool true, .slice sa sn sc, .slice ka km kc] 72)).alloc (.cells #[.bool false, .slice none 0 0, .slice none 0 0] 72) = W := ⟨_, rfl⟩
  rw [hW0] at hI
  obtain ⟨t0, t1, t2⟩ := box_3R hI.tb
  obtain ⟨s0, s1, s2⟩ := box_3R hI.sb
  obtain ⟨z0, z1, z2⟩ := box_3R hI.zb
  have f0 := hI.zb.frozen 0
  have f1 := hI.zb.frozen 1
  have f2 := hI.zb.frozen 2
  have HW := Lib.hid hW0
  have BW := Lib.hid hI.bel
  clear hI hW0
  go_enter Tryd.func34, Tryd.ntmps34
  go_upto_region 1 with fail
  rw [HW.out, show w.heap.size + 1 + 1 = w.heap.size + 2 from rfl]
  go_wp2
  refine bodyPost_ret (v := .tuple #[.agg #[.bool true, .slice sa sn sc, .slice ka km kc], .int .i64 0]) ?r rfl ?s
  case r => simp [results, Tryd.results34, go_sem, z0, z1, z2, f0, f1, f2]
  case s => exact ⟨rfl, ((BW.out.setCell (by exact Nat.le_add_right _ _) _).setCell (by exact Nat.le_add_right _ _) _).setCell (by exact Nat.le_add_right _ _) _⟩
set_option maxRecDepth 100000 in
theorem hand14_len {w : World} {ta : Option Addr} {tn tc : Nat} {ua : Option Addr} {um uc : Nat} {sa : Option Addr} {sn sc : Nat} {ka : Option Addr} {km kc : Nat} (hn : tn ≠ sn) : Calls Tryd.prog 34 #[.agg #[.bool true, .slice ta tn tc, .slice ua um uc], .agg #[.bool true, .slice sa sn sc, .slice ka km kc]] w fun e w' => e = .returned (.tuple #[.agg #[.bool true, .slice ta tn tc, .slice ua um uc], .int .i64 142]) ∧ Below w.heap.size w w' := by
  have hI := hn_start w true ta tn tc ua um uc sa sn sc ka km kc
  obtain ⟨W0, hW0⟩ : ∃ W, ((w.alloc (.cells #[.bool true, .slice ta tn tc, .slice ua um uc] 72)).alloc (.cells #[.bool true, .slice sa sn sc, .slice ka km kc] 72)).alloc (.cells #[.bool false, .slice none 0 0, .slice none 0 0] 72) = W := ⟨_, rfl⟩
  rw [hW0] at hI
  obtain ⟨t0, t1, t2⟩ := box_3R hI.tb
  obtain ⟨s0, s1, s2⟩ := box_3R hI.sb
  obtain ⟨z0, z1, z2⟩ := box_3R hI.zb
  have f0 := hI.zb.frozen 0
  have f1 := hI.zb.frozen 1
  have f2 := hI.zb.frozen 2
  have n1 : ¬ (tn : Int) = (sn : Int) := by omega
  have n2 : (tn != sn) = true := by simpa using hn
  have HW := Lib.hid hW0
  have BW := Lib.hid hI.bel
  clear hI hW0
  go_enter Tryd.func34, Tryd.ntmps34
  go_upto_region 1 with fail
  rw [HW.out, show w.heap.size + 1 + 1 = w.heap.size + 2 from rfl]
  go_wp2
  refine bodyPost_ret (v := .tuple #[.agg #[.bool true, .slice ta tn tc, .slice ua um uc], .int .i64 142]) ?r rfl ?s
  case r => simp [results, Tryd.results34, go_sem, z0, z1, z2, f0, f1, f2]
  case s => exact ⟨rfl, ((BW.out.setCell (by exact Nat.le_add_right _ _) _).setCell (by exact Nat.le_add_right _ _) _).setCell (by exact Nat.le_add_right _ _) _⟩
end Go.Proofs.YtjbbbejadhojlaaDoor

namespace Go.Proofs.YtjbbbejadhojlaaDoor
open Go.RowKit
set_option linter.unusedVariables false
set_option linter.unusedSimpArgs false
theorem list_ne {x y : List Nat} (h : x.length = y.length) (e : ∀ i, i < x.length → x.getD i 0 = y.getD i 0) : x = y := by
  apply List.ext_getElem?
  intro i
  by_cases hi : i < x.length
  · have := e i hi
    have hi2 : i < y.length := by omega
    simp only [List.getD, List.getElem?_eq_getElem hi, List.getElem?_eq_getElem hi2, Option.getD_some] at this
    rw [List.getElem?_eq_getElem hi, List.getElem?_eq_getElem hi2, this]
  · rw [List.getElem?_eq_none (by omega), List.getElem?_eq_none (by omega)]
set_option maxRecDepth 100000 in
set_option maxHeartbeats 1600000 in
theorem hand14_sort {w : World} {ta : Option Addr} {n tc : Nat} {ua : Option Addr} {um uc : Nat} {sa : Option Addr} {sc : Nat} {ka : Option Addr} {km kc : Nat} {x y : List Nat} (hx : StkL w ta n x) (hy : StkL w sa n y) (hn : n ≤ 1000000) (ne : x ≠ y) : Calls Tryd.prog 34 #[.agg #[.bool true, .slice ta n tc, .slice ua um uc], .agg #[.bool true, .slice sa n sc, .slice ka km kc]] w fun e w' => e = .returned (.tuple #[.agg #[.bool true, .slice ta n tc, .slice ua um uc], .int .i64 143]) ∧ Below w.heap.size w w' := by
  have hI := hn_start w true ta n tc ua um uc sa n sc ka km kc
  obtain ⟨W0, hW0⟩ : ∃ W, ((w.alloc (.cells #[.bool true, .slice ta n tc, .slice ua um uc] 72)).alloc (.cells #[.bool true, .slice sa n sc, .slice ka km kc] 72)).alloc (.cells #[.bool false, .slice none 0 0, .slice none 0 0] 72) = W := ⟨_, rfl⟩
  rw [hW0] at hI
  have CL := Lib.hid (p := ∀ V, Below W0.heap.size W0 V → (V.cell? ⟨w.heap.size, 0, none⟩ = some (.bool true) ∧ V.cell? ⟨w.heap.size, 1, none⟩ = some (.slice ta n tc) ∧ V.cell? ⟨w.heap.size, 2, none⟩ = some (.slice ua um uc)) ∧ (V.cell? ⟨w.heap.size + 1, 0, none⟩ = some (.bool true) ∧ V.cell? ⟨w.heap.size + 1, 1, none⟩ = some (.slice sa n sc) ∧ V.cell? ⟨w.heap.size + 1, 2, none⟩ = some (.slice ka km kc)) ∧ BkP V (w.heap.size + 2) #[.bool false, .slice none 0 0, .slice none 0 0] 72 ∧ Below w.heap.size w V) (fun V b => ⟨box_3R (hI.lat b).tb, box_3R (hI.lat b).sb, (hI.lat b).zb, (hI.lat b).bel⟩)
  have XC := Lib.hid (p := ∀ k, k < n → ∃ p u q v, ta = some ⟨p, u, none⟩ ∧ sa = some ⟨q, v, none⟩ ∧ ∀ V, Below W0.heap.size W0 V → V.cell? ⟨p, u + k, none⟩ = some (.int .i64 (x.getD k 0 : Int)) ∧ V.cell? ⟨q, v + k, none⟩ = some (.int .i64 (y.getD k 0 : Int))) (fun k hk => by
    obtain ⟨p, u, e1, l1, h1⟩ := hx.2.at hk
    obtain ⟨q, v, e2, l2, h2⟩ := hy.2.at hk
    refine ⟨p, u, q, v, e1, e2, fun V b => ?_⟩
    have b' := hI.bel.trans (b.mono hI.bel.size)
    have g1 := h1 0 (by omega)
    have g2 := h2 0 (by omega)
    rw [Nat.mul_one, Nat.add_zero] at g1 g2
    exact ⟨(b'.cell (p := ⟨p, u + k, none⟩) l1).trans g1, (b'.cell (p := ⟨q, v + k, none⟩) l2).trans g2⟩)
  have LE := Lib.hid (p := (∀ i, i < n → x.getD i 0 = y.getD i 0) → False) (fun e => ne (list_ne (by rw [hx.1, hy.1]) (fun i hi => e i (by rw [← hx.1]; exact hi))))
  have HW := Lib.hid hW0
  clear hI hW0 hx hy ne
  obtain ⟨⟨t0, t1, t2⟩, ⟨s0, s1, s2⟩, _⟩ := CL.out W0 (Below.refl _ _)
  go_enter Tryd.func34, Tryd.ntmps34
  go_upto_region 1 with fail
  rw [HW.out, show w.heap.size + 1 + 1 = w.heap.size + 2 from rfl]
  go_wp2
  clear t0 t1 t2 s0 s1 s2
  go_loopw [6] (fun t wr => ∃ k : Nat, k ≤ n ∧ t = .int .i64 (k : Int) ∧ Below W0.heap.size W0 wr ∧ RowKit.Hid (∀ i, i < k → x.getD i 0 = y.getD i 0)) (fun t _ => n - (intOf t).toNat)
  case atStart => exact ⟨0, by omega, rfl, Below.refl _ _, fun i hi => by omega⟩
  case round =>
    rename World => wr
    obtain ⟨k, hk, rfl, hB, hE⟩ := hrel
    have BB := Lib.hid hB
    obtain ⟨⟨t0, t1, t2⟩, ⟨s0, s1, s2⟩, zb, bw⟩ := CL.out wr hB
    by_cases hlt : k < n
    · obtain ⟨p, u, q, v, rfl, rfl, hc⟩ := XC.out k hlt
      obtain ⟨c0, e0⟩ := hc wr hB
      have kc' : (k : Int) < (n : Int) := by omega
      have k0 : ¬ (k : Int) < 0 := by omega
      have ks : IntKind.i64.wrap ((k : Int) + 1) = (k : Int) + 1 := by simp [IntKind.wrap, IntKind.bits, IntKind.signed]; omega
      by_cases z : x.getD k 0 = y.getD k 0
      · have NX := Lib.hid (p := ∀ i, i < k + 1 → x.getD i 0 = y.getD i 0) (fun i hi => by
          by_cases r : i = k
          · rw [r]; exact z
          · exact hE.out i (by omega))
        clear hE hB hc zb bw
        generalize x.getD k 0 = xv at *
        generalize y.getD k 0 = yv at *
        subst z
        go_wp2
        go_quiet (fail)
        go_wp2
        refine ⟨⟨k + 1, by omega, by simp, BB.out.trans (drewN_below' wr nq W0.heap.size), NX.out⟩, ?_⟩
        simp [intOf]
        omega
      · have Z1 := Lib.hid (p := ∀ nq, BkP (wr.drewN nq) (w.heap.size + 2) #[.bool false, .slice none 0 0, .slice none 0 0] 72 ∧ Below w.heap.size w (wr.drewN nq)) (fun nq => ⟨zb.lat (drewN_below' wr nq _), bw.trans (drewN_below' wr nq _)⟩)
        obtain ⟨z0, z1, z2⟩ := box_3R zb
        have f0 := zb.frozen 0
        have f1 := zb.frozen 1
        have f2 := zb.frozen 2
        have z3 : ¬ (x.getD k 0 : Int) = (y.getD k 0 : Int) := by omega
        have z4 : (x.getD k 0 != y.getD k 0) = true := by simpa using z
        have z5 : ((x.getD k 0 : Int) != (y.getD k 0 : Int)) = true := by simpa using z3
        clear hE hB hc zb bw
        generalize x.getD k 0 = xv at *
        generalize y.getD k 0 = yv at *
        go_wp2
        go_quiet (fail)
        go_wp2
        refine bodyPost_ret (v := .tuple #[.agg #[.bool true, .slice (some ⟨p, u, none⟩) n tc, .slice ua um uc], .int .i64 143]) ?r rfl ?s
        case r => simp [results, Tryd.results34, go_sem, z0, z1, z2, f0, f1, f2]
        case s => exact ⟨rfl, (((Z1.out nq).2.setCell (by exact Nat.le_add_right _ _) _).setCell (by exact Nat.le_add_right _ _) _).setCell (by exact Nat.le_add_right _ _) _⟩
    · obtain rfl : k = n := by omega
      exact (LE.out hE.out).elim
end Go.Proofs.YtjbbbejadhojlaaDoor

namespace Go.Proofs.YtjbbbejadhojlaaDoor
open Go.RowKit
set_option linter.unusedVariables false
set_option linter.unusedSimpArgs false
theorem dMeet_next {t l : List (Nat × Nat)} {j : Nat} (hj : j < l.length) : dMeet t (l.take (j + 1)) = if dSlot t (l.getD j default).1 = (l.getD j default).2 then dMeet t (l.take j) ++ [l.getD j default] else dMeet t (l.take j) := by
  unfold dMeet
  rw [List.take_succ_eq_append_getElem hj, List.filter_append]
  have e : l.getD j default = l[j] := by simp [List.getD, hj]
  rw [e]
  by_cases z : dSlot t l[j].1 = l[j].2
  · rw [if_pos z]
    simp [z]
  · rw [if_neg z]
    simp [z]
theorem dMeet_len {t l : List (Nat × Nat)} : (dMeet t l).length ≤ l.length := by unfold dMeet; exact List.length_filter_le _ _
theorem bk_blockR {w : World} {b c : Nat} {k : Nat} {v : Value} (hbc : b ≠ c) : (w.setCell ⟨c, k, none⟩ v).heap[b]? = w.heap[b]? := by
  simp only [World.setCell, Array.getElem?_modify, if_neg (Ne.symm hbc)]
/-- The slots are being met. -/
structure HoI (w : World) (ta : Option Addr) (n tc : Nat) (ua : Option Addr) (um uc : Nat) (sa : Option Addr) (sc : Nat) (ka : Option Addr) (km kc : Nat) (ob : Nat) (m : List (Nat × Nat)) (a : Option Addr) (c : Nat) (W : World) : Prop where
  hn : HnI w true ta n tc ua um uc sa n sc ka km kc W
  og : w.heap.size + 2 < ob
  bx : BkP W ob #[.bool true, .slice sa n sc, .slice a m.length c] 72
  own : OwKp W w.heap.size (.slice a m.length c) m
section
variable {w : World} {ta : Option Addr} {n tc : Nat} {ua : Option Addr} {um uc : Nat} {sa : Option Addr} {sc : Nat} {ka : Option Addr} {km kc : Nat} {ob : Nat} {m : List (Nat × Nat)} {a : Option Addr} {c : Nat} {W : World}
theorem HoI.lat {W' : World} (h : HoI w ta n tc ua um uc sa sc ka km kc ob m a c W) (b : Below W.heap.size W W') : HoI w ta n tc ua um uc sa sc ka km kc ob m a c W' := ⟨h.hn.lat b, h.og, h.bx.lat b, h.own.lat b⟩
theorem HoI.next (h : HoI w ta n tc ua um uc sa sc ka km kc ob m a c W) (hm : m.length ≤ 1000000) (e : Nat × Nat) : ∃ a' c' w', (∀ ty, (Builtin.append_ #[70, 70] ty #[.slice a m.length c, .slice (some ⟨W.heap.size, 0, none⟩) 1 1]).run Tryd.prog (W.alloc (.cells #[.int .i64 (e.1 : Int), .int .i64 (e.2 : Int)] 112)) = .ok (.slice a' (m.length + 1) c') w') ∧ w'.cell? ⟨ob, 2, none⟩ = some (.slice a m.length c) ∧ w'.frozen? ⟨ob, 2, none⟩ = false ∧ HnI w true ta n tc ua um uc sa n sc ka km kc w' ∧ RowKit.Hid (HoI w ta n tc ua um uc sa sc ka km kc ob (m ++ [e]) a' c' (w'.setCell ⟨ob, 2, none⟩ (.slice a' (m.length + 1) c'))) := by
  obtain ⟨a', c', w', r, q⟩ := h.own.next hm h.hn.bel.size e
  obtain ⟨o', g, bl⟩ := q.out
  have keep : ∀ {x : Nat} {cs : Array Value}, BkP W x cs 72 → BkP w' x cs 72 := fun {x cs} bk => (g.block x (Array.getElem?_eq_some_iff.1 bk).1 (fun z => own_neB h.own bk (by decide) z.symm)).trans bk
  have hn' : HnI w true ta n tc ua um uc sa n sc ka km kc w' := ⟨h.hn.bel.trans (bl w.heap.size (Nat.le_refl _)), keep h.hn.tb, keep h.hn.sb, keep h.hn.zb⟩
  have bx' := keep h.bx
  have og := h.og
  refine ⟨a', c', w', r, by rw [bx'.cell]; rfl, bx'.frozen 2, hn', ⟨⟨hn'.bel.setCell (by exact (by omega : w.heap.size ≤ ob)) _, hn'.tb.other _ _ _ (by omega), hn'.sb.other _ _ _ (by omega), hn'.zb.other _ _ _ (by omega)⟩, og, ?_, ?_⟩⟩
  · have := bx'.set2 2 (.slice a' (m.length + 1) c') (by simp)
    simpa using this
  · have ll : (m ++ [e]).length = m.length + 1 := by simp
    rw [ll]
    unfold OwKp at o' ⊢
    exact own_blkG o' (fun x hx => bk_blockR (fun z => own_neB o' bx' (by decide) (by rw [hx, z])))
end
/-- What hand answers when all goes well. -/
def HkE (w : World) (sa : Option Addr) (n sc : Nat) (l : List (Nat × Nat)) (e : Ending) (w' : World) : Prop := ∃ a c, e = .returned (.tuple #[.agg #[.bool true, .slice sa n sc, .slice a l.length c], .int .i64 0]) ∧ OwKp w' w.heap.size (.slice a l.length c) l ∧ Below w.heap.size w w'
set_option maxRecDepth 100000 in
set_option maxHeartbeats 3200000 in
theorem hand14_ok {w : World} {ta : Option Addr} {n tc : Nat} {ua : Option Addr} {um uc : Nat} {sa : Option Addr} {sc : Nat} {ka : Option Addr} {km kc : Nat} {x : List Nat} {tl sl : List (Nat × Nat)} (hx : StkL w ta n x) (hy : StkL w sa n x) (ht : KptL w ua um tl) (hs : KptL w ka km sl) (hn : n ≤ 1000000) (hu : um ≤ 1000000) (hk : km ≤ 1000000) : Calls Tryd.prog 34 #[.agg #[.bool true, .slice ta n tc, .slice ua um uc], .agg #[.bool true, .slice sa n sc, .slice ka km kc]] w fun e w' => HkE w sa n sc (dMeet tl sl) e w' := by
  have hI := hn_start w true ta n tc ua um uc sa n sc ka km kc
  obtain ⟨W0, hW0⟩ : ∃ W, ((w.alloc (.cells #[.bool true, .slice ta n tc, .slice ua um uc] 72)).alloc (.cells #[.bool true, .slice sa n sc, .slice ka km kc] 72)).alloc (.cells #[.bool false, .slice none 0 0, .slice none 0 0] 72) = W := ⟨_, rfl⟩
  rw [hW0] at hI
  have CL := Lib.hid (p := ∀ V, HnI w true ta n tc ua um uc sa n sc ka km kc V → (V.cell? ⟨w.heap.size, 0, none⟩ = some (.bool true) ∧ V.cell? ⟨w.heap.size, 1, none⟩ = some (.slice ta n tc) ∧ V.cell? ⟨w.heap.size, 2, none⟩ = some (.slice ua um uc)) ∧ (V.cell? ⟨w.heap.size + 1, 0, none⟩ = some (.bool true) ∧ V.cell? ⟨w.heap.size + 1, 1, none⟩ = some (.slice sa n sc) ∧ V.cell? ⟨w.heap.size + 1, 2, none⟩ = some (.slice ka km kc)) ∧ Below w.heap.size w V) (fun V q => ⟨box_3R q.tb, box_3R q.sb, q.bel⟩)
  have XC := Lib.hid (p := ∀ k, k < n → ∃ p u q v, ta = some ⟨p, u, none⟩ ∧ sa = some ⟨q, v, none⟩ ∧ ∀ V, Below w.heap.size w V → V.cell? ⟨p, u + k, none⟩ = some (.int .i64 (x.getD k 0 : Int)) ∧ V.cell? ⟨q, v + k, none⟩ = some (.int .i64 (x.getD k 0 : Int))) (fun k hk => by
    obtain ⟨p, u, e1, l1, h1⟩ := hx.2.at hk
    obtain ⟨q, v, e2, l2, h2⟩ := hy.2.at hk
    refine ⟨p, u, q, v, e1, e2, fun V b => ?_⟩
    have g1 := h1 0 (by omega)
    have g2 := h2 0 (by omega)
    rw [Nat.mul_one, Nat.add_zero] at g1 g2
    exact ⟨(b.cell (p := ⟨p, u + k, none⟩) l1).trans g1, (b.cell (p := ⟨q, v + k, none⟩) l2).trans g2⟩)
  have KC := Lib.hid (p := ∀ k, k < km → ∃ y u, ka = some ⟨y, u, none⟩ ∧ ∀ V, Below w.heap.size w V → V.cell? ⟨y, u + k * 2, none⟩ = some (.int .i64 ((sl.getD k default).1 : Int)) ∧ V.cell? ⟨y, u + k * 2 + 1, none⟩ = some (.int .i64 ((sl.getD k default).2 : Int))) (fun k hk => by
    obtain ⟨y, u, e, ly, hc⟩ := hs.2.at hk
    exact ⟨y, u, e, fun V b => ⟨(b.cell (p := ⟨y, u + k * 2, none⟩) ly).trans (hc 0 (by omega)), (b.cell (p := ⟨y, u + k * 2 + 1, none⟩) ly).trans (hc 1 (by omega))⟩⟩)
  have KS := Lib.hid (p := ∀ V, Below w.heap.size w V → ∀ z : Nat, Calls Tryd.prog 52 #[.slice ua um uc, .int .i64 (z : Int)] V fun e w' => e = .returned (.int .i64 (dSlot tl z : Int)) ∧ w' = V) (fun V bb z => slot14_any ⟨ht.1, ht.2.lat bb⟩ (by omega) z)
  have L1 := Lib.hid hs.1
  have HI := Lib.hid hI
  have FE := Lib.hid (p := ∀ a c ob W, HoI w ta n tc ua um uc sa sc ka km kc ob (dMeet tl (sl.take km)) a c W → ∀ V, Below w.heap.size w V → (∀ x, x ≠ w.heap.size + 2 → V.heap[x]? = W.heap[x]?) → HkE w sa n sc (dMeet tl sl) (.returned (.tuple #[.agg #[.bool true, .slice sa n sc, .slice a (dMeet tl (sl.take km)).length c], .int .i64 0])) V) (fun a c ob W h V b q => by
    have o := own_blkG h.own (fun g hg => q g (fun z => own_neB h.own h.hn.zb (by decide) (by rw [hg, z])))
    rw [← hs.1, List.take_length] at o ⊢
    exact ⟨a, c, rfl, o, b⟩)
  have HW := Lib.hid hW0
  obtain ⟨⟨t0, t1, t2⟩, ⟨s0, s1, s2⟩, _⟩ := CL.out W0 hI
  clear hI hW0 hx hy ht hs
  go_enter Tryd.func34, Tryd.ntmps34
  go_upto_region 1 with fail
  rw [HW.out, show w.heap.size + 1 + 1 = w.heap.size + 2 from rfl]
  go_wp2
  clear t0 t1 t2 s0 s1 s2
  go_loopw [6] (fun t wr => ∃ k : Nat, k ≤ n ∧ t = .int .i64 (k : Int) ∧ RowKit.Hid (HnI w true ta n tc ua um uc sa n sc ka km kc wr ∧ Below W0.heap.size W0 wr)) (fun t _ => n - (intOf t).toNat)
  case atStart => exact ⟨0, by omega, rfl, HI.out, Below.refl _ _⟩
  case round =>
    clear HI
    rename World => wr
    obtain ⟨k, hkk, rfl, hH⟩ := hrel
    obtain ⟨hI, hB⟩ := hH.out
    obtain ⟨⟨t0, t1, t2⟩, ⟨s0, s1, s2⟩, bw⟩ := CL.out wr hI
    by_cases hlt : k < n
    · obtain ⟨p, u, q, v, rfl, rfl, hc⟩ := XC.out k hlt
      obtain ⟨c0, e0⟩ := hc wr bw
      have kc' : (k : Int) < (n : Int) := by omega
      have k0 : ¬ (k : Int) < 0 := by omega
      have ks : IntKind.i64.wrap ((k : Int) + 1) = (k : Int) + 1 := by simp [IntKind.wrap, IntKind.bits, IntKind.signed]; omega
      have NX := Lib.hid (p := ∀ nq, HnI w true (some ⟨p, u, none⟩) n tc ua um uc (some ⟨q, v, none⟩) n sc ka km kc (wr.drewN nq) ∧ Below W0.heap.size W0 (wr.drewN nq)) (fun nq => ⟨hI.lat (drewN_below' wr nq _), hB.trans (drewN_below' wr nq _)⟩)
      clear hH hI hB hc bw
      generalize x.getD k 0 = xv at *
      go_wp2
      go_quiet (fail)
      go_wp2
      refine ⟨⟨k + 1, by omega, by simp, NX.out nq⟩, ?_⟩
      simp [intOf]
      omega
    · obtain rfl : k = n := by omega
      have sz : w.heap.size + 2 < wr.heap.size := (Array.getElem?_eq_some_iff.1 hI.zb).1
      have al := allocBP wr (.cells #[.bool true, .slice sa k sc, .slice none 0 0] 72)
      obtain ⟨W1, hW1⟩ : ∃ W, wr.alloc (.cells #[.bool true, .slice sa k sc, .slice none 0 0] 72) = W := ⟨_, rfl⟩
      have O1 := Lib.hid (p := HoI w ta k tc ua um uc sa sc ka km kc wr.heap.size [] none 0 W1) (by
        rw [hW1] at al
        refine ⟨hI.lat al, sz, ?_, World.ownsRow_nil _ _ _ _⟩
        rw [← hW1]
        exact heapN _ _)
      have H1 := Lib.hid hW1
      obtain ⟨ob, hob⟩ : ∃ ob, wr.heap.size = ob := ⟨_, rfl⟩
      have HO := Lib.hid hob
      clear hH hI hB bw hW1 al sz
      go_upto_region 11 with fail
      rw [H1.out]
      rw [hob] at O1
      clear t0 t1 t2 s0 s1 s2
      go_wp2
      go_loopw [8] (fun t w2 => ∃ (j : Nat) (a : Option Addr) (c : Nat), j ≤ km ∧ t = .int .i64 (j : Int) ∧ RowKit.Hid (HoI w ta k tc ua um uc sa sc ka km kc ob (dMeet tl (sl.take j)) a c w2)) (fun t _ => km - (intOf t).toNat)
      case atStart => exact ⟨0, none, 0, by omega, rfl, O1.out⟩
      case round =>
        clear O1
        rename World => w2
        obtain ⟨j, a, c, hj, rfl, hH⟩ := hrel
        have h := hH.out
        obtain ⟨⟨t0, t1, t2⟩, ⟨s0, s1, s2⟩, bw⟩ := CL.out w2 h.hn
        by_cases hlt2 : j < km
        · obtain ⟨y, u, rfl, hc⟩ := KC.out j hlt2
          obtain ⟨c0, c1⟩ := hc w2 bw
          have kj : (j : Int) < (km : Int) := by omega
          have k0 : ¬ (j : Int) < 0 := by omega
          have ks : IntKind.i64.wrap ((j : Int) + 1) = (j : Int) + 1 := by simp [IntKind.wrap, IntKind.bits, IntKind.signed]; omega
          have nx := dMeet_next (t := tl) (l := sl) (j := j) (by rw [L1.out]; exact hlt2)
          have K1 := Lib.hid (fun (V : World) (b : Below w.heap.size w V) => KS.out V b (sl.getD j default).1)
          have ml : (dMeet tl (sl.take j)).length ≤ 1000000 := by
            have := dMeet_len (t := tl) (l := sl.take j)
            have : (sl.take j).length ≤ km := by rw [List.length_take]; omega
            omega
          have HH := Lib.hid h
          have LT := Lib.hid (p := ∀ V, Below w2.heap.size w2 V → HoI w ta k tc ua um uc sa sc (some ⟨y, u, none⟩) km kc ob (dMeet tl (sl.take j)) a c V) (fun V b => h.lat b)
          have SB := Lib.hid (p := ∀ V, HnI w true ta k tc ua um uc sa k sc (some ⟨y, u, none⟩) km kc V → V.cell? ⟨w.heap.size + 1, 2, none⟩ = some (.slice (some ⟨y, u, none⟩) km kc) ∧ V.cell? ⟨y, u + j * 2, none⟩ = some (.int .i64 ((sl.getD j default).1 : Int)) ∧ V.cell? ⟨y, u + j * 2 + 1, none⟩ = some (.int .i64 ((sl.getD j default).2 : Int))) (fun V q => ⟨(box_3R q.sb).2.2, (hc V q.bel).1, (hc V q.bel).2⟩)
          have KV := Lib.hid (p := ∀ V, Below w2.heap.size w2 V → Calls Tryd.prog 52 #[.slice ua um uc, .int .i64 ((sl.getD j default).1 : Int)] V fun e w' => e = .returned (.int .i64 (dSlot tl (sl.getD j default).1 : Int)) ∧ w' = V) (fun V b => K1.out V (bw.trans (b.mono bw.size)))
          by_cases z : dSlot tl (sl.getD j default).1 = (sl.getD j default).2
          · rw [if_pos z] at nx
            have NX := Lib.hid (p := ∀ V, HoI w ta k tc ua um uc sa sc (some ⟨y, u, none⟩) km kc ob (dMeet tl (sl.take j)) a c V → V.cell? ⟨ob, 2, none⟩ = some (.slice a (dMeet tl (sl.take j)).length c) ∧ ∃ a7 c7 w7, RowKit.Hid (∀ ty, (Builtin.append_ #[70, 70] ty #[.slice a (dMeet tl (sl.take j)).length c, .slice (some ⟨V.heap.size, 0, none⟩) 1 1]).run Tryd.prog (V.alloc (.cells #[.int .i64 ((sl.getD j default).1 : Int), .int .i64 ((sl.getD j default).2 : Int)] 112)) = .ok (.slice a7 ((dMeet tl (sl.take j)).length + 1) c7) w7) ∧ w7.cell? ⟨ob, 2, none⟩ = some (.slice a (dMeet tl (sl.take j)).length c) ∧ w7.frozen? ⟨ob, 2, none⟩ = false ∧ HnI w true ta k tc ua um uc sa k sc (some ⟨y, u, none⟩) km kc w7 ∧ RowKit.Hid (HoI w ta k tc ua um uc sa sc (some ⟨y, u, none⟩) km kc ob (dMeet tl (sl.take (j + 1))) a7 c7 (w7.setCell ⟨ob, 2, none⟩ (.slice a7 ((dMeet tl (sl.take j)).length + 1) c7)))) (fun V hV => by
              obtain ⟨a7, c7, w7, r7, v1, v2, hn7, C7⟩ := hV.next ml (sl.getD j default)
              refine ⟨(box_3R hV.bx).2.2, a7, c7, w7, r7, v1, v2, hn7, ?_⟩
              rw [nx]
              exact C7)
            clear hH h bw hc K1 HH nx ml
            generalize (dMeet tl (sl.take j)).length = mm at *
            obtain ⟨ee, hee⟩ : ∃ e, sl.getD j default = e := ⟨_, rfl⟩
            rw [hee] at c0 c1 z NX KV SB
            obtain ⟨e1, e2⟩ := ee
            simp only at c0 c1 z NX KV SB
            subst z
            go_upto_region 14 with fail
            go_cut [65] (fun cv wx => cv = .bool true ∧ RowKit.Hid (HoI w ta k tc ua um uc sa sc (some ⟨y, u, none⟩) km kc ob (dMeet tl (sl.take j)) a c wx))
            case first =>
              go_region_held3 (fun w' => w'.cell? ⟨w.heap.size, 2, none⟩ = some (.slice ua um uc) ∧ w'.cell? ⟨w.heap.size + 1, 2, none⟩ = some (.slice (some ⟨y, u, none⟩) km kc) ∧ w'.cell? ⟨y, u + j * 2, none⟩ = some (.int .i64 (e1 : Int)) ∧ w'.cell? ⟨y, u + j * 2 + 1, none⟩ = some (.int .i64 (dSlot tl e1 : Int)))
                (go_keep)
                (first | (go_at_call 52; refine (KV.out _ (by first | exact Below.refl _ _ | exact drewN_below' w2 1 _ | exact ⟨rfl, rfl, rfl, Nat.le_refl _, fun _ _ => rfl⟩)).mono ?_; rintro e wx ⟨rfl, hwx⟩; replace hwx := hwx.symm; subst hwx))
              all_goals
                go_wp2
                go_meet
                case rel => exact ⟨by first | rfl | simp, LT.out _ (by first | exact Below.refl _ _ | exact ⟨rfl, rfl, rfl, Nat.le_refl _, fun _ _ => rfl⟩)⟩
            case rest =>
              obtain ⟨hcv, hcut⟩ := hcut
              subst hcv
              have hd : HoI w ta k tc ua um uc sa sc (some ⟨y, u, none⟩) km kc ob (dMeet tl (sl.take j)) a c wc.drew := hcut.out.lat ⟨rfl, rfl, rfl, Nat.le_refl _, fun _ _ => rfl⟩
              obtain ⟨x2, a7, c7, w7, R7, v1, v2, hn7, C7⟩ := NX.out wc.drew hd
              obtain ⟨s2, c0, c1⟩ := SB.out wc hcut.out.hn
              have xa : (wc.drew.alloc (.cells #[.int .i64 (e1 : Int), .int .i64 (dSlot tl e1 : Int)] 112)).cell? ⟨ob, 2, none⟩ = some (.slice a mm c) := ((allocBP wc.drew _).cell (p := ⟨ob, 2, none⟩) (Array.getElem?_eq_some_iff.1 hd.bx).1).trans x2
              have xb : (wc.alloc (.cells #[.int .i64 (e1 : Int), .int .i64 (dSlot tl e1 : Int)] 112)).cell? ⟨ob, 2, none⟩ = some (.slice a mm c) := xa
              have x3 : wc.cell? ⟨ob, 2, none⟩ = some (.slice a mm c) := x2
              have SS := Lib.hid (And.intro (SB.out (wc.drew.alloc (.cells #[.int .i64 (e1 : Int), .int .i64 (dSlot tl e1 : Int)] 112)) (hd.hn.lat (allocBP _ _))) (And.intro (SB.out w7 hn7) (SB.out _ C7.out.hn)))
              clear hd hcut hn7
              go_upto_region 15 with fail
              refine wp_region_held_drew (S := (fun w' => w'.cell? ⟨w.heap.size + 1, 2, none⟩ = some (.slice (some ⟨y, u, none⟩) km kc) ∧ w'.cell? ⟨y, u + j * 2, none⟩ = some (.int .i64 (e1 : Int)) ∧ w'.cell? ⟨y, u + j * 2 + 1, none⟩ = some (.int .i64 (dSlot tl e1 : Int)))) (by kernel_rfl) ?_ (fun hHeld => ?_)
              · (try dsimp only)
                exact ⟨s2, c0, c1⟩
              refine wpAnyH_take (i := 0) (oi := { dst := some 66, op := Op.fieldAddr 72 (Operand.tmp 7) 2, type := 0, pos := "ref.go:161", after := #[], guard := none }) (v := ?_) rfl (by kernel_rfl) (by kernel_rfl) (by kernel_rfl) (fun _ _ _ h => h) (Or.inl ⟨by rfl, ?_⟩) (by assumption) ?_
              rotate_left 1
              · intro w' hSw; (try dsimp only at hSw); go_simp; try with_reducible rfl
              (try simp only [Act.put, List.setIfInBounds_toArray, List.set_cons_zero, List.set_cons_succ])
              refine wpAnyH_take (i := 2) (oi := { dst := some 68, op := Op.fieldAddr 72 (Operand.tmp 3) 2, type := 0, pos := "ref.go:161", after := #[], guard := none }) (v := ?_) rfl (by kernel_rfl) (by kernel_rfl) (by kernel_rfl) (fun _ _ _ h => h) (Or.inl ⟨by rfl, ?_⟩) (by assumption) ?_
              rotate_left 1
              · intro w' hSw; (try dsimp only at hSw); go_simp; try with_reducible rfl
              (try simp only [Act.put, List.setIfInBounds_toArray, List.set_cons_zero, List.set_cons_succ])
              refine wpAnyH_take (i := 3) (oi := { dst := some 69, op := Op.load 70 (Operand.tmp 68), type := 70, pos := "ref.go:161", after := #[{ on := 2, ground := Ground.data }], guard := none }) (v := ?_) rfl (by kernel_rfl) (by kernel_rfl) (by kernel_rfl) (fun _ _ _ h => h) (Or.inl ⟨by rfl, ?_⟩) (by assumption) ?_
              rotate_left 1
              · intro w' hSw; (try dsimp only at hSw); go_simp; try with_reducible rfl
              (try simp only [Act.put, List.setIfInBounds_toArray, List.set_cons_zero, List.set_cons_succ])
              refine wpAnyH_take (i := 4) (oi := { dst := some 70, op := Op.move (Operand.tmp 8), type := 3, pos := "ref.go:161", after := #[], guard := none }) (v := ?_) rfl (by kernel_rfl) (by kernel_rfl) (by kernel_rfl) (fun _ _ _ h => h) (Or.inl ⟨by rfl, ?_⟩) (by assumption) ?_
              rotate_left 1
              · intro w' hSw; (try dsimp only at hSw); go_simp; try with_reducible rfl
              (try simp only [Act.put, List.setIfInBounds_toArray, List.set_cons_zero, List.set_cons_succ])
              refine wpAnyH_take (i := 5) (oi := { dst := some 71, op := Op.indexAddr 70 (Operand.tmp 69) (Operand.tmp 70), type := 0, pos := "ref.go:161", after := #[{ on := 3, ground := Ground.data }, { on := 4, ground := Ground.data }], guard := none }) (v := ?_) rfl (by kernel_rfl) (by kernel_rfl) (by kernel_rfl) (fun _ _ _ h => h) (Or.inl ⟨by rfl, ?_⟩) (by assumption) ?_
              rotate_left 1
              · intro w' hSw; (try dsimp only at hSw); go_simp; try with_reducible rfl
              (try simp only [Act.put, List.setIfInBounds_toArray, List.set_cons_zero, List.set_cons_succ])
              refine wpAnyH_take (i := 6) (oi := { dst := some 72, op := Op.load 112 (Operand.tmp 71), type := 112, pos := "ref.go:161", after := #[{ on := 5, ground := Ground.data }], guard := none }) (v := ?_) rfl (by kernel_rfl) (by kernel_rfl) (by kernel_rfl) (fun _ _ _ h => h) (Or.inl ⟨by rfl, ?_⟩) (by assumption) ?_
              rotate_left 1
              · intro w' hSw; (try dsimp only at hSw); go_simp; try with_reducible rfl
              (try simp only [Act.put, List.setIfInBounds_toArray, List.set_cons_zero, List.set_cons_succ])
              refine wpAnyH_ready (rs := [1, 7]) (by kernel_rfl) (by simp) ?_
              refine AllReadyH.cons (o := { dst := some 67, op := Op.load 70 (Operand.tmp 66), type := 70, pos := "ref.go:161", after := #[{ on := 0, ground := Ground.data }], guard := none }) rfl (fun K' hK => ?_) (AllReadyH.cons (o := { dst := some 73, op := Op.buildSlice 70 1 #[(0, Operand.tmp 72)], type := 70, pos := "ref.go:161", after := #[{ on := 6, ground := Ground.data }], guard := none }) rfl (fun K' hK => ?_) AllReadyH.nil)
              · go_simp
                refine hK.out _ _ ?_ (fun hHeld => ?_)
                · (try dsimp only)
                  exact hHeld
                clear hK K'
                (try simp only [Act.put, List.setIfInBounds_toArray, List.set_cons_zero, List.set_cons_succ])
                refine wpAnyH_ready (rs := [7]) (by kernel_rfl) (by simp) ?_
                refine AllReadyH.cons (o := { dst := some 73, op := Op.buildSlice 70 1 #[(0, Operand.tmp 72)], type := 70, pos := "ref.go:161", after := #[{ on := 6, ground := Ground.data }], guard := none }) rfl (fun K' hK => ?_) AllReadyH.nil
                go_simp
                refine hK.out _ _ ?_ (fun hHeld => ?_)
                · (try dsimp only)
                  exact SS.out.1
                clear hK K'
                (try simp only [Act.put, List.setIfInBounds_toArray, List.set_cons_zero, List.set_cons_succ])
                refine wpAnyH_ready (rs := [8]) (by kernel_rfl) (by simp) ?_
                refine AllReadyH.cons (o := { dst := some 74, op := Op.call { callee := Callee.builtin Builtin.append, args := #[Operand.tmp 67, Operand.tmp 73], argTypes := #[70, 70] }, type := 70, pos := "ref.go:161", after := #[{ on := 1, ground := Ground.data }, { on := 7, ground := Ground.data }], guard := none }) rfl (fun K' hK => ?_) AllReadyH.nil
                refine step_app_runR rfl _ _ 70 rfl _ _ _ w7 rfl rfl R7.out ?_
                refine hK.out _ _ ?_ (fun hHeld => ?_)
                · (try dsimp only)
                  exact SS.out.2.1
                clear hK K'
                (try simp only [Act.put, List.setIfInBounds_toArray, List.set_cons_zero, List.set_cons_succ])
                refine wpAnyH_take (i := 9) (oi := { dst := some 75, op := Op.fieldAddr 72 (Operand.tmp 7) 2, type := 0, pos := "ref.go:161", after := #[{ on := 0, ground := Ground.phase }, { on := 1, ground := Ground.phase }, { on := 2, ground := Ground.phase }, { on := 3, ground := Ground.phase }, { on := 4, ground := Ground.phase }, { on := 5, ground := Ground.phase }, { on := 6, ground := Ground.phase }, { on := 7, ground := Ground.phase }, { on := 8, ground := Ground.phase }], guard := none }) (v := ?_) rfl (by kernel_rfl) (by kernel_rfl) (by kernel_rfl) (fun _ _ _ h => h) (Or.inl ⟨by rfl, ?_⟩) (by assumption) ?_
                rotate_left 1
                · intro w' hSw; (try dsimp only at hSw); go_simp; try with_reducible rfl
                (try simp only [Act.put, List.setIfInBounds_toArray, List.set_cons_zero, List.set_cons_succ])
                refine wpAnyH_ready (rs := [10]) (by kernel_rfl) (by simp) ?_
                refine AllReadyH.cons (o := { dst := none, op := Op.store 70 (Operand.tmp 75) (Operand.tmp 74), type := 0, pos := "ref.go:161", after := #[{ on := 9, ground := Ground.data }, { on := 8, ground := Ground.data }, { on := 8, ground := Ground.chain }, { on := 0, ground := Ground.phase }, { on := 1, ground := Ground.phase }, { on := 2, ground := Ground.phase }, { on := 3, ground := Ground.phase }, { on := 4, ground := Ground.phase }, { on := 5, ground := Ground.phase }, { on := 6, ground := Ground.phase }, { on := 7, ground := Ground.phase }, { on := 8, ground := Ground.phase }], guard := none }) rfl (fun K' hK => ?_) AllReadyH.nil
                go_simp
                refine hK.out _ _ ?_ (fun hHeld => ?_)
                · (try dsimp only)
                  exact SS.out.2.2
                clear hK K'
                (try simp only [Act.put, List.setIfInBounds_toArray, List.set_cons_zero, List.set_cons_succ])
                refine wpAnyH_done (by kernel_rfl) ?_ _
                go_wp2
                refine ⟨⟨j + 1, a7, c7, by omega, by simp, C7⟩, ?_⟩
                simp [intOf]
                omega
              · go_simp
                refine hK.out _ _ ?_ (fun hHeld => ?_)
                · (try dsimp only)
                  exact SS.out.1
                clear hK K'
                (try simp only [Act.put, List.setIfInBounds_toArray, List.set_cons_zero, List.set_cons_succ])
                refine wpAnyH_ready (rs := [1]) (by kernel_rfl) (by simp) ?_
                refine AllReadyH.cons (o := { dst := some 67, op := Op.load 70 (Operand.tmp 66), type := 70, pos := "ref.go:161", after := #[{ on := 0, ground := Ground.data }], guard := none }) rfl (fun K' hK => ?_) AllReadyH.nil
                go_simp
                refine hK.out _ _ ?_ (fun hHeld => ?_)
                · (try dsimp only)
                  exact hHeld
                clear hK K'
                (try simp only [Act.put, List.setIfInBounds_toArray, List.set_cons_zero, List.set_cons_succ])
                refine wpAnyH_ready (rs := [8]) (by kernel_rfl) (by simp) ?_
                refine AllReadyH.cons (o := { dst := some 74, op := Op.call { callee := Callee.builtin Builtin.append, args := #[Operand.tmp 67, Operand.tmp 73], argTypes := #[70, 70] }, type := 70, pos := "ref.go:161", after := #[{ on := 1, ground := Ground.data }, { on := 7, ground := Ground.data }], guard := none }) rfl (fun K' hK => ?_) AllReadyH.nil
                refine step_app_runR rfl _ _ 70 rfl _ _ _ w7 rfl rfl R7.out ?_
                refine hK.out _ _ ?_ (fun hHeld => ?_)
                · (try dsimp only)
                  exact SS.out.2.1
                clear hK K'
                (try simp only [Act.put, List.setIfInBounds_toArray, List.set_cons_zero, List.set_cons_succ])
                refine wpAnyH_take (i := 9) (oi := { dst := some 75, op := Op.fieldAddr 72 (Operand.tmp 7) 2, type := 0, pos := "ref.go:161", after := #[{ on := 0, ground := Ground.phase }, { on := 1, ground := Ground.phase }, { on := 2, ground := Ground.phase }, { on := 3, ground := Ground.phase }, { on := 4, ground := Ground.phase }, { on := 5, ground := Ground.phase }, { on := 6, ground := Ground.phase }, { on := 7, ground := Ground.phase }, { on := 8, ground := Ground.phase }], guard := none }) (v := ?_) rfl (by kernel_rfl) (by kernel_rfl) (by kernel_rfl) (fun _ _ _ h => h) (Or.inl ⟨by rfl, ?_⟩) (by assumption) ?_
                rotate_left 1
                · intro w' hSw; (try dsimp only at hSw); go_simp; try with_reducible rfl
                (try simp only [Act.put, List.setIfInBounds_toArray, List.set_cons_zero, List.set_cons_succ])
                refine wpAnyH_ready (rs := [10]) (by kernel_rfl) (by simp) ?_
                refine AllReadyH.cons (o := { dst := none, op := Op.store 70 (Operand.tmp 75) (Operand.tmp 74), type := 0, pos := "ref.go:161", after := #[{ on := 9, ground := Ground.data }, { on := 8, ground := Ground.data }, { on := 8, ground := Ground.chain }, { on := 0, ground := Ground.phase }, { on := 1, ground := Ground.phase }, { on := 2, ground := Ground.phase }, { on := 3, ground := Ground.phase }, { on := 4, ground := Ground.phase }, { on := 5, ground := Ground.phase }, { on := 6, ground := Ground.phase }, { on := 7, ground := Ground.phase }, { on := 8, ground := Ground.phase }], guard := none }) rfl (fun K' hK => ?_) AllReadyH.nil
                go_simp
                refine hK.out _ _ ?_ (fun hHeld => ?_)
                · (try dsimp only)
                  exact SS.out.2.2
                clear hK K'
                (try simp only [Act.put, List.setIfInBounds_toArray, List.set_cons_zero, List.set_cons_succ])
                refine wpAnyH_done (by kernel_rfl) ?_ _
                go_wp2
                refine ⟨⟨j + 1, a7, c7, by omega, by simp, C7⟩, ?_⟩
                simp [intOf]
                omega
          · rw [if_neg z] at nx
            have z0 : ¬ (dSlot tl (sl.getD j default).1 : Int) = ((sl.getD j default).2 : Int) := by omega
            have LT2 := Lib.hid (p := ∀ V, Below w2.heap.size w2 V → HoI w ta k tc ua um uc sa sc (some ⟨y, u, none⟩) km kc ob (dMeet tl (sl.take (j + 1))) a c V) (fun V b => by rw [nx]; exact h.lat b)
            clear hH h bw hc K1 HH nx ml LT
            generalize (dMeet tl (sl.take j)).length = mm at *
            obtain ⟨ee, hee⟩ : ∃ e, sl.getD j default = e := ⟨_, rfl⟩
            rw [hee] at c0 c1 z z0 KV SB
            obtain ⟨e1, e2⟩ := ee
            simp only at c0 c1 z z0 KV SB
            generalize dSlot tl e1 = ds at *
            go_upto_region 14 with fail
            go_region_held3 (fun w' => w'.cell? ⟨w.heap.size, 2, none⟩ = some (.slice ua um uc) ∧ w'.cell? ⟨w.heap.size + 1, 2, none⟩ = some (.slice (some ⟨y, u, none⟩) km kc) ∧ w'.cell? ⟨y, u + j * 2, none⟩ = some (.int .i64 (e1 : Int)) ∧ w'.cell? ⟨y, u + j * 2 + 1, none⟩ = some (.int .i64 (e2 : Int)))
              (go_keep)
              (first | (go_at_call 52; refine (KV.out _ (by first | exact Below.refl _ _ | exact ⟨rfl, rfl, rfl, Nat.le_refl _, fun _ _ => rfl⟩)).mono ?_; rintro e wx ⟨rfl, hwx⟩; replace hwx := hwx.symm; subst hwx))
            all_goals
              go_wp2
              refine ⟨⟨j + 1, a, c, by omega, by simp, LT2.out _ (by first | exact Below.refl _ _ | exact ⟨rfl, rfl, rfl, Nat.le_refl _, fun _ _ => rfl⟩)⟩, ?_⟩
              simp [intOf]
              omega
        · obtain rfl : j = km := by omega
          obtain ⟨x0, x1, x2⟩ := box_3R h.bx
          obtain ⟨z0, z1, z2⟩ := box_3R h.hn.zb
          have f0 := h.hn.zb.frozen 0
          have f1 := h.hn.zb.frozen 1
          have f2 := h.hn.zb.frozen 2
          have FX := Lib.hid (FE.out a c ob w2 h)
          have BW := Lib.hid bw
          clear h hH bw
          generalize (dMeet tl (sl.take j)).length = mm at *
          go_wp2
          refine bodyPost_ret (v := .tuple #[.agg #[.bool true, .slice sa k sc, .slice a mm c], .int .i64 0]) ?r rfl ?s
          case r => simp [results, Tryd.results34, go_sem, z0, z1, z2, f0, f1, f2]
          case s =>
            refine FX.out _ (((BW.out.setCell (by exact Nat.le_add_right _ _) _).setCell (by exact Nat.le_add_right _ _) _).setCell (by exact Nat.le_add_right _ _) _) (fun x hx => ?_)
            rw [bk_blockR hx, bk_blockR hx, bk_blockR hx]
end Go.Proofs.YtjbbbejadhojlaaDoor
