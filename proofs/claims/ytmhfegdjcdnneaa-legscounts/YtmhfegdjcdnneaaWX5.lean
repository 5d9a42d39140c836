/-
  WALK: the law's copied.
-/
import Derived.Test.YtmhfegdjcdnneaaWX4
namespace Go.Proofs.Ytmhfegdjcdnneaa
open Go.RowKit
set_option linter.unusedVariables false
set_option linter.unusedSimpArgs false

/-- A block of cells. -/
def Bk (w : World) (b : Nat) (cs : Array Value) (t : TypeId) : Prop := w.heap[b]? = some (.cells cs t (0, 0))
theorem Bk.cell {w : World} {b : Nat} {cs : Array Value} {t : TypeId} (h : Bk w b cs t) (k : Nat) : w.cell? ⟨b, k, none⟩ = cs[k]? := by
  unfold Bk at h; simp [World.cell?, h]
theorem Bk.frozen {w : World} {b : Nat} {cs : Array Value} {t : TypeId} (h : Bk w b cs t) (k : Nat) : w.frozen? ⟨b, k, none⟩ = false := by
  unfold Bk at h; simp [World.frozen?, h]
theorem Bk.lt {w : World} {b : Nat} {cs : Array Value} {t : TypeId} (h : Bk w b cs t) : b < w.heap.size := (Array.getElem?_eq_some_iff.1 h).1
theorem Bk.below {w w' : World} {b : Nat} {cs : Array Value} {t : TypeId} (h : Bk w b cs t) {B : Nat} (g : Below B w w') (hb : b < B) : Bk w' b cs t := (g.block b hb).trans h
theorem Bk.alloc {w : World} {b : Nat} {cs : Array Value} {t : TypeId} (h : Bk w b cs t) (o : Obj) : Bk (w.alloc o) b cs t := (Below.heap_alloc w o b h.lt).trans h
theorem Bk.new (w : World) (cs : Array Value) (t : TypeId) : Bk (w.alloc (.cells cs t)) w.heap.size cs t := heap_alloc_new w _
theorem Bk.grown {w w' : World} {b : Nat} {cs : Array Value} {t : TypeId} {r : Option Nat} (h : Bk w b cs t) (g : w.grownBy w' r) (hb : some b ≠ r) : Bk w' b cs t := (g.block b h.lt hb).trans h
theorem Bk.set {w : World} {b : Nat} {cs : Array Value} {t : TypeId} (h : Bk w b cs t) (k : Nat) (v : Value) (hk : k < cs.size) : Bk (w.setCell ⟨b, k, none⟩ v) b (cs.set k v) t := by
  unfold Bk at *
  simp only [World.setCell, Array.getElem?_modify, if_true, h, Option.map_some]
  simp [Array.set!, Array.setIfInBounds, hk]
theorem Bk.other {w : World} {b : Nat} {cs : Array Value} {t : TypeId} (h : Bk w b cs t) (p : Nat) (k : Nat) (v : Value) (hp : p ≠ b) : Bk (w.setCell ⟨p, k, none⟩ v) b cs t := by
  unfold Bk at *
  simp only [World.setCell, Array.getElem?_modify, if_neg hp, h]
theorem heap_set_other (w : World) (p k : Nat) (v : Value) (b : Nat) (hp : p ≠ b) : (w.setCell ⟨p, k, none⟩ v).heap[b]? = w.heap[b]? := by
  simp only [World.setCell, Array.getElem?_modify, if_neg hp]
/-- A new expression. -/
def NwP (e : Xt) (w : World) (e' : Ending) (w' : World) : Prop := ∃ vs : List Value, e' = .returned (.agg vs.toArray) ∧ XO w' w.heap.size w'.heap.size e vs ∧ Below w.heap.size w w'
/-- While an expression is copied: its box, the result's, the new one's. -/
structure CS (w wr : World) (op num day : Int) (ka : Option Addr) (kc : Nat) (kids : List Xt) (i : Nat) (v : Value) (V : Nat → List Value) (L H : Nat → Nat) : Prop where
  bel : Below w.heap.size w wr
  e : Bk wr w.heap.size #[.int .i64 op, .int .i64 num, .int .i64 day, .slice ka kids.length kc] 24
  r : Bk wr (w.heap.size + 1) #[.int .i64 0, .int .i64 0, .int .i64 0, .slice none 0 0] 24
  x : Bk wr (w.heap.size + 1 + 1) #[.int .i64 op, .int .i64 num, .int .i64 day, v] 24
  ck : CK wr (w.heap.size + 3) kids i v V L H
theorem CS.later {w wr w' : World} {op num day : Int} {ka : Option Addr} {kc : Nat} {kids : List Xt} {i : Nat} {v : Value} {V : Nat → List Value} {L H : Nat → Nat} (h : CS w wr op num day ka kc kids i v V L H) (b : Below wr.heap.size wr w') : CS w w' op num day ka kc kids i v V L H :=
  ⟨h.bel.trans (b.mono h.bel.size), h.e.below b h.e.lt, h.r.below b h.r.lt, h.x.below b h.x.lt, h.ck.keep (fun k _ h2 => b.block k h2) b.size⟩
theorem XO.one {w : World} {lo hi : Nat} {e : Xt} {a b c d : Value} (h : XO w lo hi e [a, b, c, d]) : ∀ u ∈ [a, b, c, d], u.oneCell' = true := by
  cases h
  intro u hu
  simp at hu
  rcases hu with rfl | rfl | rfl | rfl <;> rfl
theorem own_keep {w w' : World} {B e s : Nat} {v : Value} {n : Nat} {xs : List Value} (h : w.ownsRow B e s v n xs) (hw : ∀ k, v.ownBlock = some k → w'.heap[k]? = w.heap[k]?) : w'.ownsRow B e s v n xs := by
  refine ⟨h.1, ?_⟩
  rcases h.2 with h | ⟨g, cap, cur, rfl, e2, e3, e4⟩
  · exact .inl h
  · exact .inr ⟨g, cap, cur, rfl, e2, (hw g rfl).trans e3, e4⟩
/-- All kids are there. -/
theorem CK.xo {wr : World} {B : Nat} {kids : List Xt} {v : Value} {V : Nat → List Value} {L H : Nat → Nat} (h : CK wr B kids kids.length v V L H) {lo : Nat} {op num day : Int} (wop : i64 op) (wnum : i64 num) (wday : i64 day) (hn : kids.length ≤ 8796093021952) (hlo : lo ≤ B) :
    ∃ ka kc, v = .slice ka kids.length kc ∧ XO wr lo wr.heap.size (.mk op num day kids) [.int .i64 op, .int .i64 num, .int .i64 day, .slice ka kids.length kc] := by
  obtain ⟨⟨xs, ho, hx⟩, h2, h3, h4, h5⟩ := h
  rcases ho.2 with ⟨rfl, h0⟩ | ⟨g, cap, cur, rfl, e2, e3, e4, e5, e6, e7⟩
  · refine ⟨none, 0, by rw [h0], .mk V L H wop wnum wday ⟨fun _ => ⟨h0, rfl⟩, by omega, by unfold maxLen; omega⟩ hn (.inl h0) (fun i hi => ⟨by have := (h3 i hi).1; omega, (h3 i hi).2⟩) h4 h5⟩
  · refine ⟨_, cap, rfl, .mk V L H wop wnum wday ⟨fun e => (by cases e), e4, e5⟩ hn (.inr ⟨g, rfl, by omega, (Array.getElem?_eq_some_iff.1 e3).1, ⟨cur, e3, fun i hi j hj => ?_⟩, fun i hi => h2 g rfl i hi⟩) (fun i hi => ⟨by have := (h3 i hi).1; omega, (h3 i hi).2⟩) h4 h5⟩
    have := hx i hi j hj
    rw [← e7, List.getElem?_take_of_lt (by omega)] at this
    simpa using this
/-- The round's end. -/
theorem CS.next {w wr w5 w7 : World} {op num day : Int} {ka : Option Addr} {kc : Nat} {kids : List Xt} {i : Nat} {v : Value} {V : Nat → List Value} {L H : Nat → Nat} (h : CS w wr op num day ka kc kids i v V L H) (b5 : Below wr.heap.size wr w5) {v0 v1 v2 v3 : Value} (hx : XO w5 wr.heap.size w5.heap.size (kids.getD i default) [v0, v1, v2, v3])
    {xs : List Value} (hxs : wr.ownsRow (w.heap.size + 3) 24 4 v i xs) (hxv : ∀ j, j < i → ∀ c, c < 4 → xs[j * 4 + c]? = some ((V j).getD c default)) {g cap : Nat} {o : Obj}
    (ho : w7.ownsRow (w.heap.size + 3) 24 4 (.slice (some ⟨g, 0, none⟩) (i + 1) cap) (i + 1) (xs ++ [v0, v1, v2, v3])) (hg : (w5.alloc o).grownBy w7 v.ownBlock) (hlies : v.ownBlock = some g ∨ g = (w5.alloc o).heap.size) :
    CS w (w7.setCell ⟨w.heap.size + 1 + 1, 3, none⟩ (.slice (some ⟨g, 0, none⟩) (i + 1) cap)) op num day ka kc kids (i + 1) (.slice (some ⟨g, 0, none⟩) (i + 1) cap) (fun j => if j = i then [v0, v1, v2, v3] else V j) (fun j => if j = i then wr.heap.size else L j) (fun j => if j = i then w5.heap.size else H j) := by
  have hbl : ∀ b, v.ownBlock = some b → w.heap.size + 3 ≤ b ∧ b < wr.heap.size := fun b hb => hxs.lt b hb
  have hs := h.x.lt
  have h5 := h.later b5
  have hne : ∀ b, b < w.heap.size + 3 → some b ≠ v.ownBlock := fun b hb e => by have := hbl b e.symm; omega
  have C7 := h.ck.snoc (by omega) b5 hx hxs hxv (w6 := w5.alloc o) (fun k hk => Below.heap_alloc w5 o k hk) (by simp) ho hg hlies
  refine ⟨?_, ?_, ?_, ?_, ?_⟩
  · exact (((h5.bel.alloc h5.bel.size o).grown hg (Nat.le_trans h5.bel.size (by simp)) (fun k e => by have := hbl k e; omega))).setCell (p := ⟨w.heap.size + 1 + 1, 3, none⟩) (by simp; omega) _
  · exact ((h5.e.alloc o).grown hg (hne _ (by omega))).other _ _ _ (by omega)
  · exact ((h5.r.alloc o).grown hg (hne _ (by omega))).other _ _ _ (by omega)
  · exact ((h5.x.alloc o).grown hg (hne _ (by omega))).set 3 _ (by simp)
  · exact C7.keep (fun k h1 h2 => heap_set_other _ _ _ _ _ (by omega)) (by simp)
set_option maxHeartbeats 1000000 in
theorem copied_any {w0 : World} {e : Xt} {vs : List Value} (hE : XV w0 e vs) : ∀ (w : World), Below w0.heap.size w0 w → e.n ≤ 1048576 →
    Calls Try.prog 10 #[.agg vs.toArray] w (NwP e w) := by
  induction hE with
  | @mk op num day kids ka kc V wop wnum wday hk hn hr hkids ih =>
    intro w hB hN
    obtain ⟨w3, hw3⟩ : ∃ w3, ((w.alloc (.cells #[.int .i64 op, .int .i64 num, .int .i64 day, .slice ka kids.length kc] 24)).alloc (.cells #[.int .i64 0, .int .i64 0, .int .i64 0, .slice none 0 0] 24)).alloc (.cells #[.int .i64 op, .int .i64 num, .int .i64 day, .slice none 0 0] 24) = w3 := ⟨_, rfl⟩
    have S3 := Lib.hid (show CS w w3 op num day ka kc kids 0 (.slice none 0 0) (fun _ => []) (fun _ => 0) (fun _ => 0) by
      subst hw3
      refine ⟨(((Below.refl _ _).alloc (Nat.le_refl _) _).alloc (by simp) _).alloc (by simp; omega) _, ((Bk.new w _ _).alloc _).alloc _, ?_, ?_, ⟨⟨[], World.ownsRow_nil _ _ _ _, fun j hj => absurd hj (by omega)⟩, fun b hb => by simp [Value.ownBlock] at hb, fun j hj => absurd hj (by omega), fun j k _ hk => absurd hk (by omega), fun j hj => absurd hj (by omega)⟩⟩
      · have := (Bk.new (w.alloc (.cells #[.int .i64 op, .int .i64 num, .int .i64 day, .slice ka kids.length kc] 24)) #[.int .i64 0, .int .i64 0, .int .i64 0, .slice none 0 0] 24).alloc (.cells #[.int .i64 op, .int .i64 num, .int .i64 day, .slice none 0 0] 24)
        rw [World.size_alloc] at this
        exact this
      · have := Bk.new ((w.alloc (.cells #[.int .i64 op, .int .i64 num, .int .i64 day, .slice ka kids.length kc] 24)).alloc (.cells #[.int .i64 0, .int .i64 0, .int .i64 0, .slice none 0 0] 24)) #[.int .i64 op, .int .i64 num, .int .i64 day, .slice none 0 0] 24
        rw [World.size_alloc, World.size_alloc] at this
        exact this)
    have HW3 := Lib.hid hw3
    clear hw3
    have IH := Lib.hid ih
    have HR := Lib.hid hr
    have HK := Lib.hid hkids
    have HB := Lib.hid hB
    have N1 := Lib.hid (show 1 + Xt.ns kids ≤ 1048576 by simpa [Xt.n] using hN)
    have KD := Lib.hid hk
    have WW := Lib.hid (And.intro wop (And.intro wnum wday))
    clear ih hr hkids hB hN hk wop wnum wday
    go_enter Try.func10, Try.ntmps10
    go_wp2
    rw [HW3.out]
    clear HW3
    go_loopw [4] (fun t wr => ∃ (i : Nat), i ≤ kids.length ∧ t = .int .i64 i ∧ ∃ v V' L H, CS w wr op num day ka kc kids i v V' L H) (fun t _ => kids.length - (intOf t).toNat)
    case atStart => exact ⟨0, by omega, rfl, _, _, _, _, S3.out⟩
    case round =>
      clear S3
      obtain ⟨i, hi, rfl, v, V', L, H, hS⟩ := hrel
      have SS := Lib.hid hS
      have c3 := hS.e.cell 3
      simp at c3
      by_cases il : i < kids.length
      · have ic : (i : Int) < (kids.length : Int) := by omega
        have BW := Lib.hid (HB.out.trans (hS.bel.mono HB.out.size))
        obtain ⟨x, of, rfl, hx, hc⟩ := HR.out.at BW.out (by omega)
        obtain ⟨a0, a1, a2, a3, hv⟩ := (HK.out i il).four
        have e0 := hc i il 0 (by omega)
        have e1 := hc i il 1 (by omega)
        have e2 := hc i il 2 (by omega)
        have e3 := hc i il 3 (by omega)
        have I1 := IH.out i il wr.drew BW.out.drew (by have := N1.out; have := Xt.ns_take kids i il; have := Xt.ns_le_take kids (i + 1); omega)
        rw [hv] at e0 e1 e2 e3 I1
        simp only [List.getD_cons_succ, List.getD_cons_zero, Nat.add_zero] at e0 e1 e2 e3
        have IQ := Lib.hid I1
        obtain ⟨xs, ho, hxv⟩ := hS.ck.row
        have OO := Lib.hid ho
        have XV' := Lib.hid hxv
        have y3 := hS.x.cell 3
        simp at y3
        have il2 : i ≤ 1099511627776 := by have := N1.out; have := ns_len kids; omega
        clear hc hv I1 hS ho hxv
        go_wp2
        go_region_law (first
          | (go_simp; go_at_call 10; refine IQ.out.mono ?_; rintro e' w5 ⟨vs', rfl, hx5, hb5⟩; obtain ⟨v0, v1, v2, v3, rfl⟩ := hx5.four; have X5 := Lib.hid hx5; have B5 := Lib.hid (show Below wr.heap.size wr w5 from ((Below.refl _ _).drew).trans hb5); have S5 := Lib.hid (SS.out.later B5.out); have z3 := S5.out.x.cell 3; have z4 := (S5.out.x.alloc (.cells #[v0, v1, v2, v3] 24)).cell 3; simp at z3 z4; have O5 := Lib.hid ((own_keep OO.out (fun k hk => B5.out.block k (OO.out.lt k hk).2)).alloc (.cells #[v0, v1, v2, v3] 24)); have Z5 := Lib.hid (show w.heap.size + 3 ≤ (w5.alloc (.cells #[v0, v1, v2, v3] 24)).heap.size by have := S5.out.x.lt; simp; omega); have NE := Lib.hid (show some (w.heap.size + 1 + 1) ≠ v.ownBlock from fun e => by have := (OO.out.lt _ e.symm).1; omega); clear hx5 hb5)
          | (refine step_xs _ rfl _ _ rfl (w.heap.size + 3) v i xs rfl O5.out w5.heap.size v0 v1 v2 v3 X5.out.one (0, 0) rfl (heap_alloc_new _ _) il2 Z5.out ?_; intro g cap w7 h1 h2 h3 h4; have O7 := Lib.hid h1; have G7 := Lib.hid h2; have L7 := Lib.hid h3; have x7 := ((S5.out.x.alloc _).grown h2 NE.out).cell 3; have f7 := ((S5.out.x.alloc _).grown h2 NE.out).frozen 3; simp at x7; clear h1 h2 h3 h4))
        all_goals
          go_wp2
          go_roundw
          case rel => exact ⟨i + 1, by omega, by go_num, _, _, _, _, SS.out.next B5.out X5.out OO.out XV'.out O7.out G7.out L7.out⟩
          case measure => simp [intOf]; omega
      · obtain rfl : i = kids.length := by omega
        obtain ⟨ka', kc', rfl, hX⟩ := hS.ck.xo (lo := w.heap.size + 3) WW.out.1 WW.out.2.1 WW.out.2.2 hn (by omega)
        have XX := Lib.hid hX
        have x0 := hS.x.cell 0
        have x1 := hS.x.cell 1
        have x2 := hS.x.cell 2
        have x3 := hS.x.cell 3
        have r0 := hS.r.cell 0
        have r1 := hS.r.cell 1
        have r2 := hS.r.cell 2
        have r3 := hS.r.cell 3
        have g0 := hS.r.frozen 0
        have g1 := hS.r.frozen 1
        have g2 := hS.r.frozen 2
        have g3 := hS.r.frozen 3
        have RR := Lib.hid ((((hS.r.set 0 (.int .i64 op) (by simp)).set 1 (.int .i64 num) (by simp)).set 2 (.int .i64 day) (by simp)).set 3 (.slice ka' kids.length kc') (by simp))
        simp at x0 x1 x2 x3 r0 r1 r2 r3
        clear hS hX
        go_wp2
        have k0 := RR.out.cell 0
        have k1 := RR.out.cell 1
        have k2 := RR.out.cell 2
        have k3 := RR.out.cell 3
        simp only [Array.getElem?_set, List.getElem?_toArray] at k0 k1 k2 k3
        refine bodyPost_ret (v := .agg #[.int .i64 op, .int .i64 num, .int .i64 day, .slice ka' kids.length kc']) (by simp [results, Try.results10, go_sem, k0, k1, k2, k3]) rfl ?_
        refine ⟨_, rfl, ?_, ?_⟩
        · rw [World.size_setCell, World.size_setCell, World.size_setCell, World.size_setCell]
          exact (XX.out.keep (fun k h1 h2 => by rw [heap_set_other _ _ _ _ _ (by omega), heap_set_other _ _ _ _ _ (by omega), heap_set_other _ _ _ _ _ (by omega), heap_set_other _ _ _ _ _ (by omega)])).wide (by omega) (Nat.le_refl _)
        · exact (((SS.out.bel.setCell (p := ⟨w.heap.size + 1, 0, none⟩) (by simp) _).setCell (p := ⟨w.heap.size + 1, 1, none⟩) (by simp) _).setCell (p := ⟨w.heap.size + 1, 2, none⟩) (by simp) _).setCell (p := ⟨w.heap.size + 1, 3, none⟩) (by simp) _
end Go.Proofs.Ytmhfegdjcdnneaa
