/-
  WALK: the document's Between.
-/
import Derived.Test.YtpeglcnenagkbaaDoorWBetween
import Derived.Test.YtpeglcnenagkbaaDoorWRefAdj
import Derived.Test.YtpeglcnenagkbaaDoorWOwn
import Derived.Laws.AppendOwn
namespace Go.Proofs.YtpeglcnenagkbaaDoor
open Go.RowKit Go.Shelf
set_option linter.unusedVariables false
set_option linter.unusedSimpArgs false

theorem BL.no {a d : Int} {zs L : List Int} (h : BL a d zs L) (hb : busB d zs = false) : BL a (d + 1) zs L := by
  refine ⟨h.1, fun x => ?_⟩
  rw [h.2]
  constructor
  · rintro ⟨p, q, r⟩; exact ⟨p, by omega, r⟩
  · rintro ⟨p, q, r⟩
    refine ⟨p, ?_, r⟩
    by_cases e : x = d
    · subst e; rw [hb] at r; cases r
    · omega
theorem BL.yes {a d : Int} {zs L : List Int} (h : BL a d zs L) (ha : a ≤ d) (hb : busB d zs = true) : BL a (d + 1) zs (L ++ [d]) := by
  refine ⟨List.pairwise_append.2 ⟨h.1, by simp, fun x hx y hy => ?_⟩, fun x => ?_⟩
  · have := (h.2 x).1 hx; simp at hy; omega
  · rw [List.mem_append, h.2]
    constructor
    · rintro (⟨p, q, r⟩ | p)
      · exact ⟨p, by omega, r⟩
      · simp at p; subst p; exact ⟨ha, by omega, hb⟩
    · rintro ⟨p, q, r⟩
      by_cases e : x = d
      · exact .inr (by simp [e])
      · exact .inl ⟨p, by omega, r⟩
theorem BL.wide {a b A B : Int} {zs L : List Int} (h : BL A B zs L) (h1 : A = a ∨ (a < 0 ∧ A = 0)) (h2 : (B = b ∧ b ≤ 109573) ∨ (109573 < b ∧ B = 109573) ∨ (A = B ∧ (b ≤ A ∨ 109573 ≤ A))) : BL a b zs L := by
  refine ⟨h.1, fun x => ?_⟩
  rw [h.2]
  constructor
  · rintro ⟨p, q, r⟩; have := busB_in r; exact ⟨by omega, by omega, r⟩
  · rintro ⟨p, q, r⟩; have := busB_in r; exact ⟨by omega, by omega, r⟩
abbrev OwnD (w : World) (B : Nat) (v : Value) (L : List Int) : Prop := w.ownsRow B 3 1 v L.length (L.map (Value.int .i64))
theorem wp_day {ops : Array Oper} {rest : List Oper} {o : Oper} {a : Act} {Q : Exit → Act → World → Prop} (w : World) (c : Int) (hgd : o.guard = none) (s x : Operand)
    (ho : o.op = .call { callee := .builtin .append, args := #[s, x], argTypes := #[22, 22] }) (B : Nat) (v : Value) (xs : List Int) (hs : a.eval s = v)
    (hx : a.eval x = .slice (some ⟨w.heap.size, 0, none⟩) 1 1) (hown : OwnD w B v xs) (hl : xs.length ≤ 10000000000000) (hb : B ≤ w.heap.size)
    (h : ∀ v' w', OwnD w' B v' (xs ++ [c]) → w.grownBy w' v.ownBlock → wpList Tryd.prog ops Q rest (a.put o.dst v') w') :
    wpList Tryd.prog ops Q (o :: rest) a (w.alloc (.cells #[.int .i64 c] 3)) := by
  obtain ⟨i0, hi, hz0, hz1, hz2⟩ := info_parts infoInt
  refine wpList_append_own _ hgd s x 22 ho B 3 i0 (.int .i64 0) 1 8 Tryd.underlying22 hi hz0 hz1 hz2 rfl (by decide) v _ _ hs (hown.alloc _) ⟨w.heap.size, 0, none⟩ 1 1 [.int .i64 c] hx rfl ?_ ?_ (by unfold maxLen; omega) (by omega) (by simp; omega) ?_
  · intro j u hj
    match j, hj with
    | 0, hj => simp at hj; subst hj; simp [Addr.add]
  · intro u hu; simp at hu; subst hu; rfl
  · intro v' w' h1 h2 _
    refine h v' w' (by show w'.ownsRow _ _ _ _ (xs ++ [c]).length ((xs ++ [c]).map (Value.int .i64)); simpa using h1) ⟨h2.os, h2.tape, h2.output, Nat.le_trans (by simp) h2.size, fun k hk hr => ?_⟩
    rw [h2.block k (Nat.lt_of_lt_of_le hk (by simp)) hr]
    exact Below.heap_alloc w _ k hk

set_option maxHeartbeats 2000000 in
theorem rBetween_1 (a c : Int) (ha : Option Addr) (hc hcap : Nat) (zs : List Int) (w : World) (h1 : 0 ≤ a) (h2 : c ≤ 109573) (hL : Ls w ha hc zs) :
    Calls Tryd.prog 11 #[.int .i64 a, .int .i64 c, .slice ha hc hcap] w fun e w' => ∃ (v : Value), e = .returned v ∧ Below w.heap.size w w' ∧ ∃ (L : List Int), BL a c zs L ∧ OwnD w' w.heap.size v L := by
  have HL := Lib.hid hL
  have M0 := Lib.hid (p := BL a a zs []) (BL.none (fun x p q => by omega))
  have hc3 : (c : Int) ≤ 109573 := by omega
  clear hL
  go_enter Tryd.func11, Tryd.ntmps11
  go_wp2
  go_loopw [7, 8] (fun y x wr => ∃ (L : List Int) (d : Int), (a : Int) ≤ d ∧ (d = a ∨ d ≤ c) ∧ x = .int .i64 d ∧ RowKit.Hid (BL a d zs L) ∧ RowKit.Hid (OwnD wr w.heap.size y L) ∧ Below w.heap.size w wr) (fun _ x _ => (c - intOf x).toNat)
  case atStart => exact ⟨[], a, by omega, .inl rfl, rfl, M0.out, World.ownsRow_nil _ _ _ _, Below.refl _ _⟩
  case round =>
    obtain ⟨L, d, d0, d1, rfl, hM, hO, hW⟩ := hrel
    rename World => wr
    have BW := Lib.hid hW
    have KB := Lib.hid (rBusiness_any ha hc hcap zs d wr (HL.out.later hW))
    by_cases hlt : d < c
    · have kwd : IntKind.i64.wrap (d + 1) = d + 1 := by simp [IntKind.wrap, IntKind.bits, IntKind.signed]; omega
      cases hb : busB d zs with
      | false =>
        have M1 := Lib.hid (hM.out.no hb)
        have HBB := Lib.hid hb
        clear hb hM hW
        go_wp2_with fail
        go_at_call 31
        refine KB.out.mono ?_
        rintro e w3 ⟨rfl, rfl⟩
        rw [HBB.out]
        go_wp2
        go_roundw
        case rel => exact ⟨L, d + 1, by omega, by omega, by first | rfl | simp, M1.out, hO.out, BW.out⟩
        case measure => simp [intOf]; omega
      | true =>
        have M1 := Lib.hid (hM.out.yes d0 hb)
        have LN := Lib.hid hM.out.len
        have HBB := Lib.hid hb
        clear hb hM hW
        go_wp2_with fail
        go_at_call 31
        refine KB.out.mono ?_
        rintro e w3 ⟨rfl, rfl⟩
        rw [HBB.out]
        go_wp2_with (at_builtin; refine wp_day _ _ rfl _ _ rfl w.heap.size _ L rfl rfl hO.out (by have := LN.out; omega) BW.out.size ?_; intro v4 w4 o4 g4; have O4 := Lib.hid o4; have B4 := Lib.hid (BW.out.grown g4 BW.out.size (fun k e => (hO.out.lt k e).1)); clear o4 g4)
        go_roundw
        case rel => exact ⟨L ++ [d], d + 1, by omega, by omega, by first | rfl | simp, M1.out, O4.out, B4.out⟩
        case measure => simp [intOf]; omega
    · have ME := Lib.hid (p := BL a c zs L) (hM.out.wide (by omega) (by omega))
      clear hM hW
      go_wp2
      go_ret
      exact ⟨_, rfl, BW.out, L, ME.out, hO.out⟩
set_option maxHeartbeats 2000000 in
theorem rBetween_2 (a c : Int) (ha : Option Addr) (hc hcap : Nat) (zs : List Int) (w : World) (h1 : 0 ≤ a) (h2 : 109573 < c) (hL : Ls w ha hc zs) :
    Calls Tryd.prog 11 #[.int .i64 a, .int .i64 c, .slice ha hc hcap] w fun e w' => ∃ (v : Value), e = .returned v ∧ Below w.heap.size w w' ∧ ∃ (L : List Int), BL a c zs L ∧ OwnD w' w.heap.size v L := by
  have HL := Lib.hid hL
  have M0 := Lib.hid (p := BL a a zs []) (BL.none (fun x p q => by omega))
  have hc3 : (109573 : Int) ≤ 109573 := by omega
  clear hL
  go_enter Tryd.func11, Tryd.ntmps11
  go_wp2
  go_loopw [7, 8] (fun y x wr => ∃ (L : List Int) (d : Int), (a : Int) ≤ d ∧ (d = a ∨ d ≤ 109573) ∧ x = .int .i64 d ∧ RowKit.Hid (BL a d zs L) ∧ RowKit.Hid (OwnD wr w.heap.size y L) ∧ Below w.heap.size w wr) (fun _ x _ => (109573 - intOf x).toNat)
  case atStart => exact ⟨[], a, by omega, .inl rfl, rfl, M0.out, World.ownsRow_nil _ _ _ _, Below.refl _ _⟩
  case round =>
    obtain ⟨L, d, d0, d1, rfl, hM, hO, hW⟩ := hrel
    rename World => wr
    have BW := Lib.hid hW
    have KB := Lib.hid (rBusiness_any ha hc hcap zs d wr (HL.out.later hW))
    by_cases hlt : d < 109573
    · have kwd : IntKind.i64.wrap (d + 1) = d + 1 := by simp [IntKind.wrap, IntKind.bits, IntKind.signed]; omega
      cases hb : busB d zs with
      | false =>
        have M1 := Lib.hid (hM.out.no hb)
        have HBB := Lib.hid hb
        clear hb hM hW
        go_wp2_with fail
        go_at_call 31
        refine KB.out.mono ?_
        rintro e w3 ⟨rfl, rfl⟩
        rw [HBB.out]
        go_wp2
        go_roundw
        case rel => exact ⟨L, d + 1, by omega, by omega, by first | rfl | simp, M1.out, hO.out, BW.out⟩
        case measure => simp [intOf]; omega
      | true =>
        have M1 := Lib.hid (hM.out.yes d0 hb)
        have LN := Lib.hid hM.out.len
        have HBB := Lib.hid hb
        clear hb hM hW
        go_wp2_with fail
        go_at_call 31
        refine KB.out.mono ?_
        rintro e w3 ⟨rfl, rfl⟩
        rw [HBB.out]
        go_wp2_with (at_builtin; refine wp_day _ _ rfl _ _ rfl w.heap.size _ L rfl rfl hO.out (by have := LN.out; omega) BW.out.size ?_; intro v4 w4 o4 g4; have O4 := Lib.hid o4; have B4 := Lib.hid (BW.out.grown g4 BW.out.size (fun k e => (hO.out.lt k e).1)); clear o4 g4)
        go_roundw
        case rel => exact ⟨L ++ [d], d + 1, by omega, by omega, by first | rfl | simp, M1.out, O4.out, B4.out⟩
        case measure => simp [intOf]; omega
    · have ME := Lib.hid (p := BL a c zs L) (hM.out.wide (by omega) (by omega))
      clear hM hW
      go_wp2
      go_ret
      exact ⟨_, rfl, BW.out, L, ME.out, hO.out⟩
set_option maxHeartbeats 2000000 in
theorem rBetween_3 (a c : Int) (ha : Option Addr) (hc hcap : Nat) (zs : List Int) (w : World) (h1 : a < 0) (h2 : c ≤ 109573) (hL : Ls w ha hc zs) :
    Calls Tryd.prog 11 #[.int .i64 a, .int .i64 c, .slice ha hc hcap] w fun e w' => ∃ (v : Value), e = .returned v ∧ Below w.heap.size w w' ∧ ∃ (L : List Int), BL a c zs L ∧ OwnD w' w.heap.size v L := by
  have HL := Lib.hid hL
  have M0 := Lib.hid (p := BL 0 0 zs []) (BL.none (fun x p q => by omega))
  have hc3 : (c : Int) ≤ 109573 := by omega
  clear hL
  go_enter Tryd.func11, Tryd.ntmps11
  go_wp2
  go_loopw [7, 8] (fun y x wr => ∃ (L : List Int) (d : Int), (0 : Int) ≤ d ∧ (d = 0 ∨ d ≤ c) ∧ x = .int .i64 d ∧ RowKit.Hid (BL 0 d zs L) ∧ RowKit.Hid (OwnD wr w.heap.size y L) ∧ Below w.heap.size w wr) (fun _ x _ => (c - intOf x).toNat)
  case atStart => exact ⟨[], 0, by omega, .inl rfl, rfl, M0.out, World.ownsRow_nil _ _ _ _, Below.refl _ _⟩
  case round =>
    obtain ⟨L, d, d0, d1, rfl, hM, hO, hW⟩ := hrel
    rename World => wr
    have BW := Lib.hid hW
    have KB := Lib.hid (rBusiness_any ha hc hcap zs d wr (HL.out.later hW))
    by_cases hlt : d < c
    · have kwd : IntKind.i64.wrap (d + 1) = d + 1 := by simp [IntKind.wrap, IntKind.bits, IntKind.signed]; omega
      cases hb : busB d zs with
      | false =>
        have M1 := Lib.hid (hM.out.no hb)
        have HBB := Lib.hid hb
        clear hb hM hW
        go_wp2_with fail
        go_at_call 31
        refine KB.out.mono ?_
        rintro e w3 ⟨rfl, rfl⟩
        rw [HBB.out]
        go_wp2
        go_roundw
        case rel => exact ⟨L, d + 1, by omega, by omega, by first | rfl | simp, M1.out, hO.out, BW.out⟩
        case measure => simp [intOf]; omega
      | true =>
        have M1 := Lib.hid (hM.out.yes d0 hb)
        have LN := Lib.hid hM.out.len
        have HBB := Lib.hid hb
        clear hb hM hW
        go_wp2_with fail
        go_at_call 31
        refine KB.out.mono ?_
        rintro e w3 ⟨rfl, rfl⟩
        rw [HBB.out]
        go_wp2_with (at_builtin; refine wp_day _ _ rfl _ _ rfl w.heap.size _ L rfl rfl hO.out (by have := LN.out; omega) BW.out.size ?_; intro v4 w4 o4 g4; have O4 := Lib.hid o4; have B4 := Lib.hid (BW.out.grown g4 BW.out.size (fun k e => (hO.out.lt k e).1)); clear o4 g4)
        go_roundw
        case rel => exact ⟨L ++ [d], d + 1, by omega, by omega, by first | rfl | simp, M1.out, O4.out, B4.out⟩
        case measure => simp [intOf]; omega
    · have ME := Lib.hid (p := BL a c zs L) (hM.out.wide (by omega) (by omega))
      clear hM hW
      go_wp2
      go_ret
      exact ⟨_, rfl, BW.out, L, ME.out, hO.out⟩
set_option maxHeartbeats 2000000 in
theorem rBetween_4 (a c : Int) (ha : Option Addr) (hc hcap : Nat) (zs : List Int) (w : World) (h1 : a < 0) (h2 : 109573 < c) (hL : Ls w ha hc zs) :
    Calls Tryd.prog 11 #[.int .i64 a, .int .i64 c, .slice ha hc hcap] w fun e w' => ∃ (v : Value), e = .returned v ∧ Below w.heap.size w w' ∧ ∃ (L : List Int), BL a c zs L ∧ OwnD w' w.heap.size v L := by
  have HL := Lib.hid hL
  have M0 := Lib.hid (p := BL 0 0 zs []) (BL.none (fun x p q => by omega))
  have hc3 : (109573 : Int) ≤ 109573 := by omega
  clear hL
  go_enter Tryd.func11, Tryd.ntmps11
  go_wp2
  go_loopw [7, 8] (fun y x wr => ∃ (L : List Int) (d : Int), (0 : Int) ≤ d ∧ (d = 0 ∨ d ≤ 109573) ∧ x = .int .i64 d ∧ RowKit.Hid (BL 0 d zs L) ∧ RowKit.Hid (OwnD wr w.heap.size y L) ∧ Below w.heap.size w wr) (fun _ x _ => (109573 - intOf x).toNat)
  case atStart => exact ⟨[], 0, by omega, .inl rfl, rfl, M0.out, World.ownsRow_nil _ _ _ _, Below.refl _ _⟩
  case round =>
    obtain ⟨L, d, d0, d1, rfl, hM, hO, hW⟩ := hrel
    rename World => wr
    have BW := Lib.hid hW
    have KB := Lib.hid (rBusiness_any ha hc hcap zs d wr (HL.out.later hW))
    by_cases hlt : d < 109573
    · have kwd : IntKind.i64.wrap (d + 1) = d + 1 := by simp [IntKind.wrap, IntKind.bits, IntKind.signed]; omega
      cases hb : busB d zs with
      | false =>
        have M1 := Lib.hid (hM.out.no hb)
        have HBB := Lib.hid hb
        clear hb hM hW
        go_wp2_with fail
        go_at_call 31
        refine KB.out.mono ?_
        rintro e w3 ⟨rfl, rfl⟩
        rw [HBB.out]
        go_wp2
        go_roundw
        case rel => exact ⟨L, d + 1, by omega, by omega, by first | rfl | simp, M1.out, hO.out, BW.out⟩
        case measure => simp [intOf]; omega
      | true =>
        have M1 := Lib.hid (hM.out.yes d0 hb)
        have LN := Lib.hid hM.out.len
        have HBB := Lib.hid hb
        clear hb hM hW
        go_wp2_with fail
        go_at_call 31
        refine KB.out.mono ?_
        rintro e w3 ⟨rfl, rfl⟩
        rw [HBB.out]
        go_wp2_with (at_builtin; refine wp_day _ _ rfl _ _ rfl w.heap.size _ L rfl rfl hO.out (by have := LN.out; omega) BW.out.size ?_; intro v4 w4 o4 g4; have O4 := Lib.hid o4; have B4 := Lib.hid (BW.out.grown g4 BW.out.size (fun k e => (hO.out.lt k e).1)); clear o4 g4)
        go_roundw
        case rel => exact ⟨L ++ [d], d + 1, by omega, by omega, by first | rfl | simp, M1.out, O4.out, B4.out⟩
        case measure => simp [intOf]; omega
    · have ME := Lib.hid (p := BL a c zs L) (hM.out.wide (by omega) (by omega))
      clear hM hW
      go_wp2
      go_ret
      exact ⟨_, rfl, BW.out, L, ME.out, hO.out⟩
theorem rBetween_any (a c : Int) (ha : Option Addr) (hc hcap : Nat) (zs : List Int) (w : World) (hL : Ls w ha hc zs) :
    Calls Tryd.prog 11 #[.int .i64 a, .int .i64 c, .slice ha hc hcap] w fun e w' => ∃ (v : Value), e = .returned v ∧ Below w.heap.size w w' ∧ ∃ (L : List Int), BL a c zs L ∧ OwnD w' w.heap.size v L := by
  by_cases h1 : a < 0 <;> by_cases h2 : 109573 < c
  · exact rBetween_4 a c ha hc hcap zs w h1 h2 hL
  · exact rBetween_3 a c ha hc hcap zs w h1 (by omega) hL
  · exact rBetween_2 a c ha hc hcap zs w (by omega) h2 hL
  · exact rBetween_1 a c ha hc hcap zs w (by omega) (by omega) hL
end Go.Proofs.YtpeglcnenagkbaaDoor
