/-
  WALK: missing.
-/
import Derived.Test.YtpeglcnenagkbaaDoorWBetween
import Derived.Test.YtpeglcnenagkbaaDoorWOwnAny
namespace Go.Proofs.YtpeglcnenagkbaaDoor
open Go.RowKit Go.Shelf
set_option linter.unusedVariables false
set_option linter.unusedSimpArgs false

/-- k days of the list are below d. -/
def Mis (L : List Int) (k : Nat) (d : Int) : Prop := k ≤ L.length ∧ (∀ i, i < k → L.getD i 0 < d) ∧ ∀ i, k ≤ i → i < L.length → d ≤ L.getD i 0
theorem getD_mem {L : List Int} {i : Nat} (h : i < L.length) : L.getD i 0 ∈ L := by
  simp only [List.getD, List.getElem?_eq_getElem h, Option.getD_some]; exact List.getElem_mem h
theorem mis_start {L : List Int} {A : Int} (h : ∀ x ∈ L, A ≤ x) : Mis L 0 A := ⟨by omega, fun i hi => absurd hi (by omega), fun i _ hi => h _ (getD_mem hi)⟩
theorem mis_no {L zs : List Int} {a c d : Int} {k : Nat} (hB : BL a c zs L) (h : Mis L k d) (hb : busB d zs = false) : Mis L k (d + 1) := by
  refine ⟨h.1, fun i hi => by have := h.2.1 i hi; omega, fun i h1 h2 => ?_⟩
  have q := h.2.2 i h1 h2
  have m := ((hB.2 _).1 (getD_mem h2)).2.2
  by_cases e : L.getD i 0 = d
  · rw [e, hb] at m; cases m
  · omega
theorem mis_yes {L zs : List Int} {a c d : Int} {k : Nat} (hB : BL a c zs L) (h : Mis L k d) (h1 : a ≤ d) (h2 : d < c) (hb : busB d zs = true) : k < L.length ∧ L.getD k 0 = d ∧ Mis L (k + 1) (d + 1) := by
  have hm := (hB.2 d).2 ⟨h1, h2, hb⟩
  obtain ⟨j, hj, ej⟩ := List.getElem_of_mem hm
  have ej' : L.getD j 0 = d := by simp only [List.getD, List.getElem?_eq_getElem hj, Option.getD_some]; exact ej
  have kj : k ≤ j := by
    by_cases q : j < k
    · have := h.2.1 j q; omega
    · omega
  have up : ∀ x y, x < y → y < L.length → L.getD x 0 < L.getD y 0 := fun x y p q => by
    have := List.pairwise_iff_getElem.1 hB.1 x y (by omega) q p
    simp only [List.getD, List.getElem?_eq_getElem q, List.getElem?_eq_getElem (show x < L.length by omega), Option.getD_some]; exact this
  have e : k = j := by
    by_cases q : k < j
    · have := up k j q hj; have := h.2.2 k (by omega) (by omega); omega
    · omega
  subst e
  refine ⟨hj, ej', ⟨by omega, fun i hi => ?_, fun i p q => ?_⟩⟩
  · by_cases q : i < k
    · have := h.2.1 i q; omega
    · have : i = k := by omega
      subst this; omega
  · have := up k i (by omega) q; omega

set_option maxHeartbeats 2000000 in
theorem missing_1 (a c : Int) (la ha : Option Addr) (ln lcap hc hcap : Nat) (L zs : List Int) (w : World) (h1 : 0 ≤ a) (h2 : c ≤ 109573) (hLs : Ls w la ln L) (hB : BL a c zs L) (hH : Hol w ha hc hcap zs) :
    Calls Tryd.prog 10 #[.int .i64 a, .int .i64 c, .slice la ln lcap, .slice ha hc hcap] w fun e w' => e = .returned (.bool true) ∧ Below w.heap.size w w' := by
  have HL := Lib.hid hLs
  have HB := Lib.hid hB
  have HH := Lib.hid hH
  have M0 := Lib.hid (p := Mis L 0 (a : Int)) (mis_start (fun x hx => by have q := (hB.2 x).1 hx; have := busB_in q.2.2; omega))
  have hc3 : (c : Int) ≤ 109573 := by omega
  have hln := hLs.2.1
  have hl := hLs.1
  clear hLs hB hH
  go_enter Tryd.func10, Tryd.ntmps10
  go_wp2
  go_loopw [9, 10] (fun y x wr => ∃ (k : Nat) (d : Int), (a : Int) ≤ d ∧ (d = a ∨ d ≤ c) ∧ y = .int .i64 (k : Int) ∧ x = .int .i64 d ∧ k ≤ ln ∧ RowKit.Hid (Mis L k d) ∧ Below w.heap.size w wr) (fun _ x _ => (c - intOf x).toNat)
  case atStart => exact ⟨0, a, by omega, .inl rfl, rfl, rfl, by omega, M0.out, Below.refl _ _⟩
  case round =>
    obtain ⟨k, d, d0, d1, rfl, rfl, kn, hM, hW⟩ := hrel
    rename World => wr
    have BW := Lib.hid hW
    have KO := Lib.hid (own_any ha hc hcap zs wr (HH.out.later hW))
    by_cases hlt : d < c
    · have kwd : IntKind.i64.wrap (d + 1) = d + 1 := by simp [IntKind.wrap, IntKind.bits, IntKind.signed]; omega
      have kwk : IntKind.i64.wrap ((k : Int) + 1) = (k : Int) + 1 := by simp [IntKind.wrap, IntKind.bits, IntKind.signed]; omega
      cases hb : busB d zs with
      | false =>
        have M1 := Lib.hid (mis_no HB.out hM.out hb)
        have HBB := Lib.hid hb
        clear hb hM hW
        go_wp2_with fail
        go_at_call 8
        refine KO.out.mono ?_
        rintro e w2 ⟨Ax, Cx, rfl, b2, l2, _⟩
        have B2 := Lib.hid (BW.out.trans (b2.mono BW.out.size))
        have KB := Lib.hid (business_any Ax hc Cx zs d w2 l2)
        clear b2 l2
        go_wp2_with fail
        go_at_call 9
        refine KB.out.mono ?_
        rintro e w3 ⟨rfl, rfl⟩
        rw [HBB.out]
        go_wp2
        go_roundw
        case rel => exact ⟨k, d + 1, by omega, by omega, by first | rfl | simp, by first | rfl | simp, by omega, M1.out, B2.out⟩
        case measure => simp [intOf]; omega
      | true =>
        obtain ⟨q1, q2, q3⟩ := mis_yes HB.out hM.out (by omega) (by omega) hb
        have M1 := Lib.hid q3
        have HBB := Lib.hid hb
        have kln : k < ln := by omega
        obtain ⟨bb, oo, rfl, hbb, hcc⟩ : ∃ b o, la = some ⟨b, o, none⟩ ∧ b < w.heap.size ∧ ∀ i, i < ln → w.cell? ⟨b, o + i, none⟩ = some (.int .i64 (L.getD i 0)) := by
          rcases HL.out.2.2 with q | q
          · omega
          · exact q
        have qc := hcc k kln
        rw [q2] at qc
        have QC := Lib.hid (p := ∀ W, Below w.heap.size w W → W.cell? ⟨bb, oo + k, none⟩ = some (.int .i64 d)) (fun W b => (b.cell (p := ⟨bb, oo + k, none⟩) hbb).trans qc)
        have kk : (k : Int) < (ln : Int) := by omega
        have kg : decide ((ln : Int) ≤ (k : Int)) = false := decide_eq_false (by omega)
        clear hb hM hW qc hcc q1 q2 q3
        go_wp2_with fail
        go_at_call 8
        refine KO.out.mono ?_
        rintro e w2 ⟨Ax, Cx, rfl, b2, l2, _⟩
        have B2 := Lib.hid (BW.out.trans (b2.mono BW.out.size))
        have KB := Lib.hid (business_any Ax hc Cx zs d w2 l2)
        clear b2 l2
        go_wp2_with fail
        go_at_call 9
        refine KB.out.mono ?_
        rintro e w3 ⟨rfl, rfl⟩
        rw [HBB.out]
        have c3 := QC.out _ B2.out
        go_wp2
        go_roundw
        case rel => exact ⟨k + 1, d + 1, by omega, by omega, by first | rfl | simp, by first | rfl | simp, by omega, M1.out, B2.out⟩
        case measure => simp [intOf]; omega
    · clear hM hW
      go_wp2
      go_ret
      exact ⟨rfl, BW.out⟩
set_option maxHeartbeats 2000000 in
theorem missing_2 (a c : Int) (la ha : Option Addr) (ln lcap hc hcap : Nat) (L zs : List Int) (w : World) (h1 : 0 ≤ a) (h2 : 109573 < c) (hLs : Ls w la ln L) (hB : BL a c zs L) (hH : Hol w ha hc hcap zs) :
    Calls Tryd.prog 10 #[.int .i64 a, .int .i64 c, .slice la ln lcap, .slice ha hc hcap] w fun e w' => e = .returned (.bool true) ∧ Below w.heap.size w w' := by
  have HL := Lib.hid hLs
  have HB := Lib.hid hB
  have HH := Lib.hid hH
  have M0 := Lib.hid (p := Mis L 0 (a : Int)) (mis_start (fun x hx => by have q := (hB.2 x).1 hx; have := busB_in q.2.2; omega))
  have hc3 : (109573 : Int) ≤ 109573 := by omega
  have hln := hLs.2.1
  have hl := hLs.1
  clear hLs hB hH
  go_enter Tryd.func10, Tryd.ntmps10
  go_wp2
  go_loopw [9, 10] (fun y x wr => ∃ (k : Nat) (d : Int), (a : Int) ≤ d ∧ (d = a ∨ d ≤ 109573) ∧ y = .int .i64 (k : Int) ∧ x = .int .i64 d ∧ k ≤ ln ∧ RowKit.Hid (Mis L k d) ∧ Below w.heap.size w wr) (fun _ x _ => (109573 - intOf x).toNat)
  case atStart => exact ⟨0, a, by omega, .inl rfl, rfl, rfl, by omega, M0.out, Below.refl _ _⟩
  case round =>
    obtain ⟨k, d, d0, d1, rfl, rfl, kn, hM, hW⟩ := hrel
    rename World => wr
    have BW := Lib.hid hW
    have KO := Lib.hid (own_any ha hc hcap zs wr (HH.out.later hW))
    by_cases hlt : d < 109573
    · have kwd : IntKind.i64.wrap (d + 1) = d + 1 := by simp [IntKind.wrap, IntKind.bits, IntKind.signed]; omega
      have kwk : IntKind.i64.wrap ((k : Int) + 1) = (k : Int) + 1 := by simp [IntKind.wrap, IntKind.bits, IntKind.signed]; omega
      cases hb : busB d zs with
      | false =>
        have M1 := Lib.hid (mis_no HB.out hM.out hb)
        have HBB := Lib.hid hb
        clear hb hM hW
        go_wp2_with fail
        go_at_call 8
        refine KO.out.mono ?_
        rintro e w2 ⟨Ax, Cx, rfl, b2, l2, _⟩
        have B2 := Lib.hid (BW.out.trans (b2.mono BW.out.size))
        have KB := Lib.hid (business_any Ax hc Cx zs d w2 l2)
        clear b2 l2
        go_wp2_with fail
        go_at_call 9
        refine KB.out.mono ?_
        rintro e w3 ⟨rfl, rfl⟩
        rw [HBB.out]
        go_wp2
        go_roundw
        case rel => exact ⟨k, d + 1, by omega, by omega, by first | rfl | simp, by first | rfl | simp, by omega, M1.out, B2.out⟩
        case measure => simp [intOf]; omega
      | true =>
        obtain ⟨q1, q2, q3⟩ := mis_yes HB.out hM.out (by omega) (by omega) hb
        have M1 := Lib.hid q3
        have HBB := Lib.hid hb
        have kln : k < ln := by omega
        obtain ⟨bb, oo, rfl, hbb, hcc⟩ : ∃ b o, la = some ⟨b, o, none⟩ ∧ b < w.heap.size ∧ ∀ i, i < ln → w.cell? ⟨b, o + i, none⟩ = some (.int .i64 (L.getD i 0)) := by
          rcases HL.out.2.2 with q | q
          · omega
          · exact q
        have qc := hcc k kln
        rw [q2] at qc
        have QC := Lib.hid (p := ∀ W, Below w.heap.size w W → W.cell? ⟨bb, oo + k, none⟩ = some (.int .i64 d)) (fun W b => (b.cell (p := ⟨bb, oo + k, none⟩) hbb).trans qc)
        have kk : (k : Int) < (ln : Int) := by omega
        have kg : decide ((ln : Int) ≤ (k : Int)) = false := decide_eq_false (by omega)
        clear hb hM hW qc hcc q1 q2 q3
        go_wp2_with fail
        go_at_call 8
        refine KO.out.mono ?_
        rintro e w2 ⟨Ax, Cx, rfl, b2, l2, _⟩
        have B2 := Lib.hid (BW.out.trans (b2.mono BW.out.size))
        have KB := Lib.hid (business_any Ax hc Cx zs d w2 l2)
        clear b2 l2
        go_wp2_with fail
        go_at_call 9
        refine KB.out.mono ?_
        rintro e w3 ⟨rfl, rfl⟩
        rw [HBB.out]
        have c3 := QC.out _ B2.out
        go_wp2
        go_roundw
        case rel => exact ⟨k + 1, d + 1, by omega, by omega, by first | rfl | simp, by first | rfl | simp, by omega, M1.out, B2.out⟩
        case measure => simp [intOf]; omega
    · clear hM hW
      go_wp2
      go_ret
      exact ⟨rfl, BW.out⟩
set_option maxHeartbeats 2000000 in
theorem missing_3 (a c : Int) (la ha : Option Addr) (ln lcap hc hcap : Nat) (L zs : List Int) (w : World) (h1 : a < 0) (h2 : c ≤ 109573) (hLs : Ls w la ln L) (hB : BL a c zs L) (hH : Hol w ha hc hcap zs) :
    Calls Tryd.prog 10 #[.int .i64 a, .int .i64 c, .slice la ln lcap, .slice ha hc hcap] w fun e w' => e = .returned (.bool true) ∧ Below w.heap.size w w' := by
  have HL := Lib.hid hLs
  have HB := Lib.hid hB
  have HH := Lib.hid hH
  have M0 := Lib.hid (p := Mis L 0 (0 : Int)) (mis_start (fun x hx => by have q := (hB.2 x).1 hx; have := busB_in q.2.2; omega))
  have hc3 : (c : Int) ≤ 109573 := by omega
  have hln := hLs.2.1
  have hl := hLs.1
  clear hLs hB hH
  go_enter Tryd.func10, Tryd.ntmps10
  go_wp2
  go_loopw [9, 10] (fun y x wr => ∃ (k : Nat) (d : Int), (0 : Int) ≤ d ∧ (d = 0 ∨ d ≤ c) ∧ y = .int .i64 (k : Int) ∧ x = .int .i64 d ∧ k ≤ ln ∧ RowKit.Hid (Mis L k d) ∧ Below w.heap.size w wr) (fun _ x _ => (c - intOf x).toNat)
  case atStart => exact ⟨0, 0, by omega, .inl rfl, rfl, rfl, by omega, M0.out, Below.refl _ _⟩
  case round =>
    obtain ⟨k, d, d0, d1, rfl, rfl, kn, hM, hW⟩ := hrel
    rename World => wr
    have BW := Lib.hid hW
    have KO := Lib.hid (own_any ha hc hcap zs wr (HH.out.later hW))
    by_cases hlt : d < c
    · have kwd : IntKind.i64.wrap (d + 1) = d + 1 := by simp [IntKind.wrap, IntKind.bits, IntKind.signed]; omega
      have kwk : IntKind.i64.wrap ((k : Int) + 1) = (k : Int) + 1 := by simp [IntKind.wrap, IntKind.bits, IntKind.signed]; omega
      cases hb : busB d zs with
      | false =>
        have M1 := Lib.hid (mis_no HB.out hM.out hb)
        have HBB := Lib.hid hb
        clear hb hM hW
        go_wp2_with fail
        go_at_call 8
        refine KO.out.mono ?_
        rintro e w2 ⟨Ax, Cx, rfl, b2, l2, _⟩
        have B2 := Lib.hid (BW.out.trans (b2.mono BW.out.size))
        have KB := Lib.hid (business_any Ax hc Cx zs d w2 l2)
        clear b2 l2
        go_wp2_with fail
        go_at_call 9
        refine KB.out.mono ?_
        rintro e w3 ⟨rfl, rfl⟩
        rw [HBB.out]
        go_wp2
        go_roundw
        case rel => exact ⟨k, d + 1, by omega, by omega, by first | rfl | simp, by first | rfl | simp, by omega, M1.out, B2.out⟩
        case measure => simp [intOf]; omega
      | true =>
        obtain ⟨q1, q2, q3⟩ := mis_yes HB.out hM.out (by omega) (by omega) hb
        have M1 := Lib.hid q3
        have HBB := Lib.hid hb
        have kln : k < ln := by omega
        obtain ⟨bb, oo, rfl, hbb, hcc⟩ : ∃ b o, la = some ⟨b, o, none⟩ ∧ b < w.heap.size ∧ ∀ i, i < ln → w.cell? ⟨b, o + i, none⟩ = some (.int .i64 (L.getD i 0)) := by
          rcases HL.out.2.2 with q | q
          · omega
          · exact q
        have qc := hcc k kln
        rw [q2] at qc
        have QC := Lib.hid (p := ∀ W, Below w.heap.size w W → W.cell? ⟨bb, oo + k, none⟩ = some (.int .i64 d)) (fun W b => (b.cell (p := ⟨bb, oo + k, none⟩) hbb).trans qc)
        have kk : (k : Int) < (ln : Int) := by omega
        have kg : decide ((ln : Int) ≤ (k : Int)) = false := decide_eq_false (by omega)
        clear hb hM hW qc hcc q1 q2 q3
        go_wp2_with fail
        go_at_call 8
        refine KO.out.mono ?_
        rintro e w2 ⟨Ax, Cx, rfl, b2, l2, _⟩
        have B2 := Lib.hid (BW.out.trans (b2.mono BW.out.size))
        have KB := Lib.hid (business_any Ax hc Cx zs d w2 l2)
        clear b2 l2
        go_wp2_with fail
        go_at_call 9
        refine KB.out.mono ?_
        rintro e w3 ⟨rfl, rfl⟩
        rw [HBB.out]
        have c3 := QC.out _ B2.out
        go_wp2
        go_roundw
        case rel => exact ⟨k + 1, d + 1, by omega, by omega, by first | rfl | simp, by first | rfl | simp, by omega, M1.out, B2.out⟩
        case measure => simp [intOf]; omega
    · clear hM hW
      go_wp2
      go_ret
      exact ⟨rfl, BW.out⟩
set_option maxHeartbeats 2000000 in
theorem missing_4 (a c : Int) (la ha : Option Addr) (ln lcap hc hcap : Nat) (L zs : List Int) (w : World) (h1 : a < 0) (h2 : 109573 < c) (hLs : Ls w la ln L) (hB : BL a c zs L) (hH : Hol w ha hc hcap zs) :
    Calls Tryd.prog 10 #[.int .i64 a, .int .i64 c, .slice la ln lcap, .slice ha hc hcap] w fun e w' => e = .returned (.bool true) ∧ Below w.heap.size w w' := by
  have HL := Lib.hid hLs
  have HB := Lib.hid hB
  have HH := Lib.hid hH
  have M0 := Lib.hid (p := Mis L 0 (0 : Int)) (mis_start (fun x hx => by have q := (hB.2 x).1 hx; have := busB_in q.2.2; omega))
  have hc3 : (109573 : Int) ≤ 109573 := by omega
  have hln := hLs.2.1
  have hl := hLs.1
  clear hLs hB hH
  go_enter Tryd.func10, Tryd.ntmps10
  go_wp2
  go_loopw [9, 10] (fun y x wr => ∃ (k : Nat) (d : Int), (0 : Int) ≤ d ∧ (d = 0 ∨ d ≤ 109573) ∧ y = .int .i64 (k : Int) ∧ x = .int .i64 d ∧ k ≤ ln ∧ RowKit.Hid (Mis L k d) ∧ Below w.heap.size w wr) (fun _ x _ => (109573 - intOf x).toNat)
  case atStart => exact ⟨0, 0, by omega, .inl rfl, rfl, rfl, by omega, M0.out, Below.refl _ _⟩
  case round =>
    obtain ⟨k, d, d0, d1, rfl, rfl, kn, hM, hW⟩ := hrel
    rename World => wr
    have BW := Lib.hid hW
    have KO := Lib.hid (own_any ha hc hcap zs wr (HH.out.later hW))
    by_cases hlt : d < 109573
    · have kwd : IntKind.i64.wrap (d + 1) = d + 1 := by simp [IntKind.wrap, IntKind.bits, IntKind.signed]; omega
      have kwk : IntKind.i64.wrap ((k : Int) + 1) = (k : Int) + 1 := by simp [IntKind.wrap, IntKind.bits, IntKind.signed]; omega
      cases hb : busB d zs with
      | false =>
        have M1 := Lib.hid (mis_no HB.out hM.out hb)
        have HBB := Lib.hid hb
        clear hb hM hW
        go_wp2_with fail
        go_at_call 8
        refine KO.out.mono ?_
        rintro e w2 ⟨Ax, Cx, rfl, b2, l2, _⟩
        have B2 := Lib.hid (BW.out.trans (b2.mono BW.out.size))
        have KB := Lib.hid (business_any Ax hc Cx zs d w2 l2)
        clear b2 l2
        go_wp2_with fail
        go_at_call 9
        refine KB.out.mono ?_
        rintro e w3 ⟨rfl, rfl⟩
        rw [HBB.out]
        go_wp2
        go_roundw
        case rel => exact ⟨k, d + 1, by omega, by omega, by first | rfl | simp, by first | rfl | simp, by omega, M1.out, B2.out⟩
        case measure => simp [intOf]; omega
      | true =>
        obtain ⟨q1, q2, q3⟩ := mis_yes HB.out hM.out (by omega) (by omega) hb
        have M1 := Lib.hid q3
        have HBB := Lib.hid hb
        have kln : k < ln := by omega
        obtain ⟨bb, oo, rfl, hbb, hcc⟩ : ∃ b o, la = some ⟨b, o, none⟩ ∧ b < w.heap.size ∧ ∀ i, i < ln → w.cell? ⟨b, o + i, none⟩ = some (.int .i64 (L.getD i 0)) := by
          rcases HL.out.2.2 with q | q
          · omega
          · exact q
        have qc := hcc k kln
        rw [q2] at qc
        have QC := Lib.hid (p := ∀ W, Below w.heap.size w W → W.cell? ⟨bb, oo + k, none⟩ = some (.int .i64 d)) (fun W b => (b.cell (p := ⟨bb, oo + k, none⟩) hbb).trans qc)
        have kk : (k : Int) < (ln : Int) := by omega
        have kg : decide ((ln : Int) ≤ (k : Int)) = false := decide_eq_false (by omega)
        clear hb hM hW qc hcc q1 q2 q3
        go_wp2_with fail
        go_at_call 8
        refine KO.out.mono ?_
        rintro e w2 ⟨Ax, Cx, rfl, b2, l2, _⟩
        have B2 := Lib.hid (BW.out.trans (b2.mono BW.out.size))
        have KB := Lib.hid (business_any Ax hc Cx zs d w2 l2)
        clear b2 l2
        go_wp2_with fail
        go_at_call 9
        refine KB.out.mono ?_
        rintro e w3 ⟨rfl, rfl⟩
        rw [HBB.out]
        have c3 := QC.out _ B2.out
        go_wp2
        go_roundw
        case rel => exact ⟨k + 1, d + 1, by omega, by omega, by first | rfl | simp, by first | rfl | simp, by omega, M1.out, B2.out⟩
        case measure => simp [intOf]; omega
    · clear hM hW
      go_wp2
      go_ret
      exact ⟨rfl, BW.out⟩
theorem missing_any (a c : Int) (la ha : Option Addr) (ln lcap hc hcap : Nat) (L zs : List Int) (w : World) (hLs : Ls w la ln L) (hB : BL a c zs L) (hH : Hol w ha hc hcap zs) :
    Calls Tryd.prog 10 #[.int .i64 a, .int .i64 c, .slice la ln lcap, .slice ha hc hcap] w fun e w' => e = .returned (.bool true) ∧ Below w.heap.size w w' := by
  by_cases h1 : a < 0 <;> by_cases h2 : 109573 < c
  · exact missing_4 a c la ha ln lcap hc hcap L zs w h1 h2 hLs hB hH
  · exact missing_3 a c la ha ln lcap hc hcap L zs w h1 (by omega) hLs hB hH
  · exact missing_2 a c la ha ln lcap hc hcap L zs w (by omega) h2 hLs hB hH
  · exact missing_1 a c la ha ln lcap hc hcap L zs w (by omega) (by omega) hLs hB hH
end Go.Proofs.YtpeglcnenagkbaaDoor
