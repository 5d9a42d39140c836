/-
  WALKS: isAction, playable.
-/
import Derived.Test.YtjlnbhmiahegmaaWP1
import Derived.Test.YtjlnbhmiahegmaaWXHa
namespace Go.Proofs.Ytjlnbhmiahegmaa
open Go.RowKit
set_option linter.unusedVariables false
set_option linter.unusedSimpArgs false

theorem AV.x4 {w : World} {a : At} (h : AV w a) : ∃ x0 x1 x2 x3, a.x = [x0, x1, x2, x3] := h.2.2.2.1.four
theorem SV.x4 {w : World} {s : St} (h : SV w s) : ∃ x0 x1 x2 x3, s.x = [x0, x1, x2, x3] := h.2.four
/-- The cells of an action. -/
structure AC (w : World) (p q : Nat) (a : At) : Prop where
  day : w.cell? ⟨p, q, none⟩ = some (.int .i64 a.day)
  kind : w.cell? ⟨p, q + 1, none⟩ = some (.int .i64 a.kind)
  ss : w.cell? ⟨p, q + 2, none⟩ = some (.slice a.sa a.ss.length a.sc)
  x : ∀ j, j < 4 → w.cell? ⟨p, q + 3 + j, none⟩ = some (a.x.getD j default)
  cur : w.cell? ⟨p, q + 7, none⟩ = some (.string a.cur)
  cell : w.cell? ⟨p, q + 8, none⟩ = some (.int .i64 a.cell)
theorem AC.of {w w0 : World} {p q : Nat} {a : At} (hA : AV w0 a) (h : ∀ j, j < 9 → w.cell? ⟨p, q + j, none⟩ = some (a.cs.getD j default)) : AC w p q a := by
  obtain ⟨x0, x1, x2, x3, hx⟩ := hA.x4
  have e : a.cs = [.int .i64 a.day, .int .i64 a.kind, .slice a.sa a.ss.length a.sc, x0, x1, x2, x3, .string a.cur, .int .i64 a.cell] := by unfold At.cs; rw [hx]; rfl
  rw [e] at h
  refine ⟨h 0 (by omega), h 1 (by omega), h 2 (by omega), fun j hj => ?_, h 7 (by omega), h 8 (by omega)⟩
  rw [hx]
  match j, hj with
  | 0, _ => exact h 3 (by omega)
  | 1, _ => exact h 4 (by omega)
  | 2, _ => exact h 5 (by omega)
  | 3, _ => exact h 6 (by omega)
theorem AC.later {w w' : World} {p q : Nat} {a : At} (h : AC w p q a) {B : Nat} (b : Below B w w') (hp : p < B) : AC w' p q a :=
  ⟨(b.cell (p := ⟨p, q, none⟩) hp).trans h.day, (b.cell (p := ⟨p, q + 1, none⟩) hp).trans h.kind, (b.cell (p := ⟨p, q + 2, none⟩) hp).trans h.ss, fun j hj => (b.cell (p := ⟨p, q + 3 + j, none⟩) hp).trans (h.x j hj), (b.cell (p := ⟨p, q + 7, none⟩) hp).trans h.cur, (b.cell (p := ⟨p, q + 8, none⟩) hp).trans h.cell⟩
/-- The cells of a step. -/
structure SC6 (w : World) (p q : Nat) (s : St) : Prop where
  kind : w.cell? ⟨p, q, none⟩ = some (.int .i64 s.kind)
  want : w.cell? ⟨p, q + 1, none⟩ = some (.bool s.want)
  x : ∀ j, j < 4 → w.cell? ⟨p, q + 2 + j, none⟩ = some (s.x.getD j default)
theorem SC6.of {w w0 : World} {p q : Nat} {s : St} (hS : SV w0 s) (h : ∀ j, j < 6 → w.cell? ⟨p, q + j, none⟩ = some (s.cs.getD j default)) : SC6 w p q s := by
  obtain ⟨x0, x1, x2, x3, hx⟩ := hS.x4
  have e : s.cs = [.int .i64 s.kind, .bool s.want, x0, x1, x2, x3] := by unfold St.cs; rw [hx]
  rw [e] at h
  refine ⟨h 0 (by omega), h 1 (by omega), fun j hj => ?_⟩
  rw [hx]
  match j, hj with
  | 0, _ => exact h 2 (by omega)
  | 1, _ => exact h 3 (by omega)
  | 2, _ => exact h 4 (by omega)
  | 3, _ => exact h 5 (by omega)
theorem SC6.later {w w' : World} {p q : Nat} {s : St} (h : SC6 w p q s) {B : Nat} (b : Below B w w') (hp : p < B) : SC6 w' p q s :=
  ⟨(b.cell (p := ⟨p, q, none⟩) hp).trans h.kind, (b.cell (p := ⟨p, q + 1, none⟩) hp).trans h.want, fun j hj => (b.cell (p := ⟨p, q + 2 + j, none⟩) hp).trans (h.x j hj)⟩
theorem SL.at {w : World} {sa : Option Addr} {ss : List St} (h : SL w sa ss) (h0 : 0 < ss.length) : ∃ b o, sa = some ⟨b, o, none⟩ ∧ b < w.heap.size ∧ ∀ i, i < ss.length → SV w (ss.getD i default) ∧ SC6 w b (o + i * 6) (ss.getD i default) := by
  rcases h.2.2 with q | ⟨b, o, q1, q2, q3⟩
  · omega
  · refine ⟨b, o, q1, q2, fun i hi => ?_⟩
    have hm : SV w (ss.getD i default) := h.2.1 _ (by rw [show ss.getD i default = ss[i] by simp [List.getD, hi]]; exact List.getElem_mem hi)
    exact ⟨hm, SC6.of hm (q3 i hi)⟩
theorem AL.at {w : World} {pa : Option Addr} {al : List At} (h : AL w pa al) (h0 : 0 < al.length) : ∃ b o, pa = some ⟨b, o, none⟩ ∧ b < w.heap.size ∧ ∀ i, i < al.length → AV w (al.getD i default) ∧ AC w b (o + i * 9) (al.getD i default) := by
  rcases h.2.2 with q | ⟨b, o, q1, q2, q3⟩
  · omega
  · refine ⟨b, o, q1, q2, fun i hi => ?_⟩
    have hm : AV w (al.getD i default) := h.2.1 _ (by rw [show al.getD i default = al[i] by simp [List.getD, hi]]; exact List.getElem_mem hi)
    exact ⟨hm, AC.of hm (q3 i hi)⟩
/-- A claim as a truth value. -/
noncomputable def dcd (P : Prop) : Bool := @decide P (Classical.propDecidable P)
theorem dcd_true {P : Prop} (h : P) : dcd P = true := by unfold dcd; exact @decide_eq_true P (Classical.propDecidable P) h
theorem dcd_false {P : Prop} (h : ¬ P) : dcd P = false := by unfold dcd; exact @decide_eq_false P (Classical.propDecidable P) h
theorem dcd_iff {P : Prop} {b : Bool} (h : b = true ↔ P) : b = dcd P := by
  cases b with
  | true => exact (dcd_true (h.1 rfl)).symm
  | false => exact (dcd_false (fun p => by have := h.2 p; cases this)).symm
theorem of_dcd {P : Prop} (h : dcd P = true) : P := by
  by_cases q : P
  · exact q
  · rw [dcd_false q] at h; cases h
theorem not_dcd {P : Prop} (h : dcd P = false) : ¬ P := fun q => by rw [dcd_true q] at h; cases h
def okK (k : Int) : Prop := k = 1 ∨ k = 2 ∨ k = 3
theorem kinds_of {ss : List St} (h : ∀ i, i < ss.length → okK (ss.getD i default).kind) : ∀ s ∈ ss, s.kind = 1 ∨ s.kind = 2 ∨ s.kind = 3 := by
  intro s hs
  obtain ⟨i, hi, rfl⟩ := List.mem_iff_getElem.1 hs
  have := h i hi
  simpa [List.getD, hi, okK] using this
theorem kind_at {ss : List St} (h : ∀ s ∈ ss, s.kind = 1 ∨ s.kind = 2 ∨ s.kind = 3) (i : Nat) (hi : i < ss.length) : okK (ss.getD i default).kind := by
  rw [show ss.getD i default = ss[i] by simp [List.getD, hi]]
  exact h _ (List.getElem_mem hi)
set_option maxRecDepth 100000 in
set_option maxHeartbeats 1000000 in
theorem isAction_any {w : World} {a : At} (hA : AV w a) (p q : Nat) (hc : AC w p q a) (cells : Int) :
    Calls Try.prog 47 #[.pointer (some ⟨p, q, none⟩), .int .i64 cells] w fun e w' => e = .returned (.bool (dcd (isA a cells))) ∧ w' = w := by
  obtain ⟨D, hD⟩ : ∃ D, dcd (isA a cells) = D := ⟨_, rfl⟩
  rw [hD]
  have HD := Lib.hid hD
  clear hD
  have c1 := hc.kind
  have c2 := hc.ss
  have c7 := hc.cur
  have c8 := hc.cell
  have HA := Lib.hid hA
  obtain ⟨n, hn⟩ : ∃ n, a.ss.length = n := ⟨_, rfl⟩
  rw [hn] at c2
  have HN := Lib.hid hn
  obtain ⟨ak, hak⟩ : ∃ k, a.kind = k := ⟨_, rfl⟩
  rw [hak] at c1
  have HK := Lib.hid hak
  obtain ⟨ac, hac⟩ : ∃ k, a.cell = k := ⟨_, rfl⟩
  rw [hac] at c8
  have HAC := Lib.hid hac
  have NL : n ≤ 2199023255488 := by rw [← hn]; exact hA.2.2.2.2.2.1.1
  clear hc hA hn hak hac
  go_enter Try.func47, Try.ntmps47
  go_wp2
  go_loopw [12] (fun t wr => ∃ (i : Nat), i ≤ n ∧ t = .int .i64 i ∧ RowKit.Hid (∀ j, j < i → okK (a.ss.getD j default).kind) ∧ wr = w) (fun t _ => n - (intOf t).toNat)
  case atStart => exact ⟨0, by omega, rfl, fun j hj => absurd hj (by omega), rfl⟩
  case round =>
    obtain ⟨i, hi, rfl, HI, hwr⟩ := hrel
    have hwr' := hwr.symm
    subst hwr'
    by_cases il : i < n
    · have ic : (i : Int) < (n : Int) := by omega
      obtain ⟨b, o, hsa, hb, hat⟩ := HA.out.2.2.2.2.2.1.at (by rw [HN.out]; omega)
      rw [hsa] at c2
      have d0 := (hat i (by rw [HN.out]; exact il)).2.kind
      by_cases ok : okK (a.ss.getD i default).kind
      · have OK := Lib.hid ok
        generalize (a.ss.getD i default).kind = sk at d0 ok
        clear hat hsa
        rcases ok with rfl | rfl | rfl
        all_goals go_wp2
        all_goals
          go_roundw
          case rel => exact ⟨i + 1, by omega, by go_num, (fun j hj => by
            by_cases e : j = i
            · rw [e]; exact OK.out
            · exact HI.out j (by omega)), by first | rfl | trivial⟩
          case measure => simp [intOf]; omega
      · have OK := Lib.hid ok
        have n1 : ¬ (a.ss.getD i default).kind = 1 := fun e => ok (.inl e)
        have n2 : ¬ (a.ss.getD i default).kind = 2 := fun e => ok (.inr (.inl e))
        have n3 : ¬ (a.ss.getD i default).kind = 3 := fun e => ok (.inr (.inr e))
        generalize (a.ss.getD i default).kind = sk at d0 n1 n2 n3
        have m1 : (sk != 1) = true := by simpa using n1
        have m2 : (sk != 2) = true := by simpa using n2
        have m3 : (sk != 3) = true := by simpa using n3
        clear hat hsa ok
        go_wp2
        go_ret
        exact ⟨ret_b (by rw [← HD.out]; exact (dcd_false (fun hA => OK.out (kind_at hA.1 i (by rw [HN.out]; exact il)))).symm), rfl⟩
    · obtain rfl : i = n := by omega
      have KS := Lib.hid (kinds_of (ss := a.ss) (fun j hj => HI.out j (by rw [← HN.out]; exact hj)))
      by_cases k1 : ak = 1
      · subst k1
        have KC := Lib.hid (fun W => lcur_any a.cur W)
        go_wp2_with (go_at_call 64; refine (KC.out _).mono ?_; rintro e w1 ⟨rfl, rfl⟩)
        go_ret
        refine ⟨ret_b ?_, rfl⟩
        rw [← HD.out]
        refine dcd_iff ⟨fun h => ⟨KS.out, .inl ⟨HK.out, h⟩⟩, fun h => ?_⟩
        rcases h.2 with q | q
        · exact q.2
        · have := HK.out; have := q.1; omega
      · have m1 : (ak == 1) = false := by simpa using k1
        have NO := Lib.hid (show ¬ (ak = 2 ∧ 0 ≤ ac ∧ ac < cells) → false = D from fun h => by
          rw [← HD.out]
          refine (dcd_false (fun h' => ?_)).symm
          rcases h'.2 with q | q
          · exact k1 (HK.out ▸ q.1)
          · exact h ⟨HK.out ▸ q.1, HAC.out ▸ q.2.1, HAC.out ▸ q.2.2⟩)
        by_cases k2 : ak = 2
        · subst k2
          by_cases g1 : 0 ≤ ac
          · by_cases g2 : ac < cells
            · have YES := Lib.hid (show true = D from by rw [← HD.out]; exact (dcd_true ⟨KS.out, .inr ⟨HK.out, by rw [HAC.out]; exact g1, by rw [HAC.out]; exact g2⟩⟩).symm)
              go_wp2
              go_ret
              exact ⟨ret_b YES.out, rfl⟩
            · go_wp2
              go_ret
              exact ⟨ret_b (NO.out (fun h => by omega)), rfl⟩
          · go_wp2
            go_ret
            exact ⟨ret_b (NO.out (fun h => by omega)), rfl⟩
        · have m2 : (ak == 2) = false := by simpa using k2
          go_wp2
          go_ret
          exact ⟨ret_b (NO.out (fun h => k2 h.1)), rfl⟩
theorem odd_cells {al : List At} {cells : Int} (h : cells < 0 ∨ 512 < cells) : oddR al cells = 1 := by unfold oddR; rw [if_pos h]
theorem odd_isA {al : List At} {cells : Int} {i : Nat} (hi : i < al.length) (h : ¬ isA (al.getD i default) cells) : oddR al cells = 1 := by
  unfold oddR
  split
  · rfl
  · rw [if_pos (fun q => h (q _ (by rw [show al.getD i default = al[i] by simp [List.getD, hi]]; exact List.getElem_mem hi)))]
theorem odd_rest {al : List At} {cells : Int} (h0 : ¬ (cells < 0 ∨ 512 < cells)) (h1 : ∀ i, i < al.length → isA (al.getD i default) cells) : oddR al cells = if dcd (risen al) = false then 2 else if 2048 < al.length then 6 else 0 := by
  unfold oddR
  rw [if_neg h0, if_neg (fun q => q (fun a ha => by
    obtain ⟨i, hi, rfl⟩ := List.mem_iff_getElem.1 ha
    have := h1 i hi
    simpa [List.getD, hi] using this))]
  by_cases r : risen al
  · rw [if_neg (fun q => q r), dcd_true r]; simp
  · rw [if_pos r, dcd_false r, if_pos rfl]
def pday (al : List At) (i : Nat) : Int := if i = 0 then 0 else (al.getD (i - 1) default).day
set_option maxRecDepth 100000 in
set_option maxHeartbeats 1000000 in
theorem playable_any {w : World} {al : List At} {pa : Option Addr} {pc : Nat} (hL : AL w pa al) (cells : Int) :
    Calls Try.prog 32 #[.slice pa al.length pc, .int .i64 cells] w fun e w' => e = .returned (.int .i64 (oddR al cells)) ∧ w' = w := by
  obtain ⟨D, hD⟩ : ∃ D, oddR al cells = D := ⟨_, rfl⟩
  rw [hD]
  have HD := Lib.hid hD
  obtain ⟨n, hn⟩ : ∃ n, al.length = n := ⟨_, rfl⟩
  rw [hn]
  have HN := Lib.hid hn
  have HL := Lib.hid hL
  have NL : n ≤ 1256584717422 := by rw [← hn]; exact hL.1
  clear hD hn hL
  by_cases z0 : cells < 0
  · have hd : D = 1 := by rw [← HD.out]; exact odd_cells (.inl z0)
    subst hd
    go_enter Try.func32, Try.ntmps32
    go_wp2
    go_ret
    exact ⟨rfl, rfl⟩
  by_cases z1 : 512 < cells
  · have hd : D = 1 := by rw [← HD.out]; exact odd_cells (.inr z1)
    subst hd
    go_enter Try.func32, Try.ntmps32
    go_wp2
    go_ret
    exact ⟨rfl, rfl⟩
  have Z := Lib.hid (show ¬ (cells < 0 ∨ 512 < cells) from fun h => by omega)
  go_enter Try.func32, Try.ntmps32
  go_wp2
  go_loopw [16] (fun t wr => ∃ (i : Nat), i ≤ n ∧ t = .int .i64 i ∧ RowKit.Hid (∀ j, j < i → isA (al.getD j default) cells) ∧ wr = w) (fun t _ => n - (intOf t).toNat)
  case atStart => exact ⟨0, by omega, rfl, fun j hj => absurd hj (by omega), rfl⟩
  case round =>
    obtain ⟨i, hi, rfl, HI, hwr⟩ := hrel
    have hwr' := hwr.symm
    subst hwr'
    by_cases il : i < n
    · have ic : (i : Int) < (n : Int) := by omega
      obtain ⟨b, o, hsa, hb, hat⟩ := HL.out.at (by rw [HN.out]; omega)
      subst hsa
      obtain ⟨hav, hac⟩ := hat i (by rw [HN.out]; exact il)
      have KA := Lib.hid (fun c => isAction_any hav b (o + i * 9) hac c)
      clear hat hav hac
      cases hi2 : dcd (isA (al.getD i default) cells) with
      | true =>
        have OK := Lib.hid (of_dcd hi2)
        go_wp2_with (go_at_call 47; refine (KA.out _).mono ?_; rintro e w1 ⟨rfl, hw1⟩; have hw1' := hw1.symm; subst hw1'; rw [hi2])
        go_roundw
        case rel => exact ⟨i + 1, by omega, by go_num, (fun j hj => by
            by_cases e : j = i
            · rw [e]; exact OK.out
            · exact HI.out j (by omega)), by first | rfl | trivial⟩
        case measure => simp [intOf]; omega
      | false =>
        have hd : D = 1 := by rw [← HD.out]; exact odd_isA (by rw [HN.out]; exact il) (not_dcd hi2)
        subst hd
        go_wp2_with (go_at_call 47; refine (KA.out _).mono ?_; rintro e w1 ⟨rfl, hw1⟩; have hw1' := hw1.symm; subst hw1'; rw [hi2])
        go_ret
        exact ⟨rfl, rfl⟩
    · obtain rfl : i = n := by omega
      have hd : D = (if dcd (risen al) = false then 2 else if 2048 < i then 6 else 0) := by
        have := odd_rest Z.out (fun j hj => HI.out j (by rw [← HN.out]; exact hj))
        rw [HD.out, HN.out] at this
        exact this
      have HD2 := Lib.hid hd
      clear hd
      go_wp2
      go_loopw [6, 28] (fun d t wr => ∃ (k : Nat), k ≤ i ∧ t = .int .i64 k ∧ d = .int .i64 (pday al k) ∧ RowKit.Hid (∀ j, j < k → pday al j ≤ (al.getD j default).day ∧ (al.getD j default).day ≤ 3660) ∧ wr = w) (fun _ t _ => i - (intOf t).toNat)
      case atStart => exact ⟨0, by omega, rfl, rfl, fun j hj => absurd hj (by omega), rfl⟩
      case round =>
        obtain ⟨k, hk, rfl, rfl, HK, hwr⟩ := hrel
        have hwr' := hwr.symm
        subst hwr'
        by_cases il : k < i
        · have ic : (k : Int) < (i : Int) := by omega
          obtain ⟨b, o, hsa, hb, hat⟩ := HL.out.at (by rw [HN.out]; omega)
          subst hsa
          have d0 := (hat k (by rw [HN.out]; exact il)).2.day
          have NX := Lib.hid (show (al.getD k default).day = pday al (k + 1) from by simp [pday])
          clear hat
          have BAD := Lib.hid (show ¬ (pday al k ≤ (al.getD k default).day ∧ (al.getD k default).day ≤ 3660) → D = 2 from fun h => by
            rw [HD2.out, dcd_false (fun r => h (r k (by rw [HN.out]; exact il))), if_pos rfl])
          have GO := Lib.hid (show (pday al k ≤ (al.getD k default).day ∧ (al.getD k default).day ≤ 3660) → ∀ j, j < k + 1 → pday al j ≤ (al.getD j default).day ∧ (al.getD j default).day ≤ 3660 from fun h j hj => by
            by_cases e : j = k
            · rw [e]; exact h
            · exact HK.out j (by omega))
          generalize (al.getD k default).day = dy at d0 NX BAD GO
          generalize pday al k = pd at BAD GO ⊢
          by_cases y0 : dy < pd
          · have hd := BAD.out (fun h => by omega)
            subst hd
            clear BAD GO NX
            go_wp2
            go_ret
            exact ⟨rfl, rfl⟩
          · by_cases y1 : 3660 < dy
            · have hd := BAD.out (fun h => by omega)
              subst hd
              clear BAD GO NX
              go_wp2
              go_ret
              exact ⟨rfl, rfl⟩
            · have G2 := Lib.hid (GO.out ⟨by omega, by omega⟩)
              clear BAD GO
              go_wp2
              go_roundw
              case rel => exact ⟨k + 1, by omega, by go_num, by rw [NX.out], G2.out, by first | rfl | trivial⟩
              case measure => simp [intOf]; omega
        · obtain rfl : k = i := by omega
          have RS : dcd (risen al) = true := dcd_true (fun j hj => HK.out j (by rw [← HN.out]; exact hj))
          have HD3 := Lib.hid (show D = if 2048 < k then 6 else 0 from by rw [HD2.out, RS, if_neg (by simp)])
          clear RS
          generalize pday al k = pd at *
          by_cases y : 2048 < k
          · have yc : (2048 : Int) < (k : Int) := by omega
            have hd : D = 6 := by rw [HD3.out, if_pos y]
            subst hd
            clear HD3 HD2
            go_wp2
            go_ret
            exact ⟨rfl, rfl⟩
          · have yc : ¬ (2048 : Int) < (k : Int) := by omega
            have hd : D = 0 := by rw [HD3.out, if_neg y]
            subst hd
            clear HD3 HD2
            go_wp2
            go_ret
            exact ⟨rfl, rfl⟩
end Go.Proofs.Ytjlnbhmiahegmaa
