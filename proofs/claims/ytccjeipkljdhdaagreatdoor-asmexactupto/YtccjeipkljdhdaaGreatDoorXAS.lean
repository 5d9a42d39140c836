import Derived.Test.YtccjeipkljdhdaaGreatDoorXAI
import Derived.Deep.RegionHeld3
namespace Go.Proofs.YtccjeipkljdhdaaGreatDoor
open Go.RowKit
set_option linter.unusedVariables false
set_option linter.unusedSimpArgs false

/-- A rune, what is known of the words behind it. -/
theorem WI.word {s : ByteArray} {pos bg k : Nat} {op : Bool} {ws : List ByteArray} (h : WI s pos bg op ws) (q : ∀ j, j < k → pos + j < s.size ∧ wrA (yb s (pos + j)) = true) (k0 : 0 < k) : WI s (pos + k) (if op = true then bg else pos) true ws := by
  have e := fy_run k q
  have q0 := q 0 k0
  rw [Nat.add_zero] at q0
  rcases h with ⟨rfl, h1, h2⟩ | ⟨rfl, h2⟩
  · exact .inl ⟨rfl, by simp; omega, by rw [h2, if_pos rfl, ← e]⟩
  · refine .inl ⟨rfl, by simp, ?_⟩
    rw [h2, wdsL_word q0.1 q0.2, e]
    simp
theorem WI.blank {s : ByteArray} {pos bg : Nat} {op : Bool} {ws : List ByteArray} (h : WI s pos bg op ws) (hp : pos < s.size) (q : bkA (yb s pos) = true) (bg' : Nat) : WI s (pos + 1) bg' false (if op = true then ws ++ [s.extract bg pos] else ws) := by
  have st : fy wrA s pos = pos := fy_stop (fun r => by have := wrA_bk r.2; rw [q] at this; cases this)
  rcases h with ⟨rfl, h1, h2⟩ | ⟨rfl, h2⟩
  · refine .inr ⟨rfl, ?_⟩
    rw [h2, st, wdsL_blank hp q]
    simp
  · refine .inr ⟨rfl, ?_⟩
    rw [h2, wdsL_blank hp q]
    simp
theorem WI.rem {s : ByteArray} {pos bg : Nat} {op : Bool} {ws : List ByteArray} (h : WI s pos bg op ws) (q : yb s pos = 59) : wdsL s 0 = (if op = true then ws ++ [s.extract bg pos] else ws) := by
  have st : fy wrA s pos = pos := fy_stop (fun r => by rw [q] at r; exact absurd r.2 (by decide))
  rcases h with ⟨rfl, h1, h2⟩ | ⟨rfl, h2⟩
  · rw [h2, st, wdsL_rem q]; simp
  · rw [h2, wdsL_rem q]; simp
theorem WI.end {s : ByteArray} {pos bg : Nat} {op : Bool} {ws : List ByteArray} (h : WI s pos bg op ws) (q : ¬ pos < s.size) (le : pos ≤ s.size) : wdsL s 0 = (if op = true then ws ++ [s.extract bg s.size] else ws) := by
  have st : fy wrA s pos = pos := fy_stop (fun r => q r.1)
  rcases h with ⟨rfl, h1, h2⟩ | ⟨rfl, h2⟩
  · rw [h2, st, wdsL_end q, show pos = s.size by omega]; simp
  · rw [h2, wdsL_end q]; simp
theorem word_le {s : ByteArray} {pos k : Nat} (q : ∀ j, j < k → pos + j < s.size ∧ wrA (yb s (pos + j)) = true) (h : pos ≤ s.size) : pos + k ≤ s.size := by
  match k with
  | 0 => omega
  | k + 1 => have := (q k (by omega)).1; omega
def ApE (w : World) (B : Nat) (v0 : Value) (us : List ByteArray) (s : ByteArray) (e : Ending) (w' : World) : Prop := ∃ v, e = .returned v ∧ w'.ownsRow B 9 1 v (us ++ wdsL s 0).length ((us ++ wdsL s 0).map Value.string) ∧ w.grownBy w' v0.ownBlock ∧ (v.ownBlock = v0.ownBlock ∨ ∀ z, v.ownBlock = some z → w.heap.size < z)
theorem ape_of {w W : World} {B pos : Nat} {s : ByteArray} {v0 v : Value} {us ws : List ByteArray} (h : ApW w W B pos s v0 v (us ++ ws)) (e : wdsL s 0 = ws) : ApE w B v0 us s (.returned v) W := by
  unfold ApE
  rw [e]
  exact ⟨v, rfl, h.own, h.gr, h.lies⟩
set_option maxRecDepth 100000 in
set_option maxHeartbeats 4000000 in
theorem appendWords_any (v0 : Value) (us : List ByteArray) (s : ByteArray) (B : Nat) (w : World) (h : w.ownsRow B 9 1 v0 us.length (us.map Value.string)) (hB : B ≤ w.heap.size) (hs : s.size ≤ 16777216) (hu : us.length ≤ 16777216) :
    Calls Tryz.prog 33 #[v0, .string s] w fun e w' => ApE w B v0 us s e w' := by
  have A0 := Lib.hid (p := ApW w (w.alloc (.stringIter s 0)) B 0 s v0 v0 (us ++ [])) ⟨by rw [List.append_nil]; exact h.alloc _, ⟨rfl, rfl, rfl, (allocBP w _).size, fun k k1 _ => (allocBP w _).block k k1⟩, (by show (w.heap.push _)[w.heap.size]? = _; simp), .inl rfl⟩
  have I0 := Lib.hid (p := WI s 0 0 false []) (.inr ⟨rfl, rfl⟩)
  have hmax : s.size ≤ maxLen := by unfold maxLen; omega
  clear h
  go_enter Tryz.func33, Tryz.ntmps33
  go_wp2
  go_loopw [0, 5, 6] (fun t b o W => ∃ (pos bg : Nat) (op : Bool) (ws : List ByteArray) (v : Value), v = t ∧ b = .int .i64 bg ∧ o = .bool op ∧ pos ≤ s.size ∧ WI s pos bg op ws ∧ ApW w W B pos s v0 v (us ++ ws)) (fun _ _ _ W => s.size - W.iterPos w.heap.size)
  case atStart => exact ⟨0, 0, false, [], _, rfl, rfl, rfl, by omega, I0.out, A0.out⟩
  case round =>
    rename World => W
    obtain ⟨pos, bg, op, ws, v, rfl, rfl, rfl, hp, hI, hA⟩ := hrel
    have II := Lib.hid hI
    have AA := Lib.hid hA
    have wl := hI.len
    have ul : (us ++ ws).length ≤ 1073741824 := by rw [List.length_append]; omega
    have wsz : w.heap.size ≤ W.heap.size := hA.gr.size
    clear I0 A0
    by_cases hlt : pos < s.size
    · obtain ⟨c, k, hR, hnx⟩ : ∃ c k, RuneAt s pos c k ∧ ∀ ty, (Instr.next (.pointer (some ⟨w.heap.size, 0, none⟩)) true ty).run Tryz.prog W = .ok (.tuple #[.bool true, .int .i64 pos, .int .i32 c]) (W.iterAt w.heap.size s (pos + k)) := ⟨_, _, rune_at hlt, fun ty => Lib.run_next_any_at W _ s pos ty hA.it hlt⟩
      have AM := Lib.hid (hA.move (pos + k))
      have IP := Lib.hid (iterPos_of hA.it)
      clear hA hI
      cases hR with
      | word q k0 hc =>
        have NI := Lib.hid (II.out.word q k0)
        have le := word_le q hp
        have KW := Lib.hid (fun (X : World) => isOfWord_any c X)
        rw [decide_eq_true hc] at KW
        clear q hc
        obtain ⟨W1, hW1⟩ : ∃ X, W.iterAt w.heap.size s (pos + k) = X := ⟨_, rfl⟩
        rw [hW1] at hnx AM
        clear hW1
        cases op with
        | true =>
          go_wp2_with (go_at_call 65; refine (KW.out _).mono ?_; rintro e w2 ⟨rfl, h2⟩; have h2' := h2.symm; subst h2')
          go_roundw
          case rel => exact ⟨pos + k, bg, true, ws, _, rfl, rfl, rfl, le, NI.out, AM.out⟩
          case measure => rw [IP.out, iterPos_of AM.out.it]; omega
        | false =>
          go_wp2_with (go_at_call 65; refine (KW.out _).mono ?_; rintro e w2 ⟨rfl, h2⟩; have h2' := h2.symm; subst h2')
          go_roundw
          case rel => exact ⟨pos + k, pos, true, ws, _, rfl, rfl, rfl, le, NI.out, AM.out⟩
          case measure => rw [IP.out, iterPos_of AM.out.it]; omega
      | blank q hc =>
        have NI := Lib.hid (II.out.blank hlt q bg)
        have KW := Lib.hid (fun (X : World) => isOfWord_any c X)
        rw [decide_eq_false (by omega)] at KW
        have n59 : (c == 59) = false := by simp; omega
        have bl : op = true → bg ≤ pos := fun e => by subst e; rcases II.out with ⟨_, q, _⟩ | ⟨q, _⟩ <;> first | exact q | cases q
        clear q hc
        obtain ⟨W1, hW1⟩ : ∃ X, W.iterAt w.heap.size s (pos + 1) = X := ⟨_, rfl⟩
        rw [hW1] at hnx AM
        clear hW1
        have s1 : w.heap.size ≤ W1.heap.size := AM.out.gr.size
        cases op with
        | true =>
          have bl := bl rfl
          have sl : ∀ X, (Instr.slice 9 (.string s) (some (.int .i64 bg)) (some (.int .i64 pos)) none).run Tryz.prog X = .ok (.string (s.extract bg pos)) X := fun X => by go_simp
          go_wp2_with (first
            | (go_at_call 65; refine (KW.out _).mono ?_; rintro e w2 ⟨rfl, h2⟩; have h2' := h2.symm; subst h2')
            | (at_builtin; refine wp_wd w _ B (pos + 1) s _ v0 _ rfl _ _ rfl _ rfl rfl AM.out ul (by omega) hB ?_; intro v2 w2 h2; have A2 := Lib.hid h2; clear h2))
          go_roundw
          case rel => exact ⟨pos + 1, bg, false, ws ++ [s.extract bg pos], _, rfl, rfl, rfl, by omega, by have := NI.out; simpa using this, by have := A2.out; rw [List.append_assoc] at this; exact this⟩
          case measure => rw [IP.out, iterPos_of A2.out.it]; omega
        | false =>
          go_wp2_with (go_at_call 65; refine (KW.out _).mono ?_; rintro e w2 ⟨rfl, h2⟩; have h2' := h2.symm; subst h2')
          go_roundw
          case rel => exact ⟨pos + 1, bg, false, ws, _, rfl, rfl, rfl, by omega, by have := NI.out; simpa using this, AM.out⟩
          case measure => rw [IP.out, iterPos_of AM.out.it]; omega
      | rem q =>
        have E := Lib.hid (II.out.rem q)
        have KW := Lib.hid (fun (X : World) => isOfWord_any 59 X)
        rw [decide_eq_false (by decide)] at KW
        have bl : op = true → bg ≤ pos := fun e => by subst e; rcases II.out with ⟨_, q, _⟩ | ⟨q, _⟩ <;> first | exact q | cases q
        clear q
        obtain ⟨W1, hW1⟩ : ∃ X, W.iterAt w.heap.size s (pos + 1) = X := ⟨_, rfl⟩
        rw [hW1] at hnx AM
        clear hW1
        have s1 : w.heap.size ≤ W1.heap.size := AM.out.gr.size
        cases op with
        | true =>
          have bl := bl rfl
          have sl : ∀ X, (Instr.slice 9 (.string s) (some (.int .i64 bg)) (some (.int .i64 pos)) none).run Tryz.prog X = .ok (.string (s.extract bg pos)) X := fun X => by go_simp
          go_wp2_with (first
            | (go_at_call 65; refine (KW.out _).mono ?_; rintro e w2 ⟨rfl, h2⟩; have h2' := h2.symm; subst h2')
            | (at_builtin; refine wp_wd w _ B (pos + 1) s _ v0 _ rfl _ _ rfl _ rfl rfl AM.out ul (by omega) hB ?_; intro v2 w2 h2; have A2 := Lib.hid h2; clear h2))
          go_ret
          exact ape_of (by have := A2.out; rw [List.append_assoc] at this; exact this) (by rw [E.out]; simp)
        | false =>
          go_wp2_with (go_at_call 65; refine (KW.out _).mono ?_; rintro e w2 ⟨rfl, h2⟩; have h2' := h2.symm; subst h2')
          go_ret
          exact ape_of AM.out (by rw [E.out]; simp)
    · have hnx : ∀ ty, (Instr.next (.pointer (some ⟨w.heap.size, 0, none⟩)) true ty).run Tryz.prog W = .ok (.tuple #[.bool false]) W := fun ty => Lib.run_next_end_at W _ s pos ty hA.it hlt
      have E := Lib.hid (hI.end hlt hp)
      clear hA hI
      cases op with
      | true =>
        have bl : bg ≤ s.size := by rcases II.out with ⟨_, q, _⟩ | ⟨q, _⟩ <;> first | omega | cases q
        have sl : ∀ X, (Instr.slice 9 (.string s) (some (.int .i64 bg)) none none).run Tryz.prog X = .ok (.string (s.extract bg s.size)) X := fun X => by go_simp
        go_wp2_with (at_builtin; refine wp_wd w _ B pos s _ v0 _ rfl _ _ rfl _ rfl rfl AA.out ul (by omega) hB ?_; intro v2 w2 h2; have A2 := Lib.hid h2; clear h2)
        go_ret
        exact ape_of (by have := A2.out; rw [List.append_assoc] at this; exact this) (by rw [E.out]; simp)
      | false =>
        go_wp2
        go_ret
        exact ape_of AA.out (by rw [E.out]; simp)
end Go.Proofs.YtccjeipkljdhdaaGreatDoor
