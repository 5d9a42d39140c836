/-
  WALKS: the document's reader: NewReader, Left, Place, Uint, Int.
-/
import Derived.Test.YtdbjdieegocdfaaDoorWAhead
import Derived.Deep.RegionHeld3
namespace Go.Proofs.YtdbjdieegocdfaaDoor
open Go.RowKit
set_option linter.unusedVariables false
set_option linter.unusedSimpArgs false

/-- A reader in block p, of bytes that the call owns. -/
structure RE (w : World) (B p : Nat) (a : Option Addr) (n cap : Nat) (xs : List Int) (k : Nat) : Prop where
  t : w.cell? ⟨p, 0, none⟩ = some (.slice a n cap)
  ac : w.cell? ⟨p, 1, none⟩ = some (.int .i64 k)
  f : w.frozen? ⟨p, 1, none⟩ = false
  ty : ∃ cs fz, w.heap[p]? = some (.cells cs 66 fz)
  base : B ≤ p
  own : Own w B (.slice a n cap) n xs
  bnd : n ≤ 140737488355328
  le : k ≤ n
  byte : ∀ c ∈ xs, 0 ≤ c ∧ c ≤ 255
theorem RE.lt {w : World} {B p : Nat} {a : Option Addr} {n cap : Nat} {xs : List Int} {k : Nat} (h : RE w B p a n cap xs k) : p < w.heap.size := by
  obtain ⟨cs, fz, e⟩ := h.ty; exact (Array.getElem?_eq_some_iff.1 e).1
theorem RE.len {w : World} {B p : Nat} {a : Option Addr} {n cap : Nat} {xs : List Int} {k : Nat} (h : RE w B p a n cap xs k) : xs.length = n := by
  have := h.own.1; rw [bcs_len] at this; omega
theorem RE.cap {w : World} {B p : Nat} {a : Option Addr} {n cap : Nat} {xs : List Int} {k : Nat} (h : RE w B p a n cap xs k) : n ≤ cap ∧ cap ≤ maxLen := by
  rcases h.own.2 with ⟨e, h0⟩ | ⟨g, c, cur, e, _, _, h1, h2, _⟩
  · injection e with _ e1 e2; subst e2; unfold maxLen; omega
  · injection e with _ e1 e2; subst e2; exact ⟨h1, h2⟩
theorem RE.sep {w : World} {B p : Nat} {a : Option Addr} {n cap : Nat} {xs : List Int} {k : Nat} (h : RE w B p a n cap xs k) : Value.ownBlock (.slice a n cap) ≠ some p := by
  intro e
  obtain ⟨cs, fz, ht⟩ := h.ty
  rcases h.own.2 with ⟨e', h0⟩ | ⟨g, c, cur, e', _, hg, _⟩
  · rw [e'] at e; cases e
  · rw [e'] at e
    simp [Value.ownBlock] at e
    subst e
    rw [hg] at ht
    injection ht with ht
    injection ht with _ ht _
    revert ht; decide
/-- What stays, when a block that is neither the reader nor its bytes has changed. -/
theorem RE.kept {w w' : World} {B p : Nat} {a : Option Addr} {n cap : Nat} {xs : List Int} {k : Nat} {r : Option Nat} (h : RE w B p a n cap xs k) (g : w.grownBy w' r) (h1 : r ≠ some p) (h2 : ∀ q, Value.ownBlock (.slice a n cap) = some q → r ≠ some q) : RE w' B p a n cap xs k := by
  have e := g.block p h.lt (fun e => h1 e.symm)
  refine ⟨(World.cell?_of_block (a := ⟨p, 0, none⟩) e).trans h.t, (World.cell?_of_block (a := ⟨p, 1, none⟩) e).trans h.ac, (World.frozen?_of_block (a := ⟨p, 1, none⟩) e).trans h.f, ?_, h.base, h.own.kept g ?_, h.bnd, h.le, h.byte⟩
  · obtain ⟨cs, fz, ht⟩ := h.ty; exact ⟨cs, fz, e.trans ht⟩
  · rcases hv : Value.ownBlock (.slice a n cap) with _ | q
    · exact .inl rfl
    · exact .inr (fun e => h2 q hv e.symm)
theorem RE.later {w w' : World} {B p : Nat} {a : Option Addr} {n cap : Nat} {xs : List Int} {k : Nat} (h : RE w B p a n cap xs k) (g : w.grownBy w' none) : RE w' B p a n cap xs k := h.kept g (by simp) (by simp)
theorem RE.drewN {w : World} {B p : Nat} {a : Option Addr} {n cap : Nat} {xs : List Int} {k : Nat} (h : RE w B p a n cap xs k) (m : Nat) : RE (w.drewN m) B p a n cap xs k := h.later (gr_drewN (gr_refl none w) m)
theorem RE.set {w : World} {B p : Nat} {a : Option Addr} {n cap : Nat} {xs : List Int} {k : Nat} (h : RE w B p a n cap xs k) (k' : Nat) (hk : k' ≤ n) : RE (w.setCell ⟨p, 1, none⟩ (.int .i64 k')) B p a n cap xs k' := by
  refine ⟨by rw [World.cell?_setCell_other _ _ _ _ (by simp)]; exact h.t, World.cell?_setCell_same' _ _ _ (by rw [h.ac]; rfl), by rw [World.frozen?_setCell]; exact h.f, ?_, h.base, h.own.kept (gr_set (gr_refl (some p) w) 1 _) ?_, h.bnd, hk, h.byte⟩
  · obtain ⟨cs, fz, ht⟩ := h.ty
    refine ⟨cs.setIfInBounds 1 (.int .i64 k'), fz, ?_⟩
    simp [World.setCell, Array.getElem?_modify, ht]
  · exact .inr h.sep
/-- The bytes from the reader's place on. -/
theorem RE.rest {w : World} {B p : Nat} {a : Option Addr} {n cap : Nat} {xs : List Int} {k : Nat} (h : RE w B p a n cap xs k) : BL w (if cap = k then a else Option.map (fun x => x.add k) a) (n - k) (xs.drop k) := by
  refine ⟨by rw [List.length_drop, h.len], by have := h.bnd; omega, fun c hc => h.byte c (List.mem_of_mem_drop hc), ?_⟩
  rcases Nat.lt_or_ge k n with q | q
  · right
    rcases h.own.2 with ⟨e, h0⟩ | ⟨g, c, cur, e, _, hg, hn, hm, hs, ht⟩
    · omega
    · injection e with e1 e2 e3
      subst e1 e3
      rw [if_neg (by omega)]
      refine ⟨g, k, ?_, (Array.getElem?_eq_some_iff.1 hg).1, fun i hi => ?_⟩
      · simp [Addr.add]; omega
      · rw [World.ownsRow.cellAt h.own (k + i) (by omega)]
        have : k + i < xs.length := by rw [h.len]; omega
        simp [bcs, List.getD, this]
  · left; omega

theorem RE.rest2 {w : World} {B p : Nat} {a : Option Addr} {n cap : Nat} {xs : List Int} {k : Nat} (h : RE w B p a n cap xs k) (hk : cap ≠ k) : BL w (Option.map (fun x => x.add k) a) (n - k) (xs.drop k) := by
  have := h.rest
  rwa [if_neg hk] at this


theorem RE.drew {w : World} {B p : Nat} {a : Option Addr} {n cap : Nat} {xs : List Int} {k : Nat} (h : RE w B p a n cap xs k) : RE w.drew B p a n cap xs k := h.later ⟨rfl, rfl, rfl, Nat.le_refl _, fun _ _ _ => rfl⟩
theorem leftR_q (B p : Nat) (a : Option Addr) (n cap : Nat) (xs : List Int) (k : Nat) (w : World) (h : RE w B p a n cap xs k) :
    Calls Tryd.prog 18 #[.pointer (some ⟨p, 0, none⟩)] w fun e w' => e = .returned (.int .i64 ((n - k : Nat) : Int)) ∧ ∃ q, w' = w.drewN q := by
  have h1 := h.t
  have h2 := h.ac
  have h3 := h.le
  have h4 := h.bnd
  clear h
  go_enter Tryd.func18, Tryd.ntmps18
  go_wp2
  go_quiet (fail)
  go_wp2
  go_ret
  exact ⟨by simp only [Array.getD]; simp; omega, _, rfl⟩
theorem placeR_same (B p : Nat) (a : Option Addr) (n cap : Nat) (xs : List Int) (k : Nat) (w : World) (h : RE w B p a n cap xs k) :
    Calls Tryd.prog 19 #[.pointer (some ⟨p, 0, none⟩)] w fun e w' => e = .returned (.int .i64 (k : Int)) ∧ w' = w := by
  have h2 := h.ac
  clear h
  go_enter Tryd.func19, Tryd.ntmps19
  go_wp2
  go_ret
  exact ⟨rfl, rfl⟩
theorem sl_nil (w : World) : Sl w none 0 0 [] := ⟨⟨rfl, by omega, by simp, .inl rfl⟩, fun _ => ⟨rfl, rfl⟩, by omega⟩

theorem newReaderR_any (a : Option Addr) (n cap : Nat) (xs : List Int) (w : World) (h : Sl w a n cap xs) :
    Calls Tryd.prog 17 #[.slice a n cap] w fun e w' => ∃ p a' cap', e = .returned (.pointer (some ⟨p, 0, none⟩)) ∧ RE w' w.heap.size p a' n cap' xs 0 ∧ Below w.heap.size w w' := by
  have K1 := Lib.hid (joined_any a none n 0 cap 0 xs [] w h (sl_nil w) (by have := h.1.2.1; omega))
  have HB := Lib.hid h.1.2.2.1
  have H2 := Lib.hid h.1.2.1
  simp only [Nat.add_zero, List.append_nil] at K1
  clear h
  go_enter Tryd.func17, Tryd.ntmps17
  go_wp2_with (go_at_call 31; refine K1.out.mono ?_; rintro e w1 ⟨v1, rfl, h1, h2⟩; obtain ⟨a1, cap1, rfl⟩ := own_form h1; have O1 := Lib.hid h1; have B1 := Lib.hid h2; clear h1 h2)
  go_ret
  refine ⟨w1.heap.size, a1, cap1, rfl, ⟨by simp, by simp, by simp, ⟨#[.slice a1 n cap1, .int .i64 0], (0, 0), (by show (w1.heap.push _)[w1.heap.size]? = _; simp)⟩, B1.out.size, O1.out.alloc _, H2.out, Nat.zero_le _, HB.out⟩, B1.out.alloc B1.out.size _⟩

set_option maxRecDepth 100000 in
set_option maxHeartbeats 400000 in
theorem uintR_any (B p : Nat) (a : Option Addr) (n cap : Nat) (xs : List Int) (k lim : Nat) (w : World) (h : RE w B p a n cap xs k) :
    Calls Tryd.prog 32 #[.pointer (some ⟨p, 0, none⟩), .int .u64 (lim : Int)] w fun e w' => e = .returned (.tuple #[.int .u64 ((uR (xs.drop k) lim).1 : Int), .int .i64 (uR (xs.drop k) lim).2.1]) ∧ RE w' B p a n cap xs (k + (uR (xs.drop k) lim).2.2) ∧ Gr p w w' := by
  have HH := Lib.hid h
  have h1 := h.t
  have h2 := h.ac
  have h4 := h.le
  have h5 := h.bnd
  have h6 := h.cap
  have hlt := h.lt
  have KV := Lib.hid (fun W A (g : BL W A (n - k) (xs.drop k)) => ahead_any A (n - k) (cap - k) (xs.drop k) lim W g)
  have MV := Lib.hid (p := k + (uR (xs.drop k) lim).2.2 ≤ n) (by
    unfold uR
    split
    · simp; omega
    · rename_i e0
      split
      · simp; omega
      · have := (rd_only (bs := xs.drop k) (fun c hc => h.byte c (List.mem_of_mem_drop hc)) (by simpa using e0)).2.2.2.1
        rw [List.length_drop, h.len] at this
        simp; omega)
  clear h
  rcases hR : uR (xs.drop k) lim with ⟨x, er, m⟩
  rw [hR] at MV
  unfold RetA at KV
  rw [hR] at KV
  simp only at KV MV ⊢
  have m47 : k + m ≤ n := MV.out
  have kw : IntKind.i64.wrap ((k : Int) + m) = (k : Int) + m := by simp [IntKind.wrap, IntKind.bits, IntKind.signed]; omega
  have c1 : ¬ (k : Int) < 0 := by omega
  have c2 : (k : Int) ≤ (n : Int) := by omega
  have c3 : n ≤ cap := by omega
  clear hR
  by_cases hck : cap = k
  · obtain rfl : n = cap := by omega
    subst hck
    have RST := Lib.hid (p := BL w.drew a (n - n) (xs.drop n)) (by have := HH.out.drew.rest; rwa [if_pos rfl] at this)
    rw [Nat.sub_self] at KV RST
    go_enter Tryd.func32, Tryd.ntmps32
    go_wp2
    go_region_held3 (fun w' => w'.cell? ⟨p, 0, none⟩ = some (.slice a n n) ∧ w'.cell? ⟨p, 1, none⟩ = some (.int .i64 (n : Int)))
      (refine ⟨?_, ?_⟩ <;> first | assumption | (go_simp; done))
      (first
      | (go_at_call 37; refine (KV.out _ _ RST.out).mono ?_; rintro e w1 ⟨rfl, b1⟩; have B1 := Lib.hid (show Below w.heap.size w w1 from ((Below.refl w.heap.size w).drew).trans b1); have x0 := (B1.out.cell (p := ⟨p, 0, none⟩) hlt).trans h1; have x1 := (B1.out.cell (p := ⟨p, 1, none⟩) hlt).trans h2; have x2 : w1.frozen? ⟨p, 1, none⟩ = false := (HH.out.later (below_gr B1.out none)).f; clear b1))
    all_goals go_wp2
    all_goals go_ret2
    all_goals exact ⟨rfl, (HH.out.later (below_gr B1.out none)).set (n + m) (by omega), gr_set (below_gr B1.out _) 1 _⟩
  · have RST := Lib.hid (p := BL w.drew (Option.map (fun x => x.add k) a) (n - k) (xs.drop k)) (HH.out.drew.rest2 hck)
    go_enter Tryd.func32, Tryd.ntmps32
    go_wp2
    go_region_held3 (fun w' => w'.cell? ⟨p, 0, none⟩ = some (.slice a n cap) ∧ w'.cell? ⟨p, 1, none⟩ = some (.int .i64 (k : Int)))
      (refine ⟨?_, ?_⟩ <;> first | assumption | (go_simp; done))
      (first
      | (go_at_call 37; refine (KV.out _ _ RST.out).mono ?_; rintro e w1 ⟨rfl, b1⟩; have B1 := Lib.hid (show Below w.heap.size w w1 from ((Below.refl w.heap.size w).drew).trans b1); have x0 := (B1.out.cell (p := ⟨p, 0, none⟩) hlt).trans h1; have x1 := (B1.out.cell (p := ⟨p, 1, none⟩) hlt).trans h2; have x2 : w1.frozen? ⟨p, 1, none⟩ = false := (HH.out.later (below_gr B1.out none)).f; clear b1))
    all_goals go_wp2
    all_goals go_ret2
    all_goals exact ⟨rfl, (HH.out.later (below_gr B1.out none)).set (k + m) (by omega), gr_set (below_gr B1.out _) 1 _⟩

theorem uR_lt {bs : List Int} (hb : ∀ c ∈ bs, 0 ≤ c ∧ c ≤ 255) (lim : Nat) : (uR bs lim).1 < 18446744073709551616 ∧ ((uR bs lim).2.1 ≠ 0 → (uR bs lim).1 = 0) := by
  unfold uR
  split
  · simp
  · rename_i e0
    split
    · simp
    · exact ⟨(rd_only hb (by simpa using e0)).2.2.2.2, by simp⟩
end Go.Proofs.YtdbjdieegocdfaaDoor
