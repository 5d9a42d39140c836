/-
  WALKS: the document's Text, Take (made by wip/gen/gen_refrd2.py).
-/
import Derived.Test.YtnoimmjijkgjaaaWRefRd
namespace Go.Proofs.Ytnoimmjijkgjaaa
open Go.RowKit
set_option linter.unusedVariables false
set_option linter.unusedSimpArgs false

/-- A store into a block ahead of a row leaves the row. -/
theorem own_far {w : World} {B p : Nat} {v : Value} {n : Nat} {xs : List Int} (h : Own w B v n xs) (hp : p < B) (o : Nat) (u : Value) : Own (w.setCell ⟨p, o, none⟩ u) B v n xs :=
  h.kept (gr_set (gr_refl (some p) w) o u) (by
    rcases hv : v.ownBlock with _ | g
    · exact .inl rfl
    · right
      intro e
      injection e with e
      have := (h.lt g hv).1
      omega)
set_option maxRecDepth 100000 in
theorem textR_neg (p : Nat) (m : Int) (w : World) (hm : m < 0) :
    Calls Try.prog 21 #[.pointer (some ⟨p, 0, none⟩), .int .i64 m] w fun e w' => e = .returned (.tuple #[.string ⟨#[]⟩, .int .i64 1]) ∧ w' = w := by
  go_enter Try.func21, Try.ntmps21
  go_wp2
  go_ret2
  exact ⟨rfl, rfl⟩
set_option maxRecDepth 100000 in
theorem takeR_neg (p : Nat) (m : Int) (w : World) (hm : m < 0) :
    Calls Try.prog 22 #[.pointer (some ⟨p, 0, none⟩), .int .i64 m] w fun e w' => e = .returned (.tuple #[.slice none 0 0, .int .i64 1]) ∧ w' = w := by
  go_enter Try.func22, Try.ntmps22
  go_wp2
  go_ret2
  exact ⟨rfl, rfl⟩
set_option maxRecDepth 100000 in
theorem takeR_short (B p : Nat) (a : Option Addr) (n cap : Nat) (xs : List Int) (k : Nat) (m : Int) (w : World) (h : RE w B p a n cap xs k) (hm : ((n - k : Nat) : Int) < m) :
    Calls Try.prog 22 #[.pointer (some ⟨p, 0, none⟩), .int .i64 m] w fun e w' => e = .returned (.tuple #[.slice none 0 0, .int .i64 41]) ∧ ∃ q, w' = w.drewN q := by
  have K := Lib.hid (leftR_q B p a n cap xs k w h)
  have m0 : ¬ m < 0 := by omega
  clear h
  generalize ((n - k : Nat) : Int) = r at *
  go_enter Try.func22, Try.ntmps22
  go_wp2_with (go_at_call 27; refine K.out.mono ?_; rintro e w1 ⟨rfl, q1, rfl⟩)
  go_ret2
  exact ⟨rfl, _, rfl⟩

set_option maxRecDepth 100000 in
set_option maxHeartbeats 800000 in
theorem textR_bad (B p : Nat) (a : Option Addr) (n cap : Nat) (xs : List Int) (k m : Nat) (er : Int) (w : World) (h : RE w B p a n cap xs k) (hm : m ≤ 9223372036854775807) (hu : uR (xs.drop k) m = (0, er, 0)) (he : er ≠ 0) :
    Calls Try.prog 21 #[.pointer (some ⟨p, 0, none⟩), .int .i64 (m : Int)] w fun e w' => e = .returned (.tuple #[.string ⟨#[]⟩, .int .i64 er]) ∧ RE w' B p a n cap xs k ∧ Gr p w w' := by
  have HH := Lib.hid h
  have h1 := h.t
  have h2 := h.ac
  have h4 := h.le
  have h5 := h.bnd
  have h6 := h.cap
  have hlt := h.lt
  have KV := Lib.hid (fun W A (g : BL W A (n - k) (xs.drop k)) => ahead_any A (n - k) (cap - k) (xs.drop k) m W g)
  unfold RetA at KV
  rw [hu] at KV
  simp only at KV
  have m0 : ¬ (m : Int) < 0 := by omega
  have cv : IntKind.u64.wrap (m : Int) = (m : Int) := by simp [IntKind.wrap, IntKind.bits, IntKind.signed]; omega
  have c1 : ¬ (k : Int) < 0 := by omega
  have c2 : (k : Int) ≤ (n : Int) := by omega
  have c3 : n ≤ cap := by omega
  have e1 : (er == 0) = false := by simpa using he
  clear h hu
  by_cases hck : cap = k
  · obtain rfl : n = cap := by omega
    subst hck
    have RST := Lib.hid (p := BL w.drew a (n - n) (xs.drop n)) (by have := HH.out.drew.rest; rwa [if_pos rfl] at this)
    rw [Nat.sub_self] at KV RST
    go_enter Try.func21, Try.ntmps21
    go_wp2
    go_region_held3 (fun w' => w'.cell? ⟨p, 0, none⟩ = some (.slice a n n) ∧ w'.cell? ⟨p, 1, none⟩ = some (.int .i64 (n : Int)))
      (refine ⟨?_, ?_⟩ <;> first | assumption | (go_simp; done))
      (first
      | (go_at_call 30; refine (KV.out _ _ RST.out).mono ?_; rintro e w1 ⟨rfl, b1⟩; have B1 := Lib.hid (show Below w.heap.size w w1 from ((Below.refl w.heap.size w).drew).trans b1); have x0 := (B1.out.cell (p := ⟨p, 0, none⟩) hlt).trans h1; have x1 := (B1.out.cell (p := ⟨p, 1, none⟩) hlt).trans h2; have x2 : w1.frozen? ⟨p, 1, none⟩ = false := (HH.out.later (below_gr B1.out none)).f; clear b1))
    all_goals go_wp2
    all_goals go_ret2
    all_goals exact ⟨rfl, HH.out.later (below_gr B1.out none), below_gr B1.out _⟩

  · have RST := Lib.hid (p := BL w.drew (Option.map (fun x => x.add k) a) (n - k) (xs.drop k)) (HH.out.drew.rest2 hck)
    go_enter Try.func21, Try.ntmps21
    go_wp2
    go_region_held3 (fun w' => w'.cell? ⟨p, 0, none⟩ = some (.slice a n cap) ∧ w'.cell? ⟨p, 1, none⟩ = some (.int .i64 (k : Int)))
      (refine ⟨?_, ?_⟩ <;> first | assumption | (go_simp; done))
      (first
      | (go_at_call 30; refine (KV.out _ _ RST.out).mono ?_; rintro e w1 ⟨rfl, b1⟩; have B1 := Lib.hid (show Below w.heap.size w w1 from ((Below.refl w.heap.size w).drew).trans b1); have x0 := (B1.out.cell (p := ⟨p, 0, none⟩) hlt).trans h1; have x1 := (B1.out.cell (p := ⟨p, 1, none⟩) hlt).trans h2; have x2 : w1.frozen? ⟨p, 1, none⟩ = false := (HH.out.later (below_gr B1.out none)).f; clear b1))
    all_goals go_wp2
    all_goals go_ret2
    all_goals exact ⟨rfl, HH.out.later (below_gr B1.out none), below_gr B1.out _⟩


set_option maxRecDepth 100000 in
set_option maxHeartbeats 800000 in
theorem textR_short (B p : Nat) (a : Option Addr) (n cap : Nat) (xs : List Int) (k m : Nat) (z j : Nat) (w : World) (h : RE w B p a n cap xs k) (hm : m ≤ 9223372036854775807) (hu : uR (xs.drop k) m = (z, 0, j)) (hj : 1 ≤ j) (hj2 : k + j ≤ n) (hz : n - (k + j) < z) :
    Calls Try.prog 21 #[.pointer (some ⟨p, 0, none⟩), .int .i64 (m : Int)] w fun e w' => e = .returned (.tuple #[.string ⟨#[]⟩, .int .i64 41]) ∧ RE w' B p a n cap xs k ∧ Gr p w w' := by
  have HH := Lib.hid h
  have h1 := h.t
  have h2 := h.ac
  have h4 := h.le
  have h5 := h.bnd
  have h6 := h.cap
  have hlt := h.lt
  have KV := Lib.hid (fun W A (g : BL W A (n - k) (xs.drop k)) => ahead_any A (n - k) (cap - k) (xs.drop k) m W g)
  unfold RetA at KV
  rw [hu] at KV
  simp only at KV
  have m0 : ¬ (m : Int) < 0 := by omega
  have cv : IntKind.u64.wrap (m : Int) = (m : Int) := by simp [IntKind.wrap, IntKind.bits, IntKind.signed]; omega
  have c1 : ¬ (k : Int) < 0 := by omega
  have c2 : (k : Int) ≤ (n : Int) := by omega
  have c3 : n ≤ cap := by omega
  obtain ⟨r, hr⟩ : ∃ r : Nat, n - (k + j) = r := ⟨_, rfl⟩
  have hck : ¬ cap = k := by omega
  have RST := Lib.hid (p := BL w.drew (Option.map (fun x => x.add k) a) (n - k) (xs.drop k)) (HH.out.drew.rest2 hck)
  have kw : IntKind.i64.wrap ((k : Int) + j) = (k : Int) + j := by simp [IntKind.wrap, IntKind.bits, IntKind.signed]; omega
  have cr : IntKind.u64.wrap (r : Int) = (r : Int) := by simp [IntKind.wrap, IntKind.bits, IntKind.signed]; omega
  have d1 : ¬ (k : Int) + j < 0 := by omega
  have d2 : ((k : Int) + j).toNat = k + j := by omega
  have d3 : (k : Int) + j ≤ (n : Int) := by omega
  have d4 : k + j ≤ n := by omega
  have R8 : r ≤ 140737488355328 := by omega
  have z1 : (r : Int) < (z : Int) := by omega
  rw [hr] at hz
  clear h hu
  go_enter Try.func21, Try.ntmps21
  go_wp2
  go_region_held3 (fun w' => w'.cell? ⟨p, 0, none⟩ = some (.slice a n cap) ∧ w'.cell? ⟨p, 1, none⟩ = some (.int .i64 (k : Int)))
    (refine ⟨?_, ?_⟩ <;> first | assumption | (go_simp; done))
    (first
    | (go_at_call 30; refine (KV.out _ _ RST.out).mono ?_; rintro e w1 ⟨rfl, b1⟩; have B1 := Lib.hid (show Below w.heap.size w w1 from ((Below.refl w.heap.size w).drew).trans b1); have x0 := (B1.out.cell (p := ⟨p, 0, none⟩) hlt).trans h1; have x1 := (B1.out.cell (p := ⟨p, 1, none⟩) hlt).trans h2; have x2 : w1.frozen? ⟨p, 1, none⟩ = false := (HH.out.later (below_gr B1.out none)).f; clear b1))
  all_goals go_wp2
  all_goals (go_quiet (fail))
  generalize (if cap = k + j then a else Option.map (fun x => x.add (k + j)) a) = A at *
  go_wp2
  go_ret2
  exact ⟨rfl, HH.out.later (below_gr (below_drewN B1.out _) none), below_gr (below_drewN B1.out _) _⟩


set_option maxRecDepth 100000 in
set_option maxHeartbeats 800000 in
theorem textR_ok (B p : Nat) (a : Option Addr) (n cap : Nat) (xs : List Int) (k m : Nat) (j : Nat) (t : ByteArray) (w : World) (h : RE w B p a n cap xs k) (hm : m ≤ 9223372036854775807) (hu : uR (xs.drop k) m = (t.size, 0, j)) (hj : 1 ≤ j) (hz : k + j + t.size ≤ n) (ht : (xs.drop (k + j)).take t.size = sb t) :
    Calls Try.prog 21 #[.pointer (some ⟨p, 0, none⟩), .int .i64 (m : Int)] w fun e w' => e = .returned (.tuple #[.string t, .int .i64 0]) ∧ RE w' B p a n cap xs (k + j + t.size) ∧ Gr p w w' := by
  have HH := Lib.hid h
  have h1 := h.t
  have h2 := h.ac
  have h4 := h.le
  have h5 := h.bnd
  have h6 := h.cap
  have hlt := h.lt
  have KV := Lib.hid (fun W A (g : BL W A (n - k) (xs.drop k)) => ahead_any A (n - k) (cap - k) (xs.drop k) m W g)
  unfold RetA at KV
  rw [hu] at KV
  simp only at KV
  have m0 : ¬ (m : Int) < 0 := by omega
  have cv : IntKind.u64.wrap (m : Int) = (m : Int) := by simp [IntKind.wrap, IntKind.bits, IntKind.signed]; omega
  have c1 : ¬ (k : Int) < 0 := by omega
  have c2 : (k : Int) ≤ (n : Int) := by omega
  have c3 : n ≤ cap := by omega
  obtain ⟨r, hr⟩ : ∃ r : Nat, n - (k + j) = r := ⟨_, rfl⟩
  have hck : ¬ cap = k := by omega
  have RST := Lib.hid (p := BL w.drew (Option.map (fun x => x.add k) a) (n - k) (xs.drop k)) (HH.out.drew.rest2 hck)
  have kw : IntKind.i64.wrap ((k : Int) + j) = (k : Int) + j := by simp [IntKind.wrap, IntKind.bits, IntKind.signed]; omega
  have cr : IntKind.u64.wrap (r : Int) = (r : Int) := by simp [IntKind.wrap, IntKind.bits, IntKind.signed]; omega
  have d1 : ¬ (k : Int) + j < 0 := by omega
  have d2 : ((k : Int) + j).toNat = k + j := by omega
  have d3 : (k : Int) + j ≤ (n : Int) := by omega
  have d4 : k + j ≤ n := by omega
  have R8 : r ≤ 140737488355328 := by omega
  have z1 : ¬ (r : Int) < (t.size : Int) := by omega
  have ct : IntKind.i64.wrap (t.size : Int) = (t.size : Int) := by simp [IntKind.wrap, IntKind.bits, IntKind.signed]; omega
  have cs : IntKind.i64.wrap ((k : Int) + j + t.size) = (k : Int) + j + t.size := by simp [IntKind.wrap, IntKind.bits, IntKind.signed]; omega
  have PA := Lib.hid (p := ∀ W k', RE W B p a n cap xs k' → BL W (if cap = k + j then a else Option.map (fun x => x.add (k + j)) a) t.size (sb t) ∧ ((if cap = k + j then a else Option.map (fun x => x.add (k + j)) a) = none → t.size = 0)) (fun W k' g => by have q := own_part g.own g.byte g.bnd (k + j) t.size hz; rw [ht] at q; exact q)
  clear ht
  clear h hu
  go_enter Try.func21, Try.ntmps21
  go_wp2
  go_region_held3 (fun w' => w'.cell? ⟨p, 0, none⟩ = some (.slice a n cap) ∧ w'.cell? ⟨p, 1, none⟩ = some (.int .i64 (k : Int)))
    (refine ⟨?_, ?_⟩ <;> first | assumption | (go_simp; done))
    (first
    | (go_at_call 30; refine (KV.out _ _ RST.out).mono ?_; rintro e w1 ⟨rfl, b1⟩; have B1 := Lib.hid (show Below w.heap.size w w1 from ((Below.refl w.heap.size w).drew).trans b1); have x0 := (B1.out.cell (p := ⟨p, 0, none⟩) hlt).trans h1; have x1 := (B1.out.cell (p := ⟨p, 1, none⟩) hlt).trans h2; have x2 : w1.frozen? ⟨p, 1, none⟩ = false := (HH.out.later (below_gr B1.out none)).f; clear b1))
  all_goals go_wp2
  all_goals (go_quiet (fail))
  have R2 := Lib.hid (HH.out.later (below_gr (below_drewN B1.out nq) none))
  have RS : RowKit.Hid (RE ((w1.drewN nq).setCell ⟨p, 1, none⟩ (.int .i64 ((k : Int) + j + t.size))) B p a n cap xs (k + j + t.size)) := R2.out.set (k + j + t.size) hz
  obtain ⟨q1, q2⟩ := PA.out _ _ RS.out
  generalize (if cap = k + j then a else Option.map (fun x => x.add (k + j)) a) = A at *
  have cb := conv_bl (c := cap - (k + j)) q1 q2
  have t8 : t.size ≤ cap - (k + j) := by omega
  clear q1 q2
  go_wp2
  go_ret2
  exact ⟨rfl, RS.out, gr_set (below_gr (below_drewN B1.out _) _) 1 _⟩

end Go.Proofs.Ytnoimmjijkgjaaa
