/-
  WALK: openDays.
-/
import Derived.Test.YtpeglcnenagkbaaDoorWBits
import Derived.Test.YtpeglcnenagkbaaDoorWCont
import Derived.Laws.MakeOwn
namespace Go.Proofs.YtpeglcnenagkbaaDoor
open Go.RowKit
set_option linter.unusedVariables false
set_option linter.unusedSimpArgs false

theorem info77 : (Tryd.prog.info? 74).map (fun i => (i.zero, i.size, i.bytes)) = some (some (.int .u64 0), 1, 8) := by kernel_rfl
theorem make_words (n : Nat) (hn : n ≤ 2000) (W : World) : (Instr.makeSlice 56 (.int .i64 (n : Int)) (.int .i64 (n : Int))).run Tryd.prog W = .ok (.slice (some ⟨W.heap.size, 0, none⟩) n n) (W.alloc (.cells (madeCells #[.int .u64 0] n) 74)) := by
  have hi := info77
  cases h : Tryd.prog.info? 74 with
  | none => rw [h] at hi; cases hi
  | some i =>
    rw [h] at hi
    simp only [Option.map_some, Option.some.injEq, Prod.mk.injEq] at hi
    obtain ⟨z, s, b⟩ := hi
    have := run_makeSlice (P := Tryd.prog) W 56 74 i (.int .u64 0) (by kernel_rfl) h z .i64 .i64 n n (by omega) (by omega) (by rw [s]; simp; omega) (by rw [b]; omega) (by omega)
    rw [s] at this
    simpa [Value.cells] using this

set_option maxHeartbeats 1000000 in
theorem open_zero (from_ to_ A B : Int) (a : Option Addr) (c cap : Nat) (w : World) (hA : (if from_ < 0 then (0 : Int) else from_) = A) (hB : (if 109573 < to_ then (109573 : Int) else to_) = B) (h : B ≤ A) :
    Calls Tryd.prog 26 #[.int .i64 from_, .int .i64 to_, .slice a c cap] w fun e w' => e = .returned (.agg #[.int .i64 0, .slice none 0 0]) ∧ Below w.heap.size w w' := by
  go_enter Tryd.func26, Tryd.ntmps26
  go_wp2
  exact bodyPost_ret (v := .agg #[.int .i64 0, .slice none 0 0]) (by simp [results, Tryd.results26, go_sem]) rfl ⟨rfl, (Below.refl _ _).alloc (Nat.le_refl _) _⟩

/-- What openDays has laid: its answer's box, the words, the stretch, the seven weeks. -/
structure OD (w wr : World) (A : Int) (n : Nat) (wk ws : List Nat) : Prop where
  r0 : wr.cell? ⟨w.heap.size, 0, none⟩ = some (.int .i64 0)
  r1 : wr.cell? ⟨w.heap.size, 1, none⟩ = some (.slice none 0 0)
  q0 : wr.frozen? ⟨w.heap.size, 0, none⟩ = false
  q1 : wr.frozen? ⟨w.heap.size, 1, none⟩ = false
  t0 : wr.cell? ⟨w.heap.size + 1 + 1, 0, none⟩ = some (.int .i64 A)
  t1 : wr.cell? ⟨w.heap.size + 1 + 1, 1, none⟩ = some (.slice (some ⟨w.heap.size + 1, 0, none⟩) n n)
  kl : wk.length = 7
  kc : ∀ i, i < 7 → wr.cell? ⟨w.heap.size + 1 + 1 + 1, i, none⟩ = some (.int .u64 (wk.getD i 0 : Nat)) ∧ wr.frozen? ⟨w.heap.size + 1 + 1 + 1, i, none⟩ = false
  sl : ws.length = n
  wd : Wd wr (w.heap.size + 1) ws
  size : w.heap.size + 4 ≤ wr.heap.size
  bel : Below w.heap.size w wr

theorem OD.week {w wr : World} {A : Int} {n : Nat} {wk ws : List Nat} (h : OD w wr A n wk ws) (k v : Nat) (hk : k < 7) : OD w (wr.setCell ⟨w.heap.size + 1 + 1 + 1, k, none⟩ (.int .u64 (v : Nat))) A n (wk.set k v) ws := by
  obtain ⟨r0, r1, q0, q1, t0, t1, kl, kc, sl, wd, size, bel⟩ := h
  refine ⟨?_, ?_, by simpa using q0, by simpa using q1, ?_, ?_, by simpa using kl, fun i hi => ⟨?_, by simpa using (kc i hi).2⟩, sl, ⟨by simpa using wd.1, fun i hi => ⟨?_, by simpa using (wd.2 i hi).2⟩⟩, by simpa using size, bel.setCell (by first | (simp; done) | (simp; omega)) _⟩
  · rw [World.cell?_setCell_other _ _ _ _ (by first | (simp; done) | (simp; omega))]; exact r0
  · rw [World.cell?_setCell_other _ _ _ _ (by first | (simp; done) | (simp; omega))]; exact r1
  · rw [World.cell?_setCell_other _ _ _ _ (by simp)]; exact t0
  · rw [World.cell?_setCell_other _ _ _ _ (by simp)]; exact t1
  · by_cases e : i = k
    · subst e
      rw [World.cell?_setCell_same _ _ _ (kc i hi).1]
      simp [List.getD, kl, hi]
    · rw [World.cell?_setCell_other _ _ _ _ (by first | (simp; done) | (simp; omega)), (kc i hi).1]
      simp only [List.getD, List.getElem?_set]
      rw [if_neg (by omega)]
  · rw [World.cell?_setCell_other _ _ _ _ (by first | (simp; done) | (simp; omega))]; exact (wd.2 i hi).1
/-- A word, set (and a draw). -/
theorem OD.word {w wr : World} {A : Int} {n : Nat} {wk ws : List Nat} (h : OD w wr A n wk ws) (j u : Nat) (hj : j < n) : OD w (wr.setCell ⟨w.heap.size + 1, j, none⟩ (.int .u64 (u : Nat))) A n wk (ws.set j u) := by
  obtain ⟨r0, r1, q0, q1, t0, t1, kl, kc, sl, wd, size, bel⟩ := h
  refine ⟨?_, ?_, by simpa using q0, by simpa using q1, ?_, ?_, kl, fun i hi => ⟨?_, by simpa using (kc i hi).2⟩, by simpa using sl, wd.set j u (by omega), by simpa using size, bel.setCell (by simp) _⟩
  · rw [World.cell?_setCell_other _ _ _ _ (by simp)]; exact r0
  · rw [World.cell?_setCell_other _ _ _ _ (by simp)]; exact r1
  · rw [World.cell?_setCell_other _ _ _ _ (by simp)]; exact t0
  · rw [World.cell?_setCell_other _ _ _ _ (by simp)]; exact t1
  · rw [World.cell?_setCell_other _ _ _ _ (by first | (simp; done) | (simp; omega))]; exact (kc i hi).1
theorem OD.draw {w wr : World} {A : Int} {n : Nat} {wk ws : List Nat} (h : OD w wr A n wk ws) : OD w wr.drew A n wk ws :=
  ⟨h.r0, h.r1, h.q0, h.q1, h.t0, h.t1, h.kl, h.kc, h.sl, h.wd, h.size, h.bel.drew⟩
theorem OD.grow {w wr : World} {A : Int} {n : Nat} {wk ws : List Nat} (h : OD w wr A n wk ws) (o : Obj) : OD w (wr.alloc o) A n wk ws := by
  obtain ⟨r0, r1, q0, q1, t0, t1, kl, kc, sl, wd, size, bel⟩ := h
  have b := (Below.refl wr.heap.size wr).alloc (Nat.le_refl _) o
  have c : ∀ k j, k < w.heap.size + 4 → (wr.alloc o).cell? ⟨k, j, none⟩ = wr.cell? ⟨k, j, none⟩ := fun k j hk => b.cell (p := ⟨k, j, none⟩) (Nat.lt_of_lt_of_le hk size)
  have f : ∀ k j, k < w.heap.size + 4 → (wr.alloc o).frozen? ⟨k, j, none⟩ = wr.frozen? ⟨k, j, none⟩ := fun k j hk => b.frozen (p := ⟨k, j, none⟩) (Nat.lt_of_lt_of_le hk size)
  exact ⟨(c _ _ (by omega)).trans r0, (c _ _ (by omega)).trans r1, (f _ _ (by omega)).trans q0, (f _ _ (by omega)).trans q1, (c _ _ (by omega)).trans t0, (c _ _ (by omega)).trans t1, kl,
    fun i hi => ⟨(c _ _ (by omega)).trans (kc i hi).1, (f _ _ (by omega)).trans (kc i hi).2⟩, sl, wd.grow o, Nat.le_trans size b.size, bel.alloc bel.size o⟩
theorem made_at (n i : Nat) (h : i < n) : (madeCells #[.int .u64 0] n)[i]? = some (.int .u64 0) := by
  unfold madeCells; simp [h, Nat.mod_one]
theorem OD.start (w : World) (A : Int) (n : Nat) : OD w
    ((((w.alloc (.cells #[.int .i64 0, .slice none 0 0] 58)).alloc (.cells (madeCells #[.int .u64 0] n) 74)).alloc (.cells #[.int .i64 A, .slice (some ⟨w.heap.size + 1, 0, none⟩) n n] 58)).alloc
      (.cells #[.int .u64 0, .int .u64 0, .int .u64 0, .int .u64 0, .int .u64 0, .int .u64 0, .int .u64 0] 75)) A n (List.replicate 7 0) (List.replicate n 0) := by
  refine ⟨by go_simp, by go_simp, by go_simp, by go_simp, by go_simp, by go_simp, by simp, fun i hi => ?_, by simp, ⟨by simp <;> omega, fun i hi => ?_⟩, by simp, ((((Below.refl _ _).alloc (Nat.le_refl _) _).alloc (by simp) _).alloc (by simp; omega) _).alloc (by simp; omega) _⟩
  · rcases (show i = 0 ∨ i = 1 ∨ i = 2 ∨ i = 3 ∨ i = 4 ∨ i = 5 ∨ i = 6 by omega) with rfl | rfl | rfl | rfl | rfl | rfl | rfl <;> exact ⟨by go_simp, by go_simp⟩
  · rw [List.length_replicate] at hi
    have e : (List.replicate n 0).getD i 0 = (0 : Nat) := by simp [List.getD, hi]
    rw [e]
    have m := made_at n i hi
    refine ⟨?_, by go_simp⟩
    rw [World.cell?_alloc_past _ _ _ (by simp <;> omega), World.cell?_alloc_past _ _ _ (by simp <;> omega), World.cell?_alloc_at _ _ _ _ (by simp), m]
    rfl

/-- Bit m of a row of words. -/
def Bit (ws : List Nat) (m : Nat) : Bool := (ws.getD (m / 64) 0).testBit (m % 64)

theorem bit_mark {ws : List Nat} {n u : Nat} {e : Int} (hl : ws.length = n) (h0 : 0 ≤ e) (hj : (e / 64).toNat < n) (hu : ∀ i, i < 64 → u.testBit i = ((ws.getD (e / 64).toNat 0).testBit i && !decide (i = (e % 64).toNat))) (m : Nat) (hm : m < 64 * n) :
    Bit (ws.set (e / 64).toNat u) m = (Bit ws m && !decide ((m : Int) = e)) := by
  unfold Bit
  by_cases q : m / 64 = (e / 64).toNat
  · rw [q, show (ws.set (e / 64).toNat u).getD (e / 64).toNat 0 = u by simp [List.getD, hl, hj], hu (m % 64) (by omega)]
    congr 2
    rw [Bool.eq_iff_iff]; simp only [decide_eq_true_eq]; omega
  · rw [show (ws.set (e / 64).toNat u).getD (m / 64) 0 = ws.getD (m / 64) 0 by simp only [List.getD, List.getElem?_set]; rw [if_neg (fun x => q x.symm)]]
    rw [show decide ((m : Int) = e) = false from decide_eq_false (by omega)]; simp
theorem Wd.other {w : World} {g : Nat} {ws : List Nat} (h : Wd w g ws) (b i : Nat) (hb : b ≠ g) (v : Value) : Wd (w.setCell ⟨b, i, none⟩ v) g ws := by
  refine ⟨by simpa using h.1, fun j hj => ⟨?_, by simpa using (h.2 j hj).2⟩⟩
  rw [World.cell?_setCell_other _ _ _ _ (by first | (simp; done) | (simp; omega) | (intro e; simp at e; omega))]; exact (h.2 j hj).1
theorem set_lt {ws : List Nat} {u : Nat} (j : Nat) (h : ∀ i, ws.getD i 0 < 18446744073709551616) (hu : u < 18446744073709551616) : ∀ i, (ws.set j u).getD i 0 < 18446744073709551616 := by
  intro i
  simp only [List.getD, List.getElem?_set]
  split
  · split
    · simpa using hu
    · simp
  · exact h i
set_option maxHeartbeats 2000000 in
set_option maxRecDepth 100000 in
theorem open_yes (from_ to_ : Int) (a : Option Addr) (c cap : Nat) (w : World) (A B : Int) (hA : (if from_ < 0 then (0 : Int) else from_) = A) (hB : (if 109573 < to_ then (109573 : Int) else to_) = B) (a0 : 0 ≤ A) (b1 : B ≤ 109573) (h : ¬ B ≤ A) (n : Nat) (hn : (B - A + 63) / 64 = n) (hs : List Int) (hL : Ls w a c hs) :
    Calls Tryd.prog 26 #[.int .i64 from_, .int .i64 to_, .slice a c cap] w fun e w' => ∃ ws : List Nat, e = .returned (.agg #[.int .i64 A, .slice (some ⟨w.heap.size + 1, 0, none⟩) n n]) ∧ Wd w' (w.heap.size + 1) ws ∧ ws.length = n ∧ (∀ i, ws.getD i 0 < 18446744073709551616) ∧ (∀ m : Nat, m < 64 * n → Bit ws m = decide ((A + m) % 7 < 5 ∧ A + m < B ∧ ¬ (A + m) ∈ hs)) ∧ Below w.heap.size w w' := by
  have n1 : 1 ≤ n := by omega
  have n2 : n ≤ 1713 := by omega
  have nB : B ≤ A + 64 * n := by omega
  have LL := Lib.hid hL
  have AB := Lib.hid (p := A < B) (by omega)
  clear hL
  have mk := make_words n (by omega)
  have ST := Lib.hid (OD.start w A n)
  go_enter Tryd.func26, Tryd.ntmps26
  go_wp2
  clear mk
  go_loopw [30] (fun i wr => ∃ (k : Nat) (wk : List Nat), k ≤ 7 ∧ i = .int .i64 k ∧ OD w wr A n wk (List.replicate n 0) ∧ ∀ i, i < k → (wk.getD i 0 < 18446744073709551616 ∧ ∀ t, t < 64 → (wk.getD i 0).testBit t = decide (((i : Int) + t) % 7 < 5))) (fun i _ => 7 - (intOf i).toNat)
  case atStart => exact ⟨0, _, by omega, rfl, ST.out, fun i hi => absurd hi (by omega)⟩
  case round =>
    obtain ⟨k, wk, hk, rfl, hO, hW⟩ := hrel
    have O := Lib.hid hO
    have W := Lib.hid hW
    by_cases hlt : k < 7
    · have kcell := (hO.kc k hlt).1
      have kfro := (hO.kc k hlt).2
      have sz := hO.size
      generalize wk.getD k 0 = old at kcell
      clear hO hW
      go_wp2_with (go_at_call 46; refine (wk64 _ _ (by omega) (by omega)).mono ?_; rintro e w1 ⟨v, rfl, v1, v2, rfl⟩; have V2 := Lib.hid v2; clear v2)
      go_roundw
      case rel => exact ⟨k + 1, wk.set k v, by omega, by go_num, O.out.week k v hlt, fun i hi => by
        have kl := O.out.kl
        by_cases e : i = k
        · subst e
          rw [show (wk.set i v).getD i 0 = v by simp [List.getD, kl, hlt]]
          exact ⟨v1, V2.out⟩
        · rw [show (wk.set k v).getD i 0 = wk.getD i 0 by simp only [List.getD, List.getElem?_set]; rw [if_neg (by omega)]]
          exact W.out i (by omega)⟩
      case measure => simp [intOf]; omega
    · obtain rfl : k = 7 := by omega
      have t1 := hO.t1
      have sz := hO.size
      clear hO hW
      go_wp2
      clear t1 sz
      go_loopw [41] (fun i wr => ∃ (k : Nat) (ws : List Nat), k ≤ n ∧ i = .int .i64 k ∧ OD w wr A n wk ws ∧ (∀ i, ws.getD i 0 < 18446744073709551616) ∧ ∀ i, i < k → ∀ t : Nat, t < 64 → (ws.getD i 0).testBit t = decide ((A + 64 * (i : Int) + t) % 7 < 5)) (fun i _ => n - (intOf i).toNat)
      case atStart => exact ⟨0, _, by omega, rfl, O.out, fun i => by simp only [List.getD, List.getElem?_replicate]; split <;> simp, fun i hi => absurd hi (by omega)⟩
      case round =>
        obtain ⟨k, ws, hk, rfl, hO, h64, hW2⟩ := hrel
        have O2 := Lib.hid hO
        have W2 := Lib.hid hW2
        have H64 := Lib.hid h64
        by_cases hlt2 : k < n
        · obtain ⟨j, hj⟩ : ∃ j : Nat, (A + 64 * (k : Int)) % 7 = j := ⟨((A + 64 * (k : Int)) % 7).toNat, by omega⟩
          have hj7 : j < 7 := by omega
          have t1 := hO.t1
          have sz := hO.size
          have wcell := (hO.kc j hj7).1
          have kcell := (hO.wd.2 k (by rw [hO.sl]; exact hlt2)).1
          have kfro := (hO.wd.2 k (by rw [hO.sl]; exact hlt2)).2
          have WJ := Lib.hid (W.out j hj7)
          generalize wk.getD j 0 = wv at *
          generalize ws.getD k 0 = old at kcell
          have hw1 : IntKind.i64.wrap (64 * (k : Int)) = 64 * (k : Int) := by simp [IntKind.wrap, IntKind.bits, IntKind.signed]; omega
          have hw2 : IntKind.i64.wrap (A + 64 * (k : Int)) = A + 64 * (k : Int) := by simp [IntKind.wrap, IntKind.bits, IntKind.signed]; omega
          have j7 : (j : Int) < 7 := by omega
          have kn : (k : Int) < n := by omega
          clear hO hW2 h64
          go_wp2
          go_region_held3 (fun w' => w'.cell? ⟨w.heap.size + 1 + 1, 1, none⟩ = some (.slice (some ⟨w.heap.size + 1, 0, none⟩) n n) ∧ w'.cell? ⟨w.heap.size + 1 + 1 + 1, j, none⟩ = some (.int .u64 (wv : Nat)))
            (first | go_keep | (simp only [World.cell?_drew]; exact ⟨by rw [World.cell?_setCell_other _ _ _ _ (by first | (simp; done) | (simp; omega))]; simp [*], by rw [World.cell?_setCell_other _ _ _ _ (by first | (simp; done) | (simp; omega))]; simp [*]⟩) | (refine ⟨?_, ?_⟩ <;> simp [*]))
            (first | (go_at_call 29; refine (wkday_any _ _ (by omega)).mono ?_; rintro e w' ⟨rfl, rfl⟩; rw [hj]))
          all_goals
            go_wp2
            go_roundw
            case rel => refine ⟨_, _, _, _, _, _, _, _, _, _, _, _, _, _, _, _, ?_, rfl⟩; exact ⟨k + 1, ws.set k wv, by omega, by go_num, (O2.out.word k wv hlt2).draw, set_lt k H64.out WJ.out.1, fun i hi t ht => by
              by_cases e : i = k
              · subst e
                rw [show (ws.set i wv).getD i 0 = wv by have := O2.out.sl; simp [List.getD, this, hlt2], WJ.out.2 t ht]
                congr 1; rw [← hj]; rw [eq_iff_iff]; omega
              · rw [show (ws.set k wv).getD i 0 = ws.getD i 0 by simp only [List.getD, List.getElem?_set]; rw [if_neg (fun x => e x.symm)]]
                exact W2.out i (by omega) t ht⟩
            case measure => simp [intOf]; omega
        · obtain rfl : k = n := by omega
          clear hO hW2 h64
          go_wp2
          go_loopw [11] (fun i wr => ∃ (d : Int) (ws : List Nat), B ≤ d ∧ d ≤ A + 64 * k ∧ i = .int .i64 d ∧ OD w wr A k wk ws ∧ (∀ i, ws.getD i 0 < 18446744073709551616) ∧ ∀ m : Nat, m < 64 * k → Bit ws m = decide ((A + m) % 7 < 5 ∧ ¬ (B ≤ A + m ∧ A + m < d))) (fun i _ => (A + 64 * k - intOf i).toNat)
          case atStart =>
            refine ⟨B, ws, by omega, nB, rfl, O2.out, H64.out, fun m hm => ?_⟩
            unfold Bit
            rw [W2.out (m / 64) (by omega) (m % 64) (by omega)]
            congr 1; rw [eq_iff_iff]; omega
          case round =>
            obtain ⟨d, ws3, d1, d2, rfl, hO, h64, hB3⟩ := hrel
            have O3 := Lib.hid hO
            have B3 := Lib.hid hB3
            have H3 := Lib.hid h64
            have t0 := hO.t0
            have t1 := hO.t1
            have sz := hO.size
            by_cases hlt3 : d < A + 64 * k
            · have hAB := AB.out
              have JK := Lib.hid (p := 0 ≤ d - A ∧ ((d - A) / 64).toNat < k) ⟨by omega, by omega⟩
              have MC := Lib.hid (markClosed_any (w.heap.size + 1) k k A d ws3 wr hO.sl hO.wd h64 a0 (by omega) (by omega) (by omega) (by omega))
              clear hO hB3 h64
              go_wp2_with (go_at_call 47; refine MC.out.mono ?_; rintro e w1 ⟨u, rfl, u1, u2, rfl⟩; have U2 := Lib.hid u2; clear u2)
              go_roundw
              case rel => refine ⟨_, _, _, _, _, _, _, _, _, _, _, _, _, _, ?_, rfl⟩; exact ⟨d + 1, ws3.set ((d - A) / 64).toNat u, by omega, by omega, by go_num, ((O3.out.grow _).word _ u JK.out.2).draw, set_lt _ H3.out u1, fun m hm => by
                rw [bit_mark O3.out.sl JK.out.1 JK.out.2 U2.out m hm, B3.out m hm, Bool.eq_iff_iff]
                simp only [Bool.and_eq_true, decide_eq_true_eq, Bool.not_eq_true', decide_eq_false_iff_not]
                omega⟩
              case measure => simp [intOf]; omega
            · have hd : d = A + 64 * k := by omega
              subst hd
              clear hO hB3 h64
              go_wp2
              clear t0 t1 sz
              go_loopw [72] (fun i wr => ∃ (j : Nat) (ws : List Nat), j ≤ c ∧ i = .int .i64 j ∧ OD w wr A k wk ws ∧ (∀ i, ws.getD i 0 < 18446744073709551616) ∧ ∀ m : Nat, m < 64 * k → Bit ws m = decide ((A + m) % 7 < 5 ∧ A + m < B ∧ ¬ (A + m) ∈ hs.take j)) (fun i _ => c - (intOf i).toNat)
              case atStart =>
                refine ⟨0, ws3, by omega, rfl, O3.out, H3.out, fun m hm => ?_⟩
                rw [B3.out m hm]
                congr 1; rw [eq_iff_iff]; simp only [List.take_zero, List.not_mem_nil, not_false_eq_true, and_true]; omega
              case round =>
                obtain ⟨j, ws4, j1, rfl, hO, h64, hB4⟩ := hrel
                have O4 := Lib.hid hO
                have B4 := Lib.hid hB4
                have H4 := Lib.hid h64
                have t0 := hO.t0
                have t1 := hO.t1
                have sz := hO.size
                have hcl := LL.out.1
                have hcm := LL.out.2.1
                by_cases hlt4 : j < c
                · obtain ⟨b, o, rfl, hb, hcell⟩ : ∃ b o, a = some ⟨b, o, none⟩ ∧ b < w.heap.size ∧ ∀ i, i < c → w.cell? ⟨b, o + i, none⟩ = some (.int .i64 (hs.getD i 0)) := by
                    rcases LL.out.2.2 with q | q
                    · omega
                    · exact q
                  have xc : wr.cell? ⟨b, o + j, none⟩ = some (.int .i64 (hs.getD j 0)) := by rw [hO.bel.cell (p := ⟨b, o + j, none⟩) hb]; exact hcell j hlt4
                  have TK := Lib.hid (p := ∀ z, z ∈ hs.take (j + 1) ↔ (z ∈ hs.take j ∨ z = hs.getD j 0)) (fun z => by
                    rw [List.take_succ_eq_append_getElem (by rw [hcl]; exact hlt4), List.mem_append, List.mem_singleton]
                    rw [show hs.getD j 0 = hs[j]'(by rw [hcl]; exact hlt4) by simp [List.getD, hcl, hlt4]])
                  generalize hs.getD j 0 = x at *
                  have jc : (j : Int) < c := by omega
                  by_cases x1 : A ≤ x
                  · by_cases x2 : x < B
                    · have JK := Lib.hid (p := 0 ≤ x - A ∧ ((x - A) / 64).toNat < k) ⟨by omega, by omega⟩
                      have MC := Lib.hid (markClosed_any (w.heap.size + 1) k k A x ws4 wr hO.sl hO.wd h64 a0 (by omega) (by omega) (by omega) (by omega))
                      clear hO hB4 h64 hcell
                      go_wp2_with (go_at_call 47; refine MC.out.mono ?_; rintro e w1 ⟨u, rfl, u1, u2, rfl⟩; have U2 := Lib.hid u2; clear u2)
                      go_roundw
                      case rel => exact ⟨j + 1, ws4.set ((x - A) / 64).toNat u, by omega, by go_num, ((O4.out.grow _).word _ u JK.out.2).draw, set_lt _ H4.out u1, fun m hm => by
                        rw [bit_mark O4.out.sl JK.out.1 JK.out.2 U2.out m hm, B4.out m hm, Bool.eq_iff_iff]
                        have e1 : ((m : Int) = x - A) ↔ (A + m = x) := by omega
                        simp only [Bool.and_eq_true, decide_eq_true_eq, Bool.not_eq_true', decide_eq_false_iff_not, TK.out, e1]
                        constructor
                        · rintro ⟨⟨a, b, c⟩, d⟩; exact ⟨a, b, fun q => q.elim c d⟩
                        · rintro ⟨a, b, c⟩; exact ⟨⟨a, b, fun q => c (.inl q)⟩, fun q => c (.inr q)⟩⟩
                      case measure => simp [intOf]; omega
                    · have x2' : decide (x < B) = false := by simpa using x2
                      clear hO hB4 h64 hcell
                      go_wp2
                      go_roundw
                      case rel => exact ⟨j + 1, ws4, by omega, by go_num, O4.out, H4.out, fun m hm => by
                        rw [B4.out m hm]; congr 1; rw [eq_iff_iff]; simp only [TK.out]
                        constructor
                        · rintro ⟨a, b, c⟩; exact ⟨a, b, fun q => q.elim c (fun e => by omega)⟩
                        · rintro ⟨a, b, c⟩; exact ⟨a, b, fun q => c (.inl q)⟩⟩
                      case measure => simp [intOf]; omega
                  · have x1' : decide (A ≤ x) = false := by simpa using x1
                    clear hO hB4 h64 hcell
                    go_wp2
                    go_roundw
                    case rel => exact ⟨j + 1, ws4, by omega, by go_num, O4.out, H4.out, fun m hm => by
                        rw [B4.out m hm]; congr 1; rw [eq_iff_iff]; simp only [TK.out]
                        constructor
                        · rintro ⟨a, b, c⟩; exact ⟨a, b, fun q => q.elim c (fun e => by omega)⟩
                        · rintro ⟨a, b, c⟩; exact ⟨a, b, fun q => c (.inl q)⟩⟩
                    case measure => simp [intOf]; omega
                · obtain rfl : j = c := by omega
                  have r0 := hO.r0
                  have r1 := hO.r1
                  have q0 := hO.q0
                  have q1 := hO.q1
                  clear hO hB4 h64
                  go_wp2
                  refine bodyPost_ret (v := .agg #[.int .i64 A, .slice (some ⟨w.heap.size + 1, 0, none⟩) k k]) (by simp [results, Tryd.results26, go_sem, r0, r1]) rfl ⟨ws4, rfl, (O4.out.wd.other _ _ (by omega) _).other _ _ (by omega) _, O4.out.sl, H4.out, fun m hm => ?_, ((O4.out.bel).setCell (by simp) _).setCell (by simp) _⟩
                  rw [B4.out m hm, List.take_of_length_le (by omega)]
end Go.Proofs.YtpeglcnenagkbaaDoor
