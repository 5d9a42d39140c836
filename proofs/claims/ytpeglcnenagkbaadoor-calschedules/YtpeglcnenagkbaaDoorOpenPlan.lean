/-
  OPENING A PLAN THAT CAME IN (own work): two dates, a tenor, a number, a slice of dates.
-/
import Derived.ProofKit
import Derived.OpenShut
import Derived.Deep.Slices
import Derived.SizedLaws
import Derived.Test.YtpeglcnenagkbaaDoorWSch5
namespace Go.Proofs.YtpeglcnenagkbaaDoor
open Go.ChangeShapes Go.WideShapes Go.ChangeAt Go.RowKit Go.Deep
set_option linter.unusedVariables false
set_option linter.unusedSimpArgs false

theorem addr_two (a : Addr) (m n : Nat) : (a.add m).add n = a.add (m + n) := by
  unfold Addr.add
  by_cases h1 : m = 0
  · subst h1; simp
  · by_cases h2 : n = 0
    · subst h2; simp
    · simp [h1, h2, Nat.add_assoc]
section
variable {H : Type} {enc : TypeId × Value → H} {P : Program} {W : World} {base : Nat} {sp : Nat → Bool} {held : Bool}
theorem trod_three {t e : TypeId} {fs : Array Field} {fuel : Nat} {cs : List Value} {x : DataW H × List MemPlace}
    (ht : P.underlying t = some (.struct fs)) (hfs : fs.toList.map (fun f => (f.type, f.offset)) = [(e, 0), (e, 1), (e, 2)]) (he : P.underlying e = some (.int .i64)) (hc : P.cellsOf e = 1) (hct : P.cellsOf t = 3)
    (h : DataW.trod enc P W base sp held fuel t cs = some x) : ∃ f : Dt, cs = [.int .i64 f.1, .int .i64 f.2.1, .int .i64 f.2.2] := by
  obtain ⟨xs, n, _, _, hl, hlen, hfld⟩ := DataW.trod_struct ht h
  rw [hct] at hl
  obtain ⟨c0, c1, c2, rfl⟩ : ∃ a b c, cs = [a, b, c] := by
    match cs, hl with
    | [a, b, c], _ => exact ⟨a, b, c, rfl⟩
  have h3 : fs.size = 3 := by have := congrArg List.length hfs; simpa using this
  have fat : ∀ i (hi : i < 3), ∃ f, fs[i]? = some f ∧ (f.type, f.offset) = [(e, 0), (e, 1), (e, 2)][i] := fun i hi => by
    refine ⟨fs[i]'(by omega), by simp [show i < fs.size by omega], ?_⟩
    have : (fs.toList.map (fun f => (f.type, f.offset)))[i]? = [(e, 0), (e, 1), (e, 2)][i]? := by rw [hfs]
    simpa [show i < fs.size by omega, hi] using this
  have ex : ∀ i, i < 3 → ∃ y, xs[i]? = some y := fun i hi => ⟨xs[i]'(by omega), by simp [show i < xs.length by omega]⟩
  obtain ⟨f0, g0, e0⟩ := fat 0 (by omega)
  obtain ⟨f1, g1, e1⟩ := fat 1 (by omega)
  obtain ⟨f2, g2, e2⟩ := fat 2 (by omega)
  obtain ⟨y0, q0⟩ := ex 0 (by omega)
  obtain ⟨y1, q1⟩ := ex 1 (by omega)
  obtain ⟨y2, q2⟩ := ex 2 (by omega)
  have k0 := hfld 0 f0 g0
  have k1 := hfld 1 f1 g1
  have k2 := hfld 2 f2 g2
  simp at e0 e1 e2
  rw [q0, e0.1, e0.2, hc] at k0
  rw [q1, e1.1, e1.2, hc] at k1
  rw [q2, e2.1, e2.2, hc] at k2
  obtain ⟨z0, r0, _, _⟩ := DataW.trod_int he k0
  obtain ⟨z1, r1, _, _⟩ := DataW.trod_int he k1
  obtain ⟨z2, r2, _, _⟩ := DataW.trod_int he k2
  simp at r0 r1 r2
  subst r0 r1 r2
  exact ⟨(z0, z1, z2), rfl⟩
theorem trod_two {t e : TypeId} {fs : Array Field} {fuel : Nat} {cs : List Value} {x : DataW H × List MemPlace}
    (ht : P.underlying t = some (.struct fs)) (hfs : fs.toList.map (fun f => (f.type, f.offset)) = [(e, 0), (e, 1)]) (he : P.underlying e = some (.int .i64)) (hc : P.cellsOf e = 1) (hct : P.cellsOf t = 2)
    (h : DataW.trod enc P W base sp held fuel t cs = some x) : ∃ a b : Int, cs = [.int .i64 a, .int .i64 b] := by
  obtain ⟨xs, n, _, _, hl, hlen, hfld⟩ := DataW.trod_struct ht h
  rw [hct] at hl
  obtain ⟨c0, c1, rfl⟩ : ∃ a b, cs = [a, b] := by
    match cs, hl with
    | [a, b], _ => exact ⟨a, b, rfl⟩
  have h3 : fs.size = 2 := by have := congrArg List.length hfs; simpa using this
  have fat : ∀ i (hi : i < 2), ∃ f, fs[i]? = some f ∧ (f.type, f.offset) = [(e, 0), (e, 1)][i] := fun i hi => by
    refine ⟨fs[i]'(by omega), by simp [show i < fs.size by omega], ?_⟩
    have : (fs.toList.map (fun f => (f.type, f.offset)))[i]? = [(e, 0), (e, 1)][i]? := by rw [hfs]
    simpa [show i < fs.size by omega, hi] using this
  have ex : ∀ i, i < 2 → ∃ y, xs[i]? = some y := fun i hi => ⟨xs[i]'(by omega), by simp [show i < xs.length by omega]⟩
  obtain ⟨f0, g0, e0⟩ := fat 0 (by omega)
  obtain ⟨f1, g1, e1⟩ := fat 1 (by omega)
  obtain ⟨y0, q0⟩ := ex 0 (by omega)
  obtain ⟨y1, q1⟩ := ex 1 (by omega)
  have k0 := hfld 0 f0 g0
  have k1 := hfld 1 f1 g1
  simp at e0 e1
  rw [q0, e0.1, e0.2, hc] at k0
  rw [q1, e1.1, e1.2, hc] at k1
  obtain ⟨z0, r0, _, _⟩ := DataW.trod_int he k0
  obtain ⟨z1, r1, _, _⟩ := DataW.trod_int he k1
  simp at r0 r1
  subst r0 r1
  exact ⟨z0, z1, rfl⟩
theorem dates_form {T t : TypeId} {fuel : Nat} {v : Value} {x : DataW H × List MemPlace} (hT : P.underlying T = some (.slice t)) (h : DataW.trod enc P W base sp held fuel T [v] = some x) : ∃ a l c, v = .slice a l c := by
  rcases open_slice hT h with ⟨q, _⟩ | ⟨y', l', c', _, _, _, _, q, _⟩
  · simp at q; exact ⟨_, _, _, q⟩
  · simp at q; exact ⟨_, _, _, q⟩
theorem open_dates {T t e : TypeId} {fs : Array Field} {fuel : Nat} {a : Option Addr} {len cap : Nat} {x : DataW H × List MemPlace}
    (hT : P.underlying T = some (.slice t)) (ht : P.underlying t = some (.struct fs)) (hfs : fs.toList.map (fun f => (f.type, f.offset)) = [(e, 0), (e, 1), (e, 2)]) (he : P.underlying e = some (.int .i64)) (hc : P.cellsOf e = 1) (hct : P.cellsOf t = 3) (hby : P.bytesOf t = 24)
    (h : DataW.trod enc P W base sp held fuel T [.slice a len cap] = some x) (hs : ∀ n ∈ x.1.weights P T, n ≤ reachBytes) : ∃ ds, HoD W a len cap ds := by
  rcases open_slice hT h with ⟨h0, _⟩ | ⟨y, l, c, m, n, D, Pl, h0, hb, hl, hm, hmm, xe, hx⟩
  · simp at h0
    exact ⟨[], .inl ⟨h0.1, h0.2.1, h0.2.2, rfl⟩⟩
  · simp at h0
    obtain ⟨rfl, rfl, rfl⟩ := h0
    have hlm : len ≤ m := by rw [hmm]; split <;> omega
    have hsz := hs ((((List.range len).map D).length + ((List.range (m - len)).map fun j => D (len + j)).length) * P.bytesOf t) (by rw [xe]; simp [DataW.weights, hT])
    simp [hby, reachBytes] at hsz
    by_cases h00 : len = 0
    · subst h00; exact ⟨[], .inr (.inl ⟨y, rfl, rfl, rfl⟩)⟩
    · obtain ⟨F, hF⟩ := choose_lt (α := Dt) (n := len) (p := fun i f => W.cell? (y.add (i * 3)) = some (.int .i64 f.1) ∧ W.cell? (y.add (i * 3 + 1)) = some (.int .i64 f.2.1) ∧ W.cell? (y.add (i * 3 + 2)) = some (.int .i64 f.2.2)) (fun i hi => by
        obtain ⟨cs', h1, h2⟩ := hx i (by omega)
        rw [hct] at h1
        obtain ⟨_, _, h3⟩ := World.cells?_some h1
        obtain ⟨f, rfl⟩ := trod_three ht hfs he hc hct h2
        have a0 := h3 0 (by omega)
        have a1 := h3 1 (by omega)
        have a2 := h3 2 (by omega)
        rw [addr_two] at a0 a1 a2
        exact ⟨f, a0, a1, a2⟩)
      have g : ∀ i, i < len → ((List.range len).map F).getD i (0, 0, 0) = F i := fun i hi => by simp [hi]
      have c0 := (hF 0 (by omega)).1
      obtain ⟨b, o, s⟩ := y
      have hs0 : s = none := by simpa [Addr.add] using World.cell?_spot c0
      subst hs0
      refine ⟨(List.range len).map F, .inr (.inr ⟨b, o, rfl, ?_, by simp, by omega, fun i hi => ?_⟩)⟩
      · have e : (⟨b, o, none⟩ : Addr).add (0 * 3) = ⟨b, o, none⟩ := by simp [Addr.add]
        rw [e] at c0
        by_cases hlt : b < W.heap.size
        · exact hlt
        · exfalso
          have hn : W.heap[b]? = none := by simp; omega
          simp [World.cell?, hn] at c0
      · rw [g i hi]
        have := hF i hi
        rw [Go.Addr.add_lit, Go.Addr.add_lit, Go.Addr.add_lit] at this
        exact this
theorem open_plan {r : Reach} {b0 : Nat} {S D T e L : TypeId} {fS fD fT : Array Field} {v : Value} {d : DataW H} {ps : List MemPlace}
    (hS : P.underlying S = some (.struct fS)) (hfS : fS.toList.map (fun f => (f.type, f.offset)) = [(D, 0), (D, 3), (T, 6), (e, 8), (L, 9)]) (hcS : P.cellsOf S = 10) (hD : P.underlying D = some (.struct fD)) (hfD : fD.toList.map (fun f => (f.type, f.offset)) = [(e, 0), (e, 1), (e, 2)]) (hcD : P.cellsOf D = 3) (hby : P.bytesOf D = 24)
    (hT : P.underlying T = some (.struct fT)) (hfT : fT.toList.map (fun f => (f.type, f.offset)) = [(e, 0), (e, 1)]) (hcT : P.cellsOf T = 2) (he : P.underlying e = some (.int .i64)) (hce : P.cellsOf e = 1) (hL : P.underlying L = some (.slice D)) (hcL : P.cellsOf L = 1)
    (hok : Value.okWide P W r b0 S v) (h : DataW.Trod enc P W base sp held S v d ps) (hz : ∀ n ∈ d.weights P S, n ≤ reachBytes) :
    ∃ (y m x y2 m2 x2 N u c : Int) (a : Option Addr) (n cap : Nat) (ds : List Dt), v = .agg #[.int .i64 y, .int .i64 m, .int .i64 x, .int .i64 y2, .int .i64 m2, .int .i64 x2, .int .i64 N, .int .i64 u, .int .i64 c, .slice a n cap] ∧ HoD W a n cap ds := by
  obtain ⟨cs, rfl, hsz⟩ := okWide_struct hS hok
  obtain ⟨fuel, hf⟩ := h
  obtain ⟨xs, n, _, hd, hl, hlen, hfld⟩ := DataW.trod_struct hS hf
  obtain ⟨l⟩ := cs
  simp only [Value.cells] at hl hfld
  rw [hcS] at hl
  obtain ⟨c0, c1, c2, c3, c4, c5, c6, c7, c8, c9, rfl⟩ : ∃ a b c d e f g h i j, l = [a, b, c, d, e, f, g, h, i, j] := by
    match l, hl with
    | [a, b, c, d, e, f, g, h, i, j], _ => exact ⟨a, b, c, d, e, f, g, h, i, j, rfl⟩
  have h3 : fS.size = 5 := by have := congrArg List.length hfS; simpa using this
  have fat : ∀ i (hi : i < 5), ∃ f, fS[i]? = some f ∧ (f.type, f.offset) = [(D, 0), (D, 3), (T, 6), (e, 8), (L, 9)][i] := fun i hi => by
    refine ⟨fS[i]'(by omega), by simp [show i < fS.size by omega], ?_⟩
    have : (fS.toList.map (fun f => (f.type, f.offset)))[i]? = [(D, 0), (D, 3), (T, 6), (e, 8), (L, 9)][i]? := by rw [hfS]
    simpa [show i < fS.size by omega, hi] using this
  have ex : ∀ i, i < 5 → ∃ y, xs[i]? = some y := fun i hi => ⟨xs[i]'(by omega), by simp [show i < xs.length by omega]⟩
  obtain ⟨f0, g0, e0⟩ := fat 0 (by omega)
  obtain ⟨f1, g1, e1⟩ := fat 1 (by omega)
  obtain ⟨f2, g2, e2⟩ := fat 2 (by omega)
  obtain ⟨f3, g3, e3⟩ := fat 3 (by omega)
  obtain ⟨f4, g4, e4⟩ := fat 4 (by omega)
  obtain ⟨y0, q0⟩ := ex 0 (by omega)
  obtain ⟨y1, q1⟩ := ex 1 (by omega)
  obtain ⟨y2, q2⟩ := ex 2 (by omega)
  obtain ⟨y3, q3⟩ := ex 3 (by omega)
  obtain ⟨y4, q4⟩ := ex 4 (by omega)
  have k0 := hfld 0 f0 g0
  have k1 := hfld 1 f1 g1
  have k2 := hfld 2 f2 g2
  have k3 := hfld 3 f3 g3
  have k4 := hfld 4 f4 g4
  simp only [List.getElem_cons_zero, List.getElem_cons_succ, Prod.mk.injEq] at e0 e1 e2 e3 e4
  rw [q0, e0.1, e0.2, hcD] at k0
  rw [q1, e1.1, e1.2, hcD] at k1
  rw [q2, e2.1, e2.2, hcT] at k2
  rw [q3, e3.1, e3.2, hce] at k3
  rw [q4, e4.1, e4.2, hcL] at k4
  simp at k0 k1 k2 k3 k4
  have hd1 : d = .agg (xs.map (·.1)) := by have := congrArg Prod.fst hd; simpa using this
  have tys : fS.toList.map (·.type) = [D, D, T, e, L] := by
    have := congrArg (List.map Prod.fst) hfS
    simpa [List.map_map, Function.comp_def] using this
  have wz : ∀ n ∈ DataW.weightsEach P [D, D, T, e, L] (xs.map (·.1)), n ≤ reachBytes := fun n hn => hz n (by rw [hd1]; simp only [DataW.weights, hS, tys]; exact hn)
  have z4 : ∀ n ∈ y4.1.weights P L, n ≤ reachBytes := fun n hn => wz n (DataW.weights_mem_each (j := 4) rfl (by simp [q4]) n hn)
  obtain ⟨da, r0⟩ := trod_three hD hfD he hce hcD k0
  obtain ⟨db, r1⟩ := trod_three hD hfD he hce hcD k1
  obtain ⟨n0, u0, r2⟩ := trod_two hT hfT he hce hcT k2
  obtain ⟨z3, r3, _, _⟩ := DataW.trod_int he k3
  simp at r0 r1 r2 r3
  obtain ⟨rfl, rfl, rfl⟩ := r0
  obtain ⟨rfl, rfl, rfl⟩ := r1
  obtain ⟨rfl, rfl⟩ := r2
  subst r3
  obtain ⟨a, ln, cn, rfl⟩ := dates_form hL k4
  obtain ⟨ds, hds⟩ := open_dates hL hD hfD he hce hcD hby k4 z4
  exact ⟨_, _, _, _, _, _, _, _, _, a, ln, cn, ds, rfl, hds⟩
end
end Go.Proofs.YtpeglcnenagkbaaDoor
