import Derived.Test.YthhacbelbkkcmaaXAC
import Derived.DeepKeys4
import Derived.ProofKit
namespace Go.Proofs.Ythhacbelbkkcmaa
open Go.RowKit
set_option linter.unusedVariables false
set_option linter.unusedSimpArgs false

/-- The cells of a row of flows, each in its place. -/
theorem fl_news {w : World} {b o n : Nat} {fs : List Fl} (hl : fs.length = n) (hc : ∀ i, i < n → FC w b (o + i * 3) (fs.getD i default)) : ∀ j u, (fcs fs)[j]? = some u → w.cell? ((⟨b, o, none⟩ : Addr).add j) = some u := by
  intro j u hu
  have hj : j < fs.length * 3 := by
    have := (List.getElem?_eq_some_iff.1 hu).1
    rwa [fcs_len] at this
  have e : j = j / 3 * 3 + j % 3 := by omega
  have hi : j / 3 < fs.length := by omega
  have h3 : j % 3 < 3 := by omega
  obtain ⟨c0, c1, c2⟩ := hc (j / 3) (by omega)
  rw [Go.Addr.add_lit]
  generalize j / 3 = q at *
  generalize j % 3 = r at *
  subst e
  rw [fcs_at fs q hi r h3] at hu
  rw [← hu, ← Nat.add_assoc]
  match r, h3 with
  | 0, _ => exact c0
  | 1, _ => exact c1
  | 2, _ => exact c2
theorem fcs_one (fs : List Fl) : ∀ u ∈ fcs fs, u.oneCell' = true := by
  intro u hu
  obtain ⟨f, _, hf⟩ := List.mem_flatMap.1 hu
  simp [Fl.cells] at hf
  rcases hf with rfl | rfl | rfl <;> rfl
theorem wp_twin {ops : Array Oper} {rest : List Oper} {o : Oper} {a : Act} {Q : Exit → Act → World → Prop} (w : World) (B : Nat) (hB : B ≤ w.heap.size) (ad : Option Addr) (n cap : Nat) (fs : List Fl) (hf : FL w ad n fs) (hcap : ad = none → cap = 0) (hgd : o.guard = none) (s x : Operand)
    (ho : o.op = .call { callee := .builtin .append, args := #[s, x], argTypes := #[24, 24] }) (v : Value) (hs : a.eval s = v) (hown : w.ownsRow B 40 3 v 0 []) (hx : a.eval x = .slice ad n cap)
    (h : ∀ v' w', OwnF w' B v' fs → w.grownBy w' v.ownBlock → wpList Try.prog ops Q rest (a.put o.dst v') w') : wpList Try.prog ops Q (o :: rest) a w := by
  obtain ⟨i0, hi, hz0, hz1, hz2⟩ := info_parts infoF
  obtain ⟨hl, h43, h3⟩ := hf
  have go : ∀ x1, ad = some x1 → (∀ j u, (fcs fs)[j]? = some u → w.cell? (x1.add j) = some u) → wpList Try.prog ops Q (o :: rest) a w := by
    rintro x1 rfl hn
    refine wpList_append_own _ hgd s x 24 ho B 40 i0 (.agg #[.int .i64 0, .string ⟨#[]⟩, .int .i64 0]) 3 32 Try.underlying24 hi hz0 hz1 hz2 rfl (by decide) v _ _ hs hown x1 n cap (fcs fs) hx (by rw [fcs_len, hl]) hn (fcs_one fs) (by unfold maxLen; omega) (by omega) hB ?_
    intro v' w' h1 h2 _
    refine h v' w' ?_ h2
    rw [OwnF, hl]
    simpa using h1
  rcases h3 with h0 | ⟨b, q, rfl, _, hc⟩
  · subst h0
    have hz : fs = [] := List.length_eq_zero_iff.1 hl
    subst hz
    cases ad with
    | none =>
      rw [hcap rfl] at hx
      exact wpList_append_own_none hgd s x 24 ho B 40 i0 3 Try.underlying24 hi v 0 [] hs hown hx (h v w hown ⟨rfl, rfl, rfl, Nat.le_refl _, fun _ _ _ => rfl⟩)
    | some x1 => exact go x1 rfl (fun j u hu => by simp [fcs] at hu)
  · exact go _ rfl (fl_news hl hc)
set_option maxHeartbeats 2000000 in
theorem twin_any (a : Option Addr) (n cap : Nat) (fs : List Fl) (w : World) (h : FL w a n fs) (hcap : a = none → cap = 0) :
    Calls Try.prog 4 #[.slice a n cap] w fun e w' => ∃ v, e = .returned v ∧ Below w.heap.size w w' ∧ OwnF w' w.heap.size v fs := by
  have A0 := Lib.hid ((Below.refl w.heap.size w).alloc (Nat.le_refl _) (.cells #[] 40))
  have H0 := Lib.hid (h.later A0.out)
  have W0 := Lib.hid (World.ownsRow_made (e := 40) (size := 3) (base := w.heap.size) w #[] 0 (Nat.le_refl _) (by unfold maxLen; omega) rfl)
  clear h
  go_enter Try.func4, Try.ntmps4
  go_wp2_with (at_builtin; refine wp_twin _ w.heap.size A0.out.size a n cap fs H0.out hcap rfl _ _ rfl _ rfl W0.out rfl ?_; intro v1 w1 h1 h2; have O1 := Lib.hid h1; have B1 := Lib.hid (A0.out.grown h2 A0.out.size (fun k e => (W0.out.lt k e).1)); clear h1 h2)
  go_ret
  exact ⟨_, rfl, B1.out, O1.out⟩
theorem setAt_short {κ : Type} [DecidableEq κ] (k : κ) (v : Int) : ∀ l : List (κ × Int), (setAt k v l).length ≤ l.length + 1
  | [] => by simp [setAt]
  | e :: l => by
    have := setAt_short k v l
    unfold setAt
    split <;> simp <;> omega
theorem tally_short {κ : Type} [DecidableEq κ] {fits : Int → Bool} : ∀ {l acc out : List (κ × Int)}, tally fits acc l = some out → out.length ≤ acc.length + l.length
  | [], acc, out, h => by cases h; simp
  | x :: l, acc, out, h => by
    unfold tally at h
    split at h
    · have h1 := tally_short h
      have h2 := setAt_short x.1 ((sumAt x.1 acc).getD 0 + x.2) acc
      simp at h1 ⊢
      omega
    · cases h
end Go.Proofs.Ythhacbelbkkcmaa

namespace Go.Proofs.Ythhacbelbkkcmaa
open Go.RowKit Go.Maps
set_option linter.unusedVariables false
set_option linter.unusedSimpArgs false

theorem pairLaid : laidOutB Try.prog = true := by kernel_rfl
theorem pairRow : (59 : TypeId) < Try.prog.types.size := of_decide_eq_true (by kernel_rfl)
theorem pairWide : (match Try.prog.underlying 59 with | some (.array _ _) | some (.struct _) => true | _ => false) = true := by kernel_rfl
set_option maxRecDepth 100000 in
theorem pairLaw : WideMaps.KeyLaw Try.prog 59 := deep_law_laid pairLaid (m := 2) (by omega) pairRow (by kernel_rfl) pairWide
theorem lawP : Keyed Try.prog 59 := Keyed.of_law pairLaw
theorem pairKey : Try.prog.keyType 59 = true := by kernel_rfl
theorem pairCells : Try.prog.cellsOf 59 = 2 := by kernel_rfl
theorem pairInt : Try.prog.cellsOf 3 = 1 := by kernel_rfl
theorem pairStr : Try.prog.cellsOf 9 = 1 := by kernel_rfl
theorem pairTypes : ∃ m, Try.prog.types.size + 1 = m + 2 := by
  have h0 : 0 < Try.prog.types.size := Nat.lt_of_le_of_lt (Nat.zero_le _) pairRow
  generalize Try.prog.types.size = n at h0
  exact ⟨n - 1, by omega⟩

/-- What a day and a currency read as. -/
def litP (d : Int) (c : ByteArray) : Lit := .string (keyBytes [.int .i64 d, .string c.data.toList])
theorem keyP {d : Int} {c : ByteArray} (wd : (Lit.int .i64 d).wf = true) (hc : c.size ≤ maxLen) : keyOf Try.prog 59 (.agg #[.int .i64 d, .string c]) = some (litP d c) := by
  obtain ⟨m, hm⟩ := pairTypes
  have hf : (Value.agg #[.int .i64 d, .string c]).formed Try.prog 59 = true := by simp [Value.formed, Try.underlying59, pairCells]
  unfold keyOf
  rw [Try.underlying59]
  simp only [pairKey, hf, Bool.and_self, if_true, hm]
  simp [Program.keyLits, Try.underlying59, Try.underlying3, Try.underlying9, pairCells, pairInt, pairStr, Value.cells, wd, hc, litP]
theorem litP_ne {d d' : Int} {c c' : ByteArray} (wd : (Lit.int .i64 d).wf = true) (hc : c.size ≤ maxLen) (wd' : (Lit.int .i64 d').wf = true) (hc' : c'.size ≤ maxLen) (h : (d', c') ≠ (d, c)) : litP d' c' ≠ litP d c := fun e => by
  have := pairLaw.inj (keyP wd' hc') (e ▸ keyP wd hc)
  simp at this
  exact h (by rw [this.1, this.2])
end Go.Proofs.Ythhacbelbkkcmaa

namespace Go.Proofs.Ythhacbelbkkcmaa
open Go.RowKit Go.Maps
set_option linter.unusedVariables false
set_option linter.unusedSimpArgs false

section
variable {κ : Type} [DecidableEq κ]
theorem sumAt_mem {l : List (κ × Int)} (h : (l.map (·.1)).Nodup) {k : κ} {v : Int} : sumAt k l = some v ↔ (k, v) ∈ l := by
  induction l with
  | nil => simp [sumAt]
  | cons e l ih =>
    rw [List.map_cons, List.nodup_cons] at h
    unfold sumAt
    by_cases hk : e.1 = k
    · rw [if_pos hk, List.mem_cons]
      constructor
      · intro hv; left; injection hv with hv; rw [← hk, ← hv]
      · rintro (hv | hv)
        · rw [← hv]
        · exact absurd (List.mem_map.2 ⟨_, hv, hk.symm⟩) h.1
    · rw [if_neg hk, ih h.2, List.mem_cons]
      constructor
      · exact .inr
      · rintro (hv | hv)
        · exact absurd (by rw [← hv]) hk
        · exact hv
theorem sumAt_snoc {l : List (κ × Int)} {k k' : κ} {v : Int} : sumAt k' (l ++ [(k, v)]) = if (sumAt k' l).isSome then sumAt k' l else if k = k' then some v else none := by
  induction l with
  | nil => simp [sumAt]
  | cons e l ih =>
    rw [List.cons_append]; unfold sumAt
    by_cases hk : e.1 = k'
    · simp [hk]
    · rw [if_neg hk, if_neg hk, ih]
omit [DecidableEq κ] in
theorem nodup_of_keys {l : List (κ × Int)} (h : (l.map (·.1)).Nodup) : l.Nodup := by
  induction l with
  | nil => exact List.nodup_nil
  | cons e l ih =>
    rw [List.map_cons, List.nodup_cons] at h
    exact List.nodup_cons.2 ⟨fun c => h.1 (List.mem_map.2 ⟨e, c, rfl⟩), ih h.2⟩
/-- Two lists of sums that say the same of every key have the same members. -/
theorem perm_of_sums {l l' : List (κ × Int)} (h : (l.map (·.1)).Nodup) (h' : (l'.map (·.1)).Nodup) (e : ∀ k, sumAt k l = sumAt k l') : l.Perm l' :=
  (List.perm_ext_iff_of_nodup (nodup_of_keys h) (nodup_of_keys h')).2 fun p => by
    obtain ⟨k, v⟩ := p
    rw [← sumAt_mem h, ← sumAt_mem h', e]
end

/-- What has been gathered: the sums that are no longer to come. -/
def Gath (acc : List (ByteArray × Int)) (left : Lit → Bool) (out : List (ByteArray × Int)) : Prop :=
  (out.map (·.1)).Nodup ∧ ∀ c, sumAt c out = if left (lit c) then none else sumAt c acc
theorem gath_start {D : DataW Unit} {acc : List (ByteArray × Int)} (h : Sums D acc) : Gath acc (Maps.has D) [] :=
  ⟨List.nodup_nil, fun c => by
    rw [h.2.2 c]
    cases e : sumAt c acc <;> simp [sumAt]⟩
theorem gath_step {D : DataW Unit} {acc : List (ByteArray × Int)} {left : Lit → Bool} {out : List (ByteArray × Int)} (h : Sums D acc) (g : Gath acc left out) {c : ByteArray} {v : Int} (hl : left (lit c) = true) (hh : Maps.has D (lit c) = true)
    (hat : D.atKey (lit c) (.lit (.int .i64 0)) = .lit (.int .i64 v)) : Gath acc (fun z => left z && !z.sameKey (lit c)) (out ++ [(c, v)]) := by
  have hv : sumAt c acc = some v := by
    have h3 := h.2.2 c
    rw [hh] at h3
    have h2 := h.2.1 c
    rw [hat] at h2
    cases e : sumAt c acc with
    | none => rw [e] at h3; cases h3
    | some x => rw [e] at h2; injection h2 with h2; injection h2 with _ h2; rw [h2]; rfl
  have hn : sumAt c out = none := by rw [g.2 c, if_pos hl]
  refine ⟨?_, fun c' => ?_⟩
  · rw [List.map_append, List.nodup_append]
    refine ⟨g.1, by simp, fun a ha b hb => ?_⟩
    simp at hb; subst hb
    obtain ⟨e, he, rfl⟩ := List.mem_map.1 ha
    exact sumAt_none.1 hn e he
  · rw [sumAt_snoc]
    by_cases e : c' = c
    · subst e
      have hs : (lit c').sameKey (lit c') = true := by simp [lit, Lit.sameKey]
      simp [hn, hs, hv]
    · have hs : (lit c').sameKey (lit c) = false := Maps.sameKey_ne (lit_ne e)
      have e' : ¬ c = c' := fun q => e q.symm
      simp only [hs, Bool.not_false, Bool.and_true, if_neg e', ← g.2 c']
      cases sumAt c' out <;> rfl
theorem gath_end {acc : List (ByteArray × Int)} {left : Lit → Bool} {out : List (ByteArray × Int)} (ha : (acc.map (·.1)).Nodup) (g : Gath acc left out) (hl : ∀ kl, left kl = false) : out.Perm acc :=
  perm_of_sums g.1 ha fun k => by rw [g.2 k, hl]; rfl
end Go.Proofs.Ythhacbelbkkcmaa

namespace Go.Proofs.Ythhacbelbkkcmaa
open Go.RowKit Go.Maps
set_option linter.unusedVariables false
set_option linter.unusedSimpArgs false

abbrev DC := Int × ByteArray
def wfK (k : DC) : Prop := (Lit.int .i64 k.1).wf = true ∧ k.2.size ≤ maxLen
def litK (k : DC) : Lit := litP k.1 k.2
theorem litK_ne {k k' : DC} (h : wfK k) (h' : wfK k') (e : k' ≠ k) : litK k' ≠ litK k := litP_ne h.1 h.2 h'.1 h'.2 e
theorem arr_two {cs : Array Value} (h : cs.size = 2) : ∃ x y, cs = #[x, y] := by
  obtain ⟨l⟩ := cs
  match l, h with
  | [x, y], _ => exact ⟨x, y, rfl⟩
theorem keyP_eq (v : Value) : keyOf Try.prog 59 v = if v.formed Try.prog 59 = true then (Try.prog.keyLits (Try.prog.types.size + 1) 59 v.cells.toList).map fun ls => .string (keyBytes ls) else none := by
  unfold keyOf
  rw [Try.underlying59]
  simp only [pairKey, Bool.true_and]
theorem litsP_eq (m : Nat) (x y : Value) : Try.prog.keyLits (m + 2) 59 [x, y] = (match x with | .int q n => if q = IntKind.i64 ∧ (Lit.int .i64 n).wf = true then some [Lit.int .i64 n] else none | _ => none).bind fun a => (match y with | .string s => if s.size ≤ maxLen then some [Lit.string s.data.toList] else none | _ => none).map fun b => a ++ b := by
  simp only [Program.keyLits, Try.underlying59, pairCells]
  simp [Program.keyLits, Try.underlying3, Try.underlying9, pairInt, pairStr]
  cases x <;> cases y <;> simp <;> (try split) <;> (try split) <;> simp_all
theorem keyP_inv {key : Value} {kl : Lit} (h : keyOf Try.prog 59 key = some kl) : ∃ x : DC, key = .agg #[.int .i64 x.1, .string x.2] ∧ kl = litK x ∧ wfK x := by
  obtain ⟨m, hm⟩ := pairTypes
  rw [keyP_eq] at h
  split at h
  · rename_i hf
    cases key with
    | agg cs =>
      have hs : cs.size = 2 := by simpa [Value.formed, Try.underlying59, pairCells] using hf
      obtain ⟨x, y, rfl⟩ := arr_two hs
      · have e : (Value.agg #[x, y]).cells.toList = [x, y] := rfl
        rw [hm, e, litsP_eq] at h
        cases x with
        | int q n =>
          cases y with
          | string s =>
            simp only at h
            by_cases c1 : q = .i64 ∧ (Lit.int .i64 n).wf = true
            · by_cases c2 : s.size ≤ maxLen
              · rw [if_pos c1, if_pos c2] at h
                simp at h
                obtain ⟨rfl, c1⟩ := c1
                exact ⟨(n, s), rfl, h.symm, c1, c2⟩
              · rw [if_pos c1, if_neg c2] at h; simp at h
            · rw [if_neg c1] at h; simp at h
          | _ => simp at h
        | _ => simp at h
    | _ => simp [Value.formed, Try.underlying59] at hf
  · cases h

theorem setAt_mem {k : DC} {v : Int} {e : DC × Int} : ∀ {l : List (DC × Int)}, e ∈ setAt k v l → e = (k, v) ∨ e ∈ l
  | [], h => by simp [setAt] at h; exact .inl h
  | x :: l, h => by
    unfold setAt at h
    split at h
    · rcases List.mem_cons.1 h with h | h
      · exact .inl h
      · exact .inr (List.mem_cons_of_mem _ h)
    · rcases List.mem_cons.1 h with h | h
      · exact .inr (h ▸ List.mem_cons_self)
      · rcases setAt_mem h with q | q
        · exact .inl q
        · exact .inr (List.mem_cons_of_mem _ q)
/-- A map that holds just these sums. -/
def SumsN (D : DataW Unit) (acc : List (DC × Int)) : Prop :=
  IsMap D ∧ (∀ k, wfK k → D.atKey (litK k) (.lit (.int .i64 0)) = .lit (.int .i64 ((sumAt k acc).getD 0))) ∧ (∀ k, wfK k → Maps.has D (litK k) = (sumAt k acc).isSome) ∧ ∀ e ∈ acc, wfK e.1
theorem sumsN_none : SumsN (.map []) [] := ⟨isMap_empty, fun _ _ => rfl, fun _ _ => rfl, by simp⟩
theorem SumsN.set {D : DataW Unit} {acc : List (DC × Int)} (h : SumsN D acc) (k : DC) (hk : wfK k) (v : Int) : SumsN (D.put (litK k) (.lit (.int .i64 v))) (setAt k v acc) := by
  obtain ⟨h1, h2, h3, h4⟩ := h
  refine ⟨h1.put _ _, fun k' hk' => ?_, fun k' hk' => ?_, fun e he => ?_⟩
  · by_cases e : k' = k
    · subst e; rw [atKey_put_same h1 (k := litK k') trivial, sumAt_set]; rfl
    · rw [atKey_put_other (litK_ne hk hk' e), h2 k' hk', sumAt_set_other e]
  · by_cases e : k' = k
    · subst e; rw [has_put_same h1 (k := litK k') trivial, sumAt_set]; rfl
    · rw [has_put_other (litK_ne hk hk' e), h3 k' hk', sumAt_set_other e]
  · rcases setAt_mem he with q | q
    · rw [q]; exact hk
    · exact h4 e q
/-- The sums by day and currency. -/
def nets (fs : List Fl) : Option (List (DC × Int)) := tally fitB [] (fs.map fun f => ((f.d, f.c), f.a))
theorem nets_step {fs : List Fl} {k : Nat} {f : Fl} (hk : k < fs.length) (hf : fs.getD k default = f) : nets (fs.take (k + 1)) = (nets (fs.take k)).bind fun s => if fitB ((sumAt (f.d, f.c) s).getD 0 + f.a) then some (setAt (f.d, f.c) ((sumAt (f.d, f.c) s).getD 0 + f.a) s) else none := by
  have e : fs[k]? = some f := by rw [List.getElem?_eq_getElem hk, ← hf]; simp [List.getD, hk]
  unfold nets
  rw [List.take_add_one, e]
  simp only [Option.toList_some, List.map_append, List.map_cons, List.map_nil]
  rw [tally_snoc]
theorem nets_no {fs : List Fl} {k : Nat} (h : nets (fs.take k) = none) : nets fs = none := by
  unfold nets at *
  rw [← List.take_append_drop k fs, List.map_append]
  exact tally_no h
/-- What has been gathered: the sums that are no longer to come. -/
def GathN (acc : List (DC × Int)) (left : Lit → Bool) (out : List (DC × Int)) : Prop :=
  (out.map (·.1)).Nodup ∧ (∀ k, wfK k → sumAt k out = if left (litK k) then none else sumAt k acc) ∧ ∀ e ∈ out, wfK e.1
theorem gathN_start {D : DataW Unit} {acc : List (DC × Int)} (h : SumsN D acc) : GathN acc (Maps.has D) [] :=
  ⟨List.nodup_nil, fun k hk => by
    rw [h.2.2.1 k hk]
    cases e : sumAt k acc <;> simp [sumAt], by simp⟩
theorem gathN_step {D : DataW Unit} {acc : List (DC × Int)} {left : Lit → Bool} {out : List (DC × Int)} (h : SumsN D acc) (g : GathN acc left out) {k : DC} (hk : wfK k) {v : Int} (hl : left (litK k) = true) (hh : Maps.has D (litK k) = true)
    (hat : D.atKey (litK k) (.lit (.int .i64 0)) = .lit (.int .i64 v)) : GathN acc (fun z => left z && !z.sameKey (litK k)) (out ++ [(k, v)]) := by
  have hv : sumAt k acc = some v := by
    have h3 := h.2.2.1 k hk
    rw [hh] at h3
    have h2 := h.2.1 k hk
    rw [hat] at h2
    cases e : sumAt k acc with
    | none => rw [e] at h3; cases h3
    | some x => rw [e] at h2; injection h2 with h2; injection h2 with _ h2; rw [h2]; rfl
  have hn : sumAt k out = none := by rw [g.2.1 k hk, if_pos hl]
  refine ⟨?_, fun k' hk' => ?_, fun e he => ?_⟩
  · rw [List.map_append, List.nodup_append]
    refine ⟨g.1, by simp, fun a ha b hb => ?_⟩
    simp at hb; subst hb
    obtain ⟨e, he, rfl⟩ := List.mem_map.1 ha
    exact sumAt_none.1 hn e he
  · rw [sumAt_snoc]
    by_cases e : k' = k
    · subst e
      have hs : (litK k').sameKey (litK k') = true := by simp [litK, litP, Lit.sameKey]
      simp [hn, hs, hv]
    · have hs : (litK k').sameKey (litK k) = false := Maps.sameKey_ne (litK_ne hk hk' e)
      have e' : ¬ k = k' := fun q => e q.symm
      simp only [hs, Bool.not_false, Bool.and_true, if_neg e', ← g.2.1 k' hk']
      cases sumAt k' out <;> rfl
  · rcases List.mem_append.1 he with q | q
    · exact g.2.2 e q
    · simp at q; rw [q]; exact hk
theorem gathN_end {acc : List (DC × Int)} {left : Lit → Bool} {out : List (DC × Int)} (ha : (acc.map (·.1)).Nodup) (hw : ∀ e ∈ acc, wfK e.1) (g : GathN acc left out) (hl : ∀ kl, left kl = false) : out.Perm acc :=
  perm_of_sums g.1 ha fun k => by
    by_cases hk : wfK k
    · rw [g.2.1 k hk, hl]; rfl
    · rw [sumAt_none.2 (fun e he (q : e.1 = k) => hk (by rw [← q]; exact g.2.2 e he)), sumAt_none.2 (fun e he (q : e.1 = k) => hk (by rw [← q]; exact hw e he))]
/-- A sum as a flow. -/
def fzN (e : DC × Int) : Fl := ⟨e.1.1, e.1.2, e.2⟩
end Go.Proofs.Ythhacbelbkkcmaa
