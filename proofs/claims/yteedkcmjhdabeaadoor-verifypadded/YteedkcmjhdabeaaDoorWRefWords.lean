/-
  WALKS: the document's keywords, Keyword, Small, Capital, Currency; LexWords.
-/
import Derived.Test.YteedkcmjhdabeaaDoorWRefLex1
import Derived.Test.YteedkcmjhdabeaaDoorWLexN
import Derived.Laws.AppendOwn
import Derived.Laws.AppendOwnNone
import Derived.Laws.OwnMore
import Derived.Maps.AppendAt
import Derived.OpenShut
namespace Go.Proofs.YteedkcmjhdabeaaDoor
open Go.RowKit Lx
set_option linter.unusedVariables false
set_option linter.unusedSimpArgs false

theorem infoStr : (Tryd.prog.info? 9).map (fun i => (i.zero, i.size, i.bytes)) = some (some (.string ⟨#[]⟩), 1, 16) := by kernel_rfl
theorem partsStr : ∃ i, Tryd.prog.info? 9 = some i ∧ i.zero = some (.string ⟨#[]⟩) ∧ i.size = 1 ∧ i.bytes = 16 := by
  have h := infoStr
  cases hq : Tryd.prog.info? 9 with
  | none => rw [hq] at h; cases h
  | some i =>
    rw [hq] at h
    simp only [Option.map_some, Option.some.injEq, Prod.mk.injEq] at h
    exact ⟨i, rfl, h.1, h.2.1, h.2.2⟩
abbrev OwS (w : World) (B : Nat) (v : Value) (ss : List ByteArray) : Prop := w.ownsRow B 9 1 v ss.length (ss.map .string)
/-- A list of texts, made at once. -/
theorem own_lit (w : World) (B : Nat) (hB : B ≤ w.heap.size) (ss : List ByteArray) (hl : ss.length ≤ 1000) : OwS (w.alloc (.cells (ss.map Value.string).toArray 9)) B (.slice (some ⟨w.heap.size, 0, none⟩) ss.length ss.length) ss := by
  refine ⟨by simp, .inr ⟨w.heap.size, ss.length, (ss.map Value.string).toArray, rfl, hB, World.alloc_heap_new w _, Nat.le_refl _, by unfold maxLen; omega, by simp, by simp [List.take_of_length_le]⟩⟩
theorem wp_strs {ops : Array Oper} {rest : List Oper} {o : Oper} {a : Act} {Q : Exit → Act → World → Prop} (w : World) (ys : List ByteArray) (N : Nat) (hN : N = w.heap.size) (hgd : o.guard = none) (s x : Operand)
    (ho : o.op = .call { callee := .builtin .append, args := #[s, x], argTypes := #[22, 22] }) (base : Nat) (v : Value) (ss : List ByteArray) (hs : a.eval s = v) (m : Nat) (hm : m = ys.length)
    (hx : a.eval x = .slice (some ⟨N, 0, none⟩) m m) (hown : OwS w base v ss) (hl : ss.length ≤ 1000) (hy : ys.length ≤ 1000) (h0 : 0 < ys.length) (hb : base ≤ w.heap.size) (C : Array Value) (hC : C = (ys.map Value.string).toArray)
    (h : ∀ v' w', OwS w' base v' (ss ++ ys) → Below base w w' → wpList Tryd.prog ops Q rest (a.put o.dst v') w') :
    wpList Tryd.prog ops Q (o :: rest) a (w.alloc (.cells C 9)) := by
  subst hN; subst hm; subst hC
  obtain ⟨i0, hi, hz0, hz1, hz2⟩ := partsStr
  refine wpList_append_own _ hgd s x 22 ho base 9 i0 _ 1 16 Tryd.underlying22 hi hz0 hz1 hz2 rfl (by decide) v _ _ hs (hown.alloc _) ⟨w.heap.size, 0, none⟩ ys.length ys.length (ys.map Value.string) hx (by simp) ?_ ?_ (by unfold maxLen; omega) (by omega) (by simp; omega) ?_
  · intro j u hj
    have e : ((⟨w.heap.size, 0, none⟩ : Addr).add j) = ⟨w.heap.size, j, none⟩ := by unfold Addr.add; rw [Nat.zero_add]; split <;> simp_all
    rw [e, World.cell?_alloc_at _ _ _ _ rfl]
    simpa using hj
  · intro u hu
    obtain ⟨b, _, rfl⟩ := List.mem_map.1 hu
    rfl
  · intro v' w' h1 h2 _
    refine h v' w' ?_ ?_
    · unfold OwS
      rw [List.length_append, List.map_append]
      exact h1
    · exact ((Below.refl _ w).alloc hb _).grown h2 (by simp; omega) (fun k e => by
        rcases hown.2 with ⟨rfl, _⟩ | ⟨g, c, cur, rfl, hB, _⟩
        · simp [Value.ownBlock] at e
        · simp [Value.ownBlock] at e; omega)
theorem ows_read {w : World} {B : Nat} {v : Value} {ss : List ByteArray} (h : OwS w B v ss) (h0 : 0 < ss.length) : ∃ g cap, v = .slice (some ⟨g, 0, none⟩) ss.length cap ∧ g < w.heap.size ∧ ∀ i, i < ss.length → w.cell? ⟨g, i, none⟩ = some (.string (ss.getD i ⟨#[]⟩)) := by
  obtain ⟨h1, h2⟩ := h
  rcases h2 with ⟨rfl, h2⟩ | ⟨g, cap, cur, rfl, hB, hg, hn, hm, hs, ht⟩
  · omega
  · refine ⟨g, cap, rfl, (Array.getElem?_eq_some_iff.1 hg).1, fun i hi => ?_⟩
    have e : w.cell? ⟨g, i, none⟩ = cur[i]? := by simp [World.cell?, hg]
    have e2 : (ss.map Value.string)[i]? = some (.string (ss.getD i ⟨#[]⟩)) := by rw [List.getElem?_map, List.getElem?_eq_getElem hi]; simp [List.getD, hi]
    rw [e, ← e2, ← ht, List.getElem?_take_of_lt (by omega)]
    simp
def kwA : List ByteArray := [⟨#[100, 101, 97, 108]⟩, ⟨#[115, 116, 97, 114, 116]⟩, ⟨#[104, 111, 108, 105, 100, 97, 121, 115]⟩, ⟨#[111, 98, 115, 101, 114, 118, 101]⟩, ⟨#[100, 101, 102]⟩, ⟨#[99, 111, 110, 116, 114, 97, 99, 116]⟩, ⟨#[122, 101, 114, 111]⟩, ⟨#[112, 97, 121]⟩, ⟨#[103, 105, 118, 101]⟩, ⟨#[115, 99, 97, 108, 101]⟩, ⟨#[100, 101, 108, 97, 121]⟩, ⟨#[97, 116]⟩, ⟨#[105, 102]⟩, ⟨#[101, 108, 115, 101]⟩, ⟨#[108, 101, 116]⟩, ⟨#[105, 110]⟩, ⟨#[102, 111, 114]⟩, ⟨#[101, 118, 101, 114, 121]⟩, ⟨#[102, 114, 111, 109]⟩, ⟨#[116, 111]⟩, ⟨#[115, 116, 101, 112]⟩]
def kwC : List ByteArray := [⟨#[102, 111, 108, 108, 111, 119, 105, 110, 103]⟩, ⟨#[109, 111, 100, 105, 102, 105, 101, 100]⟩, ⟨#[112, 114, 101, 99, 101, 100, 105, 110, 103]⟩, ⟨#[97, 99, 99, 117, 109, 117, 108, 97, 116, 101]⟩, ⟨#[98, 121]⟩, ⟨#[116, 104, 101, 110]⟩, ⟨#[119, 104, 101, 110]⟩, ⟨#[119, 105, 116, 104, 105, 110]⟩, ⟨#[97, 110, 100]⟩, ⟨#[116, 114, 117, 101]⟩, ⟨#[102, 97, 108, 115, 101]⟩, ⟨#[100, 97, 121]⟩, ⟨#[109, 105, 110]⟩, ⟨#[109, 97, 120]⟩, ⟨#[97, 98, 115]⟩, ⟨#[114, 97, 116, 105, 111]⟩, ⟨#[116, 104, 105, 114, 116, 121]⟩]
def kwD : List ByteArray := [⟨#[100, 111, 119, 110]⟩, ⟨#[102, 108, 111, 111, 114]⟩, ⟨#[99, 101, 105, 108]⟩, ⟨#[104, 97, 108, 102, 95, 117, 112]⟩, ⟨#[104, 97, 108, 102, 95, 101, 118, 101, 110]⟩]
def RKw (w : World) (e : Ending) (w' : World) : Prop := ∃ g cap, e = .returned (.slice (some ⟨g, 0, none⟩) 43 cap) ∧ (∀ i, i < 43 → w'.cell? ⟨g, i, none⟩ = some (.string ((kwA ++ kwC ++ kwD).getD i ⟨#[]⟩))) ∧ g < w'.heap.size ∧ Below w.heap.size w w'
theorem kw_bytes : (kwA ++ kwC ++ kwD).map lst = kwL := by rfl
theorem toList_lst (b : ByteArray) : b.toList = lst b := by obtain ⟨⟨l⟩⟩ := b; rw [ByteArray.toList_mk]; rfl
theorem kwB_hit {l : L} {i : Nat} (hi : i < 43) (h : lst ((kwA ++ kwC ++ kwD).getD i ⟨#[]⟩) = l) : kwB l = true := by
  unfold kwB
  refine decide_eq_true ?_
  rw [← kw_bytes, ← h]
  have hl : i < (kwA ++ kwC ++ kwD).length := hi
  rw [show (kwA ++ kwC ++ kwD).getD i ⟨#[]⟩ = (kwA ++ kwC ++ kwD)[i] by rw [List.getD_eq_getElem?_getD, List.getElem?_eq_getElem hl, Option.getD_some]]
  exact List.mem_map_of_mem (List.getElem_mem hl)
theorem kwB_miss {l : L} (h : ∀ i, i < 43 → lst ((kwA ++ kwC ++ kwD).getD i ⟨#[]⟩) ≠ l) : kwB l = false := by
  unfold kwB
  refine decide_eq_false ?_
  rw [← kw_bytes, List.mem_map]
  rintro ⟨b, hb, e⟩
  obtain ⟨i, hi, rfl⟩ := List.mem_iff_getElem.1 hb
  refine h i hi ?_
  rw [show (kwA ++ kwC ++ kwD).getD i ⟨#[]⟩ = (kwA ++ kwC ++ kwD)[i] by rw [List.getD_eq_getElem?_getD, List.getElem?_eq_getElem hi, Option.getD_some]]
  exact e
theorem head_l {s : ByteArray} (h0 : 0 < s.size) : (List.headD (lst s) 0).toNat = s[0].toNat := by
  rw [← nth_lst h0]
  cases hl : lst s <;> rfl
theorem allrn_of {s : ByteArray} (h : run (lst s) = lst s) : ∀ i, i < s.size → rnN (nthN (lst s) i) = true := fun i hi => run_in (by rw [h, lst_len]; exact hi)
theorem namV_err {p : Nat → Bool} {k : Int} {l : L} {a : Nat} : (namV p k l a).2.2 = (nameE p l).2 := by
  unfold namV; split
  · rename_i h; rw [h]
  · rfl
end Go.Proofs.YteedkcmjhdabeaaDoor
