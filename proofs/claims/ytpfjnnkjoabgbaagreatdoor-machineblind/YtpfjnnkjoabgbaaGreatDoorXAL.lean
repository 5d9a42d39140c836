import Derived.Test.YtpfjnnkjoabgbaaGreatDoorXAK
import Derived.Maps.OwnSet
import Derived.Laws.AppendOwn
import Derived.Laws.AppendOwnNone
import Derived.Laws.OwnMore
import Derived.Maps.AppendAt
import Derived.OpenShut
import Derived.Test.YtpfjnnkjoabgbaaGreatDoorXAC
import Derived.Test.YtpfjnnkjoabgbaaGreatDoorXAE
import Derived.Test.YtpfjnnkjoabgbaaGreatDoorXAI
import Derived.Test.YtpfjnnkjoabgbaaGreatDoorXAG
namespace Go.Proofs.YtpfjnnkjoabgbaaGreatDoor
open Go.RowKit Go.Maps Lx
set_option linter.unusedVariables false
set_option linter.unusedSimpArgs false

def litS (c : ByteArray) : Lit := .string c.data.toList
theorem litS_ne {c c' : ByteArray} (h : lst c' ≠ lst c) : litS c' ≠ litS c := fun e => h (by
  unfold litS at e
  injection e with e)
theorem lawS : Keyed Tryz.prog 9 := string_keyed Tryz.underlying9
theorem keyS {c : ByteArray} (h : c.size ≤ 9223372036854775807) : keyOf Tryz.prog 9 (.string c) = some (litS c) := WideMaps.keyOf_string_mk Tryz.underlying9 (by unfold maxLen; omega)
/-- A set of texts in memory. -/
structure KSet (w0 w : World) (mb : Nat) (ks : List L) : Prop where
  ow : ∃ D : DataW Unit, w.ownsMap Tryz.prog 9 unitElem mb ks.length D ∧ IsMap D ∧ ∀ c, Maps.has D (litS c) = decide (lst c ∈ ks)
  bel : Below w0.heap.size w0 w
  low : w0.heap.size ≤ mb
  lt : mb < w.heap.size
theorem kset_new (w : World) : KSet w (w.alloc (.map #[] 0)) w.heap.size [] :=
  ⟨⟨.map [], World.ownsMap_made w Tryz.prog 9 (unitElem (H := Unit)), isMap_empty, fun c => rfl⟩, (Below.refl _ w).alloc (Nat.le_refl _) _, Nat.le_refl _, by simp⟩
theorem kw_rev (l : L) : decide (l ∈ kwL.reverse) = kwB l := by
  unfold kwB
  by_cases h : l ∈ kwL
  · rw [decide_eq_true h, decide_eq_true (List.mem_reverse.2 h)]
  · rw [decide_eq_false h, decide_eq_false (fun k => h (List.mem_reverse.1 k))]
theorem isEmpty_lst (s : ByteArray) : s.toList.isEmpty = (lst s).isEmpty := by
  obtain ⟨⟨l⟩⟩ := s
  rw [ByteArray.toList_mk]; rfl
set_option maxHeartbeats 1000000 in
theorem isName_capital (s : ByteArray) (w : World) (hs : s.size ≤ 9223372036854775807) :
    Calls Tryz.prog 144 #[.string s, .func (.func 145) #[] #[]] w fun e w' => e = .returned (.bool (nameB cpN (lst s))) ∧ w' = w := by
  by_cases h0 : s.size = 0
  · have e0 : (lst s).isEmpty = true := by
      have := lst_len s
      cases hl : lst s with
      | nil => rfl
      | cons c q => rw [hl] at this; simp at this; omega
    have e1 : s.toList.isEmpty = true := by rw [isEmpty_lst]; exact e0
    rw [show nameB cpN (lst s) = false by unfold nameB; rw [e0]; rfl]
    clear e0
    go_enter Tryz.func144, Tryz.ntmps144
    go_wp2
    go_ret
    exact ⟨rfl, rfl⟩
  · have h1 : 0 < s.size := by omega
    have e0 : (lst s).isEmpty = false := by
      have := lst_len s
      cases hl : lst s with
      | nil => rw [hl] at this; simp at this; omega
      | cons c q => rfl
    have e1 : s.toList.isEmpty = false := by rw [isEmpty_lst]; exact e0
    have EH : (List.headD (lst s) 0).toNat = s[0].toNat := by
      rw [← nth_lst h1]
      cases hl : lst s <;> rfl
    have KL := Lib.hid (fun W => isCapital_any (s[0].toNat) W)
    have NB : nameB cpN (lst s) = (cpN (s[0].toNat) && decide ((nameE cpN (lst s)).2 = 0)) := by unfold nameB; rw [e0, EH]; rfl
    rw [NB]
    cases hp : cpN (s[0].toNat) with
    | false =>
      rw [hp] at KL
      clear e0 EH NB hp
      go_enter Tryz.func144, Tryz.ntmps144
      go_wp2_with (go_at_call 145; refine (KL.out _).mono ?_; rintro e w1 ⟨rfl, rfl⟩)
      go_ret
      exact ⟨rfl, rfl⟩
    | true =>
      rw [hp] at KL
      have KN := Lib.hid (fun W => nameErrorM_capital s W hs)
      clear e0 EH NB hp
      generalize nameE cpN (lst s) = ne at *
      obtain ⟨ni, er⟩ := ne
      simp only at KN ⊢
      by_cases her : er = 0
      · subst her
        rw [decide_eq_true rfl]
        go_enter Tryz.func144, Tryz.ntmps144
        go_wp2_with (first
          | (go_at_call 145; refine (KL.out _).mono ?_; rintro e w1 ⟨rfl, rfl⟩)
          | (go_at_call 152; refine (KN.out _).mono ?_; rintro e w1 ⟨rfl, rfl⟩))
        go_ret
        exact ⟨rfl, rfl⟩
      · rw [decide_eq_false her]
        have er0 : (er == 0) = false := by rw [beq_eq_false_iff_ne]; exact her
        go_enter Tryz.func144, Tryz.ntmps144
        go_wp2_with (first
          | (go_at_call 145; refine (KL.out _).mono ?_; rintro e w1 ⟨rfl, rfl⟩)
          | (go_at_call 152; refine (KN.out _).mono ?_; rintro e w1 ⟨rfl, rfl⟩))
        go_ret
        exact ⟨by simp [her], rfl⟩

def smlB (l : L) : Bool := nameB smN l && !kwB l
theorem capital_any (s : ByteArray) (w : World) (hs : s.size ≤ 9223372036854775807) : Calls Tryz.prog 127 #[.string s] w fun e w' => e = .returned (.bool (nameB cpN (lst s))) ∧ w' = w := by
  have KI := Lib.hid (fun W => isName_capital s W hs)
  go_enter Tryz.func127, Tryz.ntmps127
  go_wp2_with (go_at_call 144; refine (KI.out _).mono ?_; rintro e w1 ⟨rfl, rfl⟩)
  go_ret
  exact ⟨rfl, rfl⟩
theorem three_of {s : ByteArray} (h : s.size = 3) : lst s = [s[0], s[1], s[2]] := by
  have hl := lst_len s
  apply List.ext_getElem
  · rw [hl]; exact h
  · intro i h1 h2
    have e : ∀ k (hk : k < s.size) (hk' : k < (lst s).length), (lst s)[k]'hk' = s[k]'hk := fun k hk hk' => by
      have := nth_lst hk
      simp only [nthN] at this
      rw [List.getD_eq_getElem?_getD, List.getElem?_eq_getElem hk', Option.getD_some] at this
      exact UInt8.toNat_inj.1 this
    match i, h1, h2 with
    | 0, h1, _ => exact e 0 (by omega) h1
    | 1, h1, _ => exact e 1 (by omega) h1
    | 2, h1, _ => exact e 2 (by omega) h1
set_option maxHeartbeats 1000000 in
theorem currency_any (s : ByteArray) (w : World) : Calls Tryz.prog 129 #[.string s] w fun e w' => e = .returned (.bool (curB (lst s))) ∧ w' = w := by
  by_cases h3 : s.size = 3
  · have h3' : (s.size : Int) = 3 := by omega
    have hb : ((s.size : Int) == 3) = true := by rw [h3]; rfl
    have z0 : 0 < s.size := by omega
    have z1 : 1 < s.size := by omega
    have z2 : 2 < s.size := by omega
    have EC : curB (lst s) = (cpN (s[0]'z0).toNat && cpN (s[1]'z1).toNat && cpN (s[2]'z2).toNat) := by rw [three_of h3]; rfl
    rw [EC]
    clear EC
    have K0 := Lib.hid (fun W => isCapital_any (s[0].toNat) W)
    have K1 := Lib.hid (fun W => isCapital_any (s[1].toNat) W)
    have K2 := Lib.hid (fun W => isCapital_any (s[2].toNat) W)
    cases c0 : cpN (s[0].toNat) with
    | false =>
      rw [c0] at K0
      clear h3 h3'
      go_enter Tryz.func129, Tryz.ntmps129
      go_wp2_with (go_at_call 145; refine (K0.out _).mono ?_; rintro e w1 ⟨rfl, rfl⟩)
      go_ret
      exact ⟨rfl, rfl⟩
    | true =>
      rw [c0] at K0
      cases c1 : cpN (s[1].toNat) with
      | false =>
        rw [c1] at K1
        clear h3 h3'
        go_enter Tryz.func129, Tryz.ntmps129
        go_wp2_with (first
          | (go_at_call 145; have qq := K0; refine (K0.out _).mono ?_; rintro e w1 ⟨rfl, rfl⟩; clear K0)
          | (go_at_call 145; refine (K1.out _).mono ?_; rintro e w1 ⟨rfl, rfl⟩))
        go_ret
        exact ⟨rfl, rfl⟩
      | true =>
        rw [c1] at K1
        generalize cpN (s[2].toNat) = b2 at *
        clear h3 h3'
        go_enter Tryz.func129, Tryz.ntmps129
        go_wp2_with (first
          | (go_at_call 145; have qq := K0; refine (K0.out _).mono ?_; rintro e w1 ⟨rfl, rfl⟩; clear K0)
          | (go_at_call 145; have qq := K1; refine (K1.out _).mono ?_; rintro e w1 ⟨rfl, rfl⟩; clear K1)
          | (go_at_call 145; refine (K2.out _).mono ?_; rintro e w1 ⟨rfl, rfl⟩))
        go_ret
        exact ⟨rfl, rfl⟩
  · have h3' : ¬ (s.size : Int) = 3 := by omega
    have hb : ((s.size : Int) == 3) = false := by rw [beq_eq_false_iff_ne]; exact h3'
    have e : curB (lst s) = false := by
      have := lst_len s
      match hl : lst s with
      | [] => rfl
      | [a] => rfl
      | [a, b] => rfl
      | [a, b, c] => rw [hl] at this; simp at this; omega
      | a :: b :: c :: d :: q => rfl
    rw [e]
    clear e h3
    go_enter Tryz.func129, Tryz.ntmps129
    go_wp2
    go_ret
    exact ⟨rfl, rfl⟩
end Go.Proofs.YtpfjnnkjoabgbaaGreatDoor

namespace Go.Proofs.YtpfjnnkjoabgbaaGreatDoor
open Go.RowKit Lx
set_option linter.unusedVariables false
set_option linter.unusedSimpArgs false

theorem infoStr : (Tryz.prog.info? 9).map (fun i => (i.zero, i.size, i.bytes)) = some (some (.string ⟨#[]⟩), 1, 16) := by kernel_rfl
theorem partsStr : ∃ i, Tryz.prog.info? 9 = some i ∧ i.zero = some (.string ⟨#[]⟩) ∧ i.size = 1 ∧ i.bytes = 16 := by
  have h := infoStr
  cases hq : Tryz.prog.info? 9 with
  | none => rw [hq] at h; cases h
  | some i =>
    rw [hq] at h
    simp only [Option.map_some, Option.some.injEq, Prod.mk.injEq] at h
    exact ⟨i, rfl, h.1, h.2.1, h.2.2⟩
abbrev OwS (w : World) (B : Nat) (v : Value) (ss : List ByteArray) : Prop := w.ownsRow B 9 1 v ss.length (ss.map .string)
/-- A list of texts, made at once. -/
theorem own_lit (w : World) (B : Nat) (hB : B ≤ w.heap.size) (ss : List ByteArray) (hl : ss.length ≤ 1000) : OwS (w.alloc (.cells (ss.map Value.string).toArray 9)) B (.slice (some ⟨w.heap.size, 0, none⟩) ss.length ss.length) ss := by
  refine ⟨by simp, .inr ⟨w.heap.size, ss.length, (ss.map Value.string).toArray, rfl, hB, World.alloc_heap_new w _, Nat.le_refl _, by unfold maxLen; omega, by simp, by simp [List.take_of_length_le]⟩⟩
theorem wp_strs {ops : Array Oper} {rest : List Oper} {o : Oper} {a : Act} {Q : Exit → Act → World → Prop} (w : World) (ys : List ByteArray) (N : Nat) (hN : N = w.heap.size) (hgd : o.guard = none) (s x : Operand)
    (ho : o.op = .call { callee := .builtin .append, args := #[s, x], argTypes := #[22, 22] }) (base : Nat) (v : Value) (ss : List ByteArray) (hs : a.eval s = v) (m : Nat) (hm : m = ys.length)
    (hx : a.eval x = .slice (some ⟨N, 0, none⟩) m m) (hown : OwS w base v ss) (hl : ss.length ≤ 1000) (hy : ys.length ≤ 1000) (h0 : 0 < ys.length) (hb : base ≤ w.heap.size) (C : Array Value) (hC : C = (ys.map Value.string).toArray)
    (h : ∀ v' w', OwS w' base v' (ss ++ ys) → Below base w w' → wpList Tryz.prog ops Q rest (a.put o.dst v') w') :
    wpList Tryz.prog ops Q (o :: rest) a (w.alloc (.cells C 9)) := by
  subst hN; subst hm; subst hC
  obtain ⟨i0, hi, hz0, hz1, hz2⟩ := partsStr
  refine wpList_append_own _ hgd s x 22 ho base 9 i0 _ 1 16 Tryz.underlying22 hi hz0 hz1 hz2 rfl (by decide) v _ _ hs (hown.alloc _) ⟨w.heap.size, 0, none⟩ ys.length ys.length (ys.map Value.string) hx (by simp) ?_ ?_ (by unfold maxLen; omega) (by omega) (by simp; omega) ?_
  · intro j u hj
    have e : ((⟨w.heap.size, 0, none⟩ : Addr).add j) = ⟨w.heap.size, j, none⟩ := by unfold Addr.add; rw [Nat.zero_add]; split <;> simp_all
    rw [e, World.cell?_alloc_at _ _ _ _ rfl]
    simpa using hj
  · intro u hu
    obtain ⟨b, _, rfl⟩ := List.mem_map.1 hu
    rfl
  · intro v' w' h1 h2 _
    refine h v' w' ?_ ?_
    · unfold OwS
      rw [List.length_append, List.map_append]
      exact h1
    · exact ((Below.refl _ w).alloc hb _).grown h2 (by simp; omega) (fun k e => by
        rcases hown.2 with ⟨rfl, _⟩ | ⟨g, c, cur, rfl, hB, _⟩
        · simp [Value.ownBlock] at e
        · simp [Value.ownBlock] at e; omega)
theorem ows_read {w : World} {B : Nat} {v : Value} {ss : List ByteArray} (h : OwS w B v ss) (h0 : 0 < ss.length) : ∃ g cap, v = .slice (some ⟨g, 0, none⟩) ss.length cap ∧ g < w.heap.size ∧ ∀ i, i < ss.length → w.cell? ⟨g, i, none⟩ = some (.string (ss.getD i ⟨#[]⟩)) := by
  obtain ⟨h1, h2⟩ := h
  rcases h2 with ⟨rfl, h2⟩ | ⟨g, cap, cur, rfl, hB, hg, hn, hm, hs, ht⟩
  · omega
  · refine ⟨g, cap, rfl, (Array.getElem?_eq_some_iff.1 hg).1, fun i hi => ?_⟩
    have e : w.cell? ⟨g, i, none⟩ = cur[i]? := by simp [World.cell?, hg]
    have e2 : (ss.map Value.string)[i]? = some (.string (ss.getD i ⟨#[]⟩)) := by rw [List.getElem?_map, List.getElem?_eq_getElem hi]; simp [List.getD, hi]
    rw [e, ← e2, ← ht, List.getElem?_take_of_lt (by omega)]
    simp
def kwA : List ByteArray := [⟨#[100, 101, 97, 108]⟩, ⟨#[115, 116, 97, 114, 116]⟩, ⟨#[104, 111, 108, 105, 100, 97, 121, 115]⟩, ⟨#[111, 98, 115, 101, 114, 118, 101]⟩, ⟨#[100, 101, 102]⟩, ⟨#[99, 111, 110, 116, 114, 97, 99, 116]⟩, ⟨#[122, 101, 114, 111]⟩, ⟨#[112, 97, 121]⟩, ⟨#[103, 105, 118, 101]⟩, ⟨#[115, 99, 97, 108, 101]⟩, ⟨#[100, 101, 108, 97, 121]⟩, ⟨#[97, 116]⟩, ⟨#[105, 102]⟩, ⟨#[101, 108, 115, 101]⟩, ⟨#[108, 101, 116]⟩, ⟨#[105, 110]⟩, ⟨#[102, 111, 114]⟩, ⟨#[101, 118, 101, 114, 121]⟩, ⟨#[102, 114, 111, 109]⟩, ⟨#[116, 111]⟩, ⟨#[115, 116, 101, 112]⟩]
def kwC : List ByteArray := [⟨#[102, 111, 108, 108, 111, 119, 105, 110, 103]⟩, ⟨#[109, 111, 100, 105, 102, 105, 101, 100]⟩, ⟨#[112, 114, 101, 99, 101, 100, 105, 110, 103]⟩, ⟨#[97, 99, 99, 117, 109, 117, 108, 97, 116, 101]⟩, ⟨#[98, 121]⟩, ⟨#[116, 104, 101, 110]⟩, ⟨#[119, 104, 101, 110]⟩, ⟨#[119, 105, 116, 104, 105, 110]⟩, ⟨#[97, 110, 100]⟩, ⟨#[116, 114, 117, 101]⟩, ⟨#[102, 97, 108, 115, 101]⟩, ⟨#[100, 97, 121]⟩, ⟨#[109, 105, 110]⟩, ⟨#[109, 97, 120]⟩, ⟨#[97, 98, 115]⟩, ⟨#[114, 97, 116, 105, 111]⟩, ⟨#[116, 104, 105, 114, 116, 121]⟩]
def kwD : List ByteArray := [⟨#[100, 111, 119, 110]⟩, ⟨#[102, 108, 111, 111, 114]⟩, ⟨#[99, 101, 105, 108]⟩, ⟨#[104, 97, 108, 102, 95, 117, 112]⟩, ⟨#[104, 97, 108, 102, 95, 101, 118, 101, 110]⟩]
def RKw (w : World) (e : Ending) (w' : World) : Prop := ∃ g cap, e = .returned (.slice (some ⟨g, 0, none⟩) 43 cap) ∧ (∀ i, i < 43 → w'.cell? ⟨g, i, none⟩ = some (.string ((kwA ++ kwC ++ kwD).getD i ⟨#[]⟩))) ∧ g < w'.heap.size ∧ Below w.heap.size w w'
theorem kw_bytes : (kwA ++ kwC ++ kwD).map lst = kwL := by rfl
theorem toList_lst (b : ByteArray) : b.toList = lst b := by obtain ⟨⟨l⟩⟩ := b; rw [ByteArray.toList_mk]; rfl
theorem kwB_hit {l : L} {i : Nat} (hi : i < 43) (h : lst ((kwA ++ kwC ++ kwD).getD i ⟨#[]⟩) = l) : kwB l = true := by
  unfold kwB
  refine decide_eq_true ?_
  rw [← kw_bytes, ← h]
  have hl : i < (kwA ++ kwC ++ kwD).length := hi
  rw [show (kwA ++ kwC ++ kwD).getD i ⟨#[]⟩ = (kwA ++ kwC ++ kwD)[i] by rw [List.getD_eq_getElem?_getD, List.getElem?_eq_getElem hl, Option.getD_some]]
  exact List.mem_map_of_mem (List.getElem_mem hl)
theorem kwB_miss {l : L} (h : ∀ i, i < 43 → lst ((kwA ++ kwC ++ kwD).getD i ⟨#[]⟩) ≠ l) : kwB l = false := by
  unfold kwB
  refine decide_eq_false ?_
  rw [← kw_bytes, List.mem_map]
  rintro ⟨b, hb, e⟩
  obtain ⟨i, hi, rfl⟩ := List.mem_iff_getElem.1 hb
  refine h i hi ?_
  rw [show (kwA ++ kwC ++ kwD).getD i ⟨#[]⟩ = (kwA ++ kwC ++ kwD)[i] by rw [List.getD_eq_getElem?_getD, List.getElem?_eq_getElem hi, Option.getD_some]]
  exact e
theorem head_l {s : ByteArray} (h0 : 0 < s.size) : (List.headD (lst s) 0).toNat = s[0].toNat := by
  rw [← nth_lst h0]
  cases hl : lst s <;> rfl
theorem allrn_of {s : ByteArray} (h : run (lst s) = lst s) : ∀ i, i < s.size → rnN (nthN (lst s) i) = true := fun i hi => run_in (by rw [h, lst_len]; exact hi)
theorem namV_err {p : Nat → Bool} {k : Int} {l : L} {a : Nat} : (namV p k l a).2.2 = (nameE p l).2 := by
  unfold namV; split
  · rename_i h; rw [h]
  · rfl
end Go.Proofs.YtpfjnnkjoabgbaaGreatDoor

namespace Go.Proofs.YtpfjnnkjoabgbaaGreatDoor
open Go.RowKit
set_option linter.unusedVariables false
set_option linter.unusedSimpArgs false
theorem Row.oneP {w : World} {a : Option Addr} {n k : Nat} {V : Nat → List Value} (h : Row w a n k V) : 0 < n → ∃ x o, a = some ⟨x, o, none⟩ ∧ x < w.heap.size ∧ ∀ i, i < n → ∀ j, j < k → w.cell? ⟨x, o + i * k + j, none⟩ = some ((V i).getD j default) := by
  intro h0
  rcases h with h | h
  · omega
  · exact h
def capP (s : ByteArray) : Bool := Lx.nameB Lx.cpN (lst s)
def curP (s : ByteArray) : Bool := Lx.curB (lst s)
theorem all_of {α : Type} [Inhabited α] {P : α → Bool} {l : List α} (h : ∀ i, i < l.length → P (l.getD i default) = true) : l.all P = true := by
  rw [List.all_eq_true]
  intro x hx
  obtain ⟨i, hi, rfl⟩ := List.getElem_of_mem hx
  have := h i hi
  simpa [List.getD, hi] using this
theorem not_all {α : Type} [Inhabited α] {P : α → Bool} {l : List α} {i : Nat} (hi : i < l.length) (h : P (l.getD i default) = false) : l.all P = false := by
  rw [List.all_eq_false]
  refine ⟨l[i], List.getElem_mem hi, ?_⟩
  have e : l.getD i default = l[i] := by simp [List.getD, hi]
  rw [e] at h
  simp [h]
theorem tx_mem {l : List ByteArray} {i : Nat} (h : i < l.length) : l.getD i default ∈ l := by
  rw [List.getD_eq_getElem?_getD, List.getElem?_eq_getElem h, Option.getD_some]; exact List.getElem_mem h
theorem cap_c (s : ByteArray) (h : s.size ≤ 140737488351232) (W : World) : Calls Tryz.prog 127 #[.string s] W fun e w' => e = .returned (.bool (capP s)) ∧ w' = W := capital_any s W (by omega)
theorem cur_c (s : ByteArray) (h : s.size ≤ 140737488351232) (W : World) : Calls Tryz.prog 129 #[.string s] W fun e w' => e = .returned (.bool (curP s)) ∧ w' = W := currency_any s W
theorem litC_any (s : ByteArray) (hs : s.size ≤ 140737488351232) (pb : Nat) (w : World) (hp : w.cell? ⟨pb, 0, none⟩ = some (.func (.func 127) #[] #[])) :
    Calls Tryz.prog 143 #[.string s, .pointer (some ⟨pb, 0, none⟩)] w fun e w' => e = .returned (.bool (!(capP s))) ∧ w' = w := by
  have KC := Lib.hid (cap_c s hs w)
  go_enter Tryz.func143, Tryz.ntmps143
  go_wp2_with (go_at_call 127; refine KC.out.mono ?_; rintro e w1 ⟨rfl, h2⟩; subst h2)
  go_ret
  exact ⟨rfl, rfl⟩
set_option maxRecDepth 100000 in
set_option maxHeartbeats 1000000 in
theorem indexC_any {w : World} {a : Option Addr} {n c : Nat} {ss : List ByteArray} (pb : Nat) (h : SR w a n c ss) (hp : w.cell? ⟨pb, 0, none⟩ = some (.func (.func 127) #[] #[])) :
    Calls Tryz.prog 151 #[.slice a n c, .func (.func 143) #[] #[.pointer (some ⟨pb, 0, none⟩)]] w fun e w' => (∃ i : Int, e = .returned (.int .i64 i) ∧ (ss.all capP = true → i = -1) ∧ (ss.all capP = false → 0 ≤ i)) ∧ w' = w := by
  obtain ⟨_, l1, b1, s1, r1⟩ := h
  have R1 := Lib.hid r1
  have L1 := Lib.hid l1
  have S1 := Lib.hid s1
  clear l1 r1 s1
  go_enter Tryz.func151, Tryz.ntmps151
  go_wp2
  go_loopw [8] (fun t wr => ∃ k : Nat, k ≤ n ∧ t = .int .i64 k ∧ RowKit.Hid (∀ i, i < k → capP (ss.getD i default) = true) ∧ w = wr) (fun t _ => n - (intOf t).toNat)
  case atStart => exact ⟨0, by omega, rfl, fun i hi => absurd hi (by omega), rfl⟩
  case round =>
    obtain ⟨k, hk, rfl, hE, rfl⟩ := hrel
    by_cases hlt : k < n
    · obtain ⟨x, o, rfl, _, hc⟩ := R1.out.oneP (by omega)
      have c0 := hc k hlt 0 (by omega)
      simp only [Nat.mul_one, Nat.add_zero, List.getD_cons_zero] at c0
      have kc : (k : Int) < (n : Int) := by omega
      have KC := Lib.hid (litC_any (ss.getD k default) (S1.out _ (tx_mem (by rw [L1.out]; exact hlt))) pb w hp)
      have NX := Lib.hid (p := capP (ss.getD k default) = true → ∀ i, i < k + 1 → capP (ss.getD i default) = true) (fun e i hi => by
        rcases (show i < k ∨ i = k by omega) with r | r
        · exact hE.out i r
        · rw [r]; exact e)
      have NA := Lib.hid (p := capP (ss.getD k default) = false → ss.all capP = false) (fun e => not_all (by rw [L1.out]; exact hlt) e)
      clear hc hE
      generalize ss.getD k default = z at *
      cases hb : capP z with
      | true =>
        rw [hb] at KC NX
        go_wp2_with (go_at_call 143; refine KC.out.mono ?_; rintro e w1 ⟨rfl, h2⟩; subst h2)
        go_roundw
        case rel => exact ⟨k + 1, by omega, by go_num, NX.out (by first | rfl | trivial), by first | rfl | trivial⟩
        case measure => simp [intOf]; omega
      | false =>
        rw [hb] at KC NA
        go_wp2_with (go_at_call 143; refine KC.out.mono ?_; rintro e w1 ⟨rfl, h2⟩; subst h2)
        go_ret
        exact ⟨⟨_, rfl, (fun e => by rw [NA.out (by first | rfl | trivial)] at e; cases e), (fun _ => by omega)⟩, rfl⟩
    · obtain rfl : k = n := by omega
      have AA := Lib.hid (p := ss.all capP = true) (all_of (fun i hi => hE.out i (by rw [L1.out] at hi; exact hi)))
      clear hE
      go_wp2
      go_ret
      exact ⟨⟨_, rfl, (fun _ => rfl), (fun e => by rw [AA.out] at e; cases e)⟩, rfl⟩
set_option maxRecDepth 100000 in
theorem containsC_any {w : World} {a : Option Addr} {n c : Nat} {ss : List ByteArray} (pb : Nat) (h : SR w a n c ss) (hp : w.cell? ⟨pb, 0, none⟩ = some (.func (.func 127) #[] #[])) :
    Calls Tryz.prog 142 #[.slice a n c, .func (.func 143) #[] #[.pointer (some ⟨pb, 0, none⟩)]] w fun e w' => e = .returned (.bool (!(ss.all capP))) ∧ w' = w := by
  have KI := Lib.hid (indexC_any pb h hp)
  clear h hp
  cases hb : ss.all capP with
  | true =>
    rw [hb] at KI
    go_enter Tryz.func142, Tryz.ntmps142
    go_wp2_with (go_at_call 151; refine KI.out.mono ?_; rintro e w1 ⟨⟨i, rfl, h1, _⟩, h2⟩; subst h2; obtain rfl := h1 rfl)
    go_ret
    exact ⟨rfl, rfl⟩
  | false =>
    rw [hb] at KI
    go_enter Tryz.func142, Tryz.ntmps142
    go_wp2_with (go_at_call 151; refine KI.out.mono ?_; rintro e w1 ⟨⟨i, rfl, _, h1⟩, h2⟩; subst h2; have i0 := h1 rfl; have i1 : decide (0 ≤ i) = true := decide_eq_true i0; clear h1)
    go_ret
    exact ⟨by first | rfl | simp [i1], rfl⟩
set_option maxRecDepth 100000 in
theorem eachC_any {w : World} {a : Option Addr} {n c : Nat} {ss : List ByteArray} (h : SR w a n c ss) :
    Calls Tryz.prog 126 #[.slice a n c, .func (.func 127) #[] #[]] w fun e w' => e = .returned (.bool (ss.all capP)) ∧ Below w.heap.size w w' := by
  have KC := Lib.hid (containsC_any w.heap.size (h.later (allocBP w (.cells #[.func (.func 127) #[] #[]] 166))) (by simp))
  clear h
  go_enter Tryz.func126, Tryz.ntmps126
  go_wp2_with (go_at_call 142; refine KC.out.mono ?_; rintro e w1 ⟨rfl, h2⟩; subst h2)
  go_ret
  exact ⟨by simp, allocBP w _⟩
theorem litU_any (s : ByteArray) (hs : s.size ≤ 140737488351232) (pb : Nat) (w : World) (hp : w.cell? ⟨pb, 0, none⟩ = some (.func (.func 129) #[] #[])) :
    Calls Tryz.prog 143 #[.string s, .pointer (some ⟨pb, 0, none⟩)] w fun e w' => e = .returned (.bool (!(curP s))) ∧ w' = w := by
  have KC := Lib.hid (cur_c s hs w)
  go_enter Tryz.func143, Tryz.ntmps143
  go_wp2_with (go_at_call 129; refine KC.out.mono ?_; rintro e w1 ⟨rfl, h2⟩; subst h2)
  go_ret
  exact ⟨rfl, rfl⟩
set_option maxRecDepth 100000 in
set_option maxHeartbeats 1000000 in
theorem indexU_any {w : World} {a : Option Addr} {n c : Nat} {ss : List ByteArray} (pb : Nat) (h : SR w a n c ss) (hp : w.cell? ⟨pb, 0, none⟩ = some (.func (.func 129) #[] #[])) :
    Calls Tryz.prog 151 #[.slice a n c, .func (.func 143) #[] #[.pointer (some ⟨pb, 0, none⟩)]] w fun e w' => (∃ i : Int, e = .returned (.int .i64 i) ∧ (ss.all curP = true → i = -1) ∧ (ss.all curP = false → 0 ≤ i)) ∧ w' = w := by
  obtain ⟨_, l1, b1, s1, r1⟩ := h
  have R1 := Lib.hid r1
  have L1 := Lib.hid l1
  have S1 := Lib.hid s1
  clear l1 r1 s1
  go_enter Tryz.func151, Tryz.ntmps151
  go_wp2
  go_loopw [8] (fun t wr => ∃ k : Nat, k ≤ n ∧ t = .int .i64 k ∧ RowKit.Hid (∀ i, i < k → curP (ss.getD i default) = true) ∧ w = wr) (fun t _ => n - (intOf t).toNat)
  case atStart => exact ⟨0, by omega, rfl, fun i hi => absurd hi (by omega), rfl⟩
  case round =>
    obtain ⟨k, hk, rfl, hE, rfl⟩ := hrel
    by_cases hlt : k < n
    · obtain ⟨x, o, rfl, _, hc⟩ := R1.out.oneP (by omega)
      have c0 := hc k hlt 0 (by omega)
      simp only [Nat.mul_one, Nat.add_zero, List.getD_cons_zero] at c0
      have kc : (k : Int) < (n : Int) := by omega
      have KC := Lib.hid (litU_any (ss.getD k default) (S1.out _ (tx_mem (by rw [L1.out]; exact hlt))) pb w hp)
      have NX := Lib.hid (p := curP (ss.getD k default) = true → ∀ i, i < k + 1 → curP (ss.getD i default) = true) (fun e i hi => by
        rcases (show i < k ∨ i = k by omega) with r | r
        · exact hE.out i r
        · rw [r]; exact e)
      have NA := Lib.hid (p := curP (ss.getD k default) = false → ss.all curP = false) (fun e => not_all (by rw [L1.out]; exact hlt) e)
      clear hc hE
      generalize ss.getD k default = z at *
      cases hb : curP z with
      | true =>
        rw [hb] at KC NX
        go_wp2_with (go_at_call 143; refine KC.out.mono ?_; rintro e w1 ⟨rfl, h2⟩; subst h2)
        go_roundw
        case rel => exact ⟨k + 1, by omega, by go_num, NX.out (by first | rfl | trivial), by first | rfl | trivial⟩
        case measure => simp [intOf]; omega
      | false =>
        rw [hb] at KC NA
        go_wp2_with (go_at_call 143; refine KC.out.mono ?_; rintro e w1 ⟨rfl, h2⟩; subst h2)
        go_ret
        exact ⟨⟨_, rfl, (fun e => by rw [NA.out (by first | rfl | trivial)] at e; cases e), (fun _ => by omega)⟩, rfl⟩
    · obtain rfl : k = n := by omega
      have AA := Lib.hid (p := ss.all curP = true) (all_of (fun i hi => hE.out i (by rw [L1.out] at hi; exact hi)))
      clear hE
      go_wp2
      go_ret
      exact ⟨⟨_, rfl, (fun _ => rfl), (fun e => by rw [AA.out] at e; cases e)⟩, rfl⟩
set_option maxRecDepth 100000 in
theorem containsU_any {w : World} {a : Option Addr} {n c : Nat} {ss : List ByteArray} (pb : Nat) (h : SR w a n c ss) (hp : w.cell? ⟨pb, 0, none⟩ = some (.func (.func 129) #[] #[])) :
    Calls Tryz.prog 142 #[.slice a n c, .func (.func 143) #[] #[.pointer (some ⟨pb, 0, none⟩)]] w fun e w' => e = .returned (.bool (!(ss.all curP))) ∧ w' = w := by
  have KI := Lib.hid (indexU_any pb h hp)
  clear h hp
  cases hb : ss.all curP with
  | true =>
    rw [hb] at KI
    go_enter Tryz.func142, Tryz.ntmps142
    go_wp2_with (go_at_call 151; refine KI.out.mono ?_; rintro e w1 ⟨⟨i, rfl, h1, _⟩, h2⟩; subst h2; obtain rfl := h1 rfl)
    go_ret
    exact ⟨rfl, rfl⟩
  | false =>
    rw [hb] at KI
    go_enter Tryz.func142, Tryz.ntmps142
    go_wp2_with (go_at_call 151; refine KI.out.mono ?_; rintro e w1 ⟨⟨i, rfl, _, h1⟩, h2⟩; subst h2; have i0 := h1 rfl; have i1 : decide (0 ≤ i) = true := decide_eq_true i0; clear h1)
    go_ret
    exact ⟨by first | rfl | simp [i1], rfl⟩
set_option maxRecDepth 100000 in
theorem eachU_any {w : World} {a : Option Addr} {n c : Nat} {ss : List ByteArray} (h : SR w a n c ss) :
    Calls Tryz.prog 126 #[.slice a n c, .func (.func 129) #[] #[]] w fun e w' => e = .returned (.bool (ss.all curP)) ∧ Below w.heap.size w w' := by
  have KC := Lib.hid (containsU_any w.heap.size (h.later (allocBP w (.cells #[.func (.func 129) #[] #[]] 166))) (by simp))
  clear h
  go_enter Tryz.func126, Tryz.ntmps126
  go_wp2_with (go_at_call 142; refine KC.out.mono ?_; rintro e w1 ⟨rfl, h2⟩; subst h2)
  go_ret
  exact ⟨by simp, allocBP w _⟩
end Go.Proofs.YtpfjnnkjoabgbaaGreatDoor

namespace Go.Proofs.YtpfjnnkjoabgbaaGreatDoor
open Go.RowKit
set_option linter.unusedVariables false
set_option linter.unusedSimpArgs false
def stV (l : List ByteArray) (i : Nat) : List Value := [.string (l.getD i default)]
def nuV (l : List Int) (i : Nat) : List Value := [.int .i64 (l.getD i 0)]
theorem flatV_st (l : List ByteArray) : l.map Value.string = flatV l.length (stV l) := by
  apply List.ext_getElem?
  intro j
  by_cases h : j < l.length
  · have := flatV_at (k := 1) (by omega) (stV l) l.length (fun _ _ => rfl) j h 0 (by omega)
    rw [Nat.mul_one, Nat.add_zero] at this
    rw [this]
    simp [stV, List.getD, h]
  · rw [List.getElem?_eq_none (by simp; omega), List.getElem?_eq_none (by rw [flatV_len (k := 1) (stV l) l.length (fun _ _ => rfl)]; omega)]
theorem flatV_nu (l : List Int) : zcs l = flatV l.length (nuV l) := by
  apply List.ext_getElem?
  intro j
  by_cases h : j < l.length
  · have := flatV_at (k := 1) (by omega) (nuV l) l.length (fun _ _ => rfl) j h 0 (by omega)
    rw [Nat.mul_one, Nat.add_zero] at this
    rw [this]
    simp [nuV, zcs, List.getD, h]
  · rw [List.getElem?_eq_none (by simp [zcs]; omega), List.getElem?_eq_none (by rw [flatV_len (k := 1) (nuV l) l.length (fun _ _ => rfl)]; omega)]
/-- An own row, as a list in memory; it stays as long as its block does. -/
theorem own_list {w : World} {B n k : Nat} {t : TypeId} {v : Value} {V : Nat → List Value} (hk : 0 < k) (hV : ∀ i, i < n → (V i).length = k) (h : w.ownsRow B t k v n (flatV n V)) : ∃ a cap, v = .slice a n cap ∧ Hd a n cap ∧ ∀ W, (∀ g, v.ownBlock = some g → W.heap[g]? = w.heap[g]?) → Row W a n k V := by
  rcases h.2 with ⟨rfl, h0⟩ | ⟨g, cap, cur, rfl, e2, e3, e4, e5, e6, e7⟩
  · subst h0
    exact ⟨none, 0, rfl, ⟨fun _ => ⟨rfl, rfl⟩, Nat.le_refl _, Nat.zero_le _⟩, fun W _ => .inl rfl⟩
  · refine ⟨some ⟨g, 0, none⟩, cap, rfl, ⟨fun z => (by cases z), e4, e5⟩, fun W hW => .inr ⟨g, 0, rfl, ?_, ?_⟩⟩
    · have := (hW g rfl).trans e3
      exact (Array.getElem?_eq_some_iff.1 this).1
    · exact (own_row hk hV (own_blkG h hW)).2.2.2.2.2
set_option maxRecDepth 100000 in
theorem cloneS_any {w : World} {a : Option Addr} {n c : Nat} {l : List ByteArray} (h : SR w a n c l) : Calls Tryz.prog 40 #[.slice a n c] w fun e w' => ∃ v', e = .returned v' ∧ w'.ownsRow w.heap.size 9 1 v' n (flatV n (stV l)) ∧ Below w.heap.size w w' := by
  obtain ⟨h1, h2, h3, h4, h5⟩ := h
  subst h2
  cases a with
  | none =>
    obtain ⟨z1, z2⟩ := h1.1 rfl
    have : l = [] := List.length_eq_zero_iff.1 z1
    subst this
    refine (Tryz.slices_Clone_string_nil 0 c w).mono ?_
    rintro e w' ⟨rfl, rfl⟩
    exact ⟨_, rfl, World.ownsRow_nil _ _ _ _, Below.refl _ _⟩
  | some ad =>
    rcases h5 with h5 | ⟨b, o, e, hb, hc⟩
    · have : l = [] := List.length_eq_zero_iff.1 h5
      subst this
      refine (Tryz.slices_Clone_string_zero ad c w).mono ?_
      rintro e w' ⟨v', rfl, q1, _, q2⟩
      exact ⟨_, rfl, q1, q2⟩
    · injection e with e
      subst e
      refine (Tryz.slices_Clone_string b o l.length c l w (Nat.le_refl _) (by omega) ?_).mono ?_
      · intro j hj
        have := hc j hj 0 (by omega)
        rw [Nat.mul_one, Nat.add_zero] at this
        rw [this]
        rfl
      · rintro e w' ⟨v', rfl, q1, _, q2⟩
        rw [List.take_length, flatV_st] at q1
        exact ⟨_, rfl, q1, q2⟩
set_option maxRecDepth 100000 in
theorem cloneN_any {w : World} {a : Option Addr} {n c : Nat} {l : List Int} (h : NR w a n c l) : Calls Tryz.prog 41 #[.slice a n c] w fun e w' => ∃ v', e = .returned v' ∧ w'.ownsRow w.heap.size 3 1 v' n (flatV n (nuV l)) ∧ Below w.heap.size w w' := by
  obtain ⟨h1, h2, h3, h4, h5⟩ := h
  subst h2
  cases a with
  | none =>
    obtain ⟨z1, z2⟩ := h1.1 rfl
    have : l = [] := List.length_eq_zero_iff.1 z1
    subst this
    refine (Tryz.slices_Clone_int_nil 0 c w).mono ?_
    rintro e w' ⟨rfl, rfl⟩
    exact ⟨_, rfl, World.ownsRow_nil _ _ _ _, Below.refl _ _⟩
  | some ad =>
    rcases h5 with h5 | ⟨b, o, e, hb, hc⟩
    · have : l = [] := List.length_eq_zero_iff.1 h5
      subst this
      refine (Tryz.slices_Clone_int_zero ad c w).mono ?_
      rintro e w' ⟨v', rfl, q1, _, q2⟩
      exact ⟨_, rfl, q1, q2⟩
    · injection e with e
      subst e
      refine (Tryz.slices_Clone_int b o l.length c l w (Nat.le_refl _) (by omega) ?_).mono ?_
      · intro j hj
        have := hc j hj 0 (by omega)
        rw [Nat.mul_one, Nat.add_zero] at this
        rw [this]
        rfl
      · rintro e w' ⟨v', rfl, q1, _, q2⟩
        rw [List.take_length] at q1
        have e : l.map (fun n => Value.int IntKind.i64 n) = flatV l.length (nuV l) := flatV_nu l
        exact ⟨_, rfl, by rw [← e]; exact q1, q2⟩
set_option maxRecDepth 100000 in
set_option maxHeartbeats 1600000 in
theorem cloneI_any {w : World} {a : Option Addr} {n c : Nat} {l : List In} (h : IR w a n c l) : Calls Tryz.prog 43 #[.slice a n c] w fun e w' => ∃ v', e = .returned v' ∧ w'.ownsRow w.heap.size 68 3 v' n (flatV n (inW l)) ∧ Below w.heap.size w w' := by
  obtain ⟨h1, h2, h3, h4, h5⟩ := h
  obtain ⟨i0, hi, hz0, hz1, hz2⟩ := info_parts infoIn
  cases a with
  | none =>
    obtain ⟨rfl, rfl⟩ := h1.1 rfl
    have N := Lib.hid (World.ownsRow_nil w w.heap.size 68 3)
    have nn : ∀ W, (binOp .eql 69 (.slice none 0 0) (.slice none 0 0)).run Tryz.prog W = .ok (.bool true) W := fun W => Lib.run_eql_slice_nil W 69 68 none 0 0 0 0 (by kernel_rfl)
    go_enter Tryz.func43, Tryz.ntmps43
    go_wp2
    go_ret
    exact ⟨_, rfl, N.out, Below.refl _ _⟩
  | some ad =>
    have nn : ∀ W, (binOp .eql 69 (.slice (some ad) n c) (.slice none 0 0)).run Tryz.prog W = .ok (.bool false) W := fun W => Lib.run_eql_slice_nil W 69 68 (some ad) n c 0 0 (by kernel_rfl)
    have nw : ∀ j u, (flatV n (inW l))[j]? = some u → (w.alloc (.cells #[] 68)).cell? (ad.add j) = some u := by
      rcases h5 with rfl | ⟨b, o, e, hb, hc⟩
      · intro j u hj; simp [flatV] at hj
      · injection e with e
        subst e
        exact row_news (by omega) (fun i _ => inW_len l i) (fun i hi j hj => by rw [(allocBP w (.cells #[] 68)).cell (p := ⟨b, o + i * 3 + j, none⟩) hb]; exact hc i hi j hj)
    have NW := Lib.hid nw
    have LN := Lib.hid (flatV_len (k := 3) (inW l) n (fun i _ => inW_len l i))
    have ON := Lib.hid (flatV_one (k := 3) (inW l) n (fun i _ => inW_one l i))
    have OW := Lib.hid (World.ownsRow_made (e := 68) (size := 3) w #[] 0 (Nat.le_refl w.heap.size) (by unfold maxLen; omega) rfl)
    have M := Lib.hid (p := 0 + n ≤ maxLen ∧ (0 + n) * 24 ≤ 140737488355328 ∧ w.heap.size ≤ (w.alloc (.cells #[] 68)).heap.size) ⟨by unfold maxLen; omega, by omega, by simp⟩
    have FE := Lib.hid (p := ∀ v' w', w'.ownsRow w.heap.size 68 3 v' (0 + n) ([] ++ flatV n (inW l)) → (w.alloc (.cells #[] 68)).grownBy w' (some w.heap.size) → w'.ownsRow w.heap.size 68 3 v' n (flatV n (inW l)) ∧ Below w.heap.size w w') (fun v' w' q g => by
      rw [Nat.zero_add, List.nil_append] at q
      refine ⟨q, ⟨g.os, g.tape, g.output, by have := g.size; simp at this; omega, fun x hx => ?_⟩⟩
      exact (g.block x (by simp; omega) (by intro z; injection z with z; omega)).trans ((allocBP w (.cells #[] 68)).block x hx))
    clear nw h1 h2 h3 h4 h5
    generalize flatV n (inW l) = fl at *
    go_enter Tryz.func43, Tryz.ntmps43
    go_wp2_with (at_builtin; refine wpList_append_own _ rfl _ _ 69 rfl w.heap.size 68 i0 (.agg #[.int .i64 0, .int .i64 0, .int .i64 0]) 3 24 Tryz.underlying69 hi hz0 hz1 hz2 rfl (by decide) _ 0 [] rfl OW.out ad n c fl rfl LN.out NW.out ON.out M.out.1 M.out.2.1 M.out.2.2 ?_; intro v' w' q1 q2 _; have Q := Lib.hid (FE.out v' w' q1 q2); clear q1 q2)
    go_ret
    exact ⟨_, rfl, Q.out.1, Q.out.2⟩
set_option maxRecDepth 100000 in
set_option maxHeartbeats 1600000 in
theorem cloneG_any {w : World} {a : Option Addr} {n c : Nat} {l : List Sg} (h1 : Hd a n c) (h3 : n ≤ 4398046510976) (h5 : Row w a n 2 (fun i => (l.getD i default).cs)) : Calls Tryz.prog 42 #[.slice a n c] w fun e w' => ∃ v', e = .returned v' ∧ w'.ownsRow w.heap.size 71 2 v' n (flatV n (sgV l)) ∧ Below w.heap.size w w' := by
  obtain ⟨i0, hi, hz0, hz1, hz2⟩ := info_parts infoSg
  cases a with
  | none =>
    obtain ⟨rfl, rfl⟩ := h1.1 rfl
    have N := Lib.hid (World.ownsRow_nil w w.heap.size 71 2)
    have nn : ∀ W, (binOp .eql 24 (.slice none 0 0) (.slice none 0 0)).run Tryz.prog W = .ok (.bool true) W := fun W => Lib.run_eql_slice_nil W 24 71 none 0 0 0 0 (by kernel_rfl)
    go_enter Tryz.func42, Tryz.ntmps42
    go_wp2
    go_ret
    exact ⟨_, rfl, N.out, Below.refl _ _⟩
  | some ad =>
    have nn : ∀ W, (binOp .eql 24 (.slice (some ad) n c) (.slice none 0 0)).run Tryz.prog W = .ok (.bool false) W := fun W => Lib.run_eql_slice_nil W 24 71 (some ad) n c 0 0 (by kernel_rfl)
    have nw : ∀ j u, (flatV n (sgV l))[j]? = some u → (w.alloc (.cells #[] 71)).cell? (ad.add j) = some u := by
      rcases h5 with rfl | ⟨b, o, e, hb, hc⟩
      · intro j u hj; simp [flatV] at hj
      · injection e with e
        subst e
        exact row_news (by omega) (fun i _ => sgV_len l i) (fun i hi j hj => by rw [(allocBP w (.cells #[] 71)).cell (p := ⟨b, o + i * 2 + j, none⟩) hb]; exact hc i hi j hj)
    have NW := Lib.hid nw
    have LN := Lib.hid (flatV_len (k := 2) (sgV l) n (fun i _ => sgV_len l i))
    have ON := Lib.hid (flatV_one (k := 2) (sgV l) n (fun i _ => sgV_one l i))
    have OW := Lib.hid (World.ownsRow_made (e := 71) (size := 2) w #[] 0 (Nat.le_refl w.heap.size) (by unfold maxLen; omega) rfl)
    have M := Lib.hid (p := 0 + n ≤ maxLen ∧ (0 + n) * 32 ≤ 140737488355328 ∧ w.heap.size ≤ (w.alloc (.cells #[] 71)).heap.size) ⟨by unfold maxLen; omega, by omega, by simp⟩
    have FE := Lib.hid (p := ∀ v' w', w'.ownsRow w.heap.size 71 2 v' (0 + n) ([] ++ flatV n (sgV l)) → (w.alloc (.cells #[] 71)).grownBy w' (some w.heap.size) → w'.ownsRow w.heap.size 71 2 v' n (flatV n (sgV l)) ∧ Below w.heap.size w w') (fun v' w' q g => by
      rw [Nat.zero_add, List.nil_append] at q
      refine ⟨q, ⟨g.os, g.tape, g.output, by have := g.size; simp at this; omega, fun x hx => ?_⟩⟩
      exact (g.block x (by simp; omega) (by intro z; injection z with z; omega)).trans ((allocBP w (.cells #[] 71)).block x hx))
    clear nw h1 h3 h5
    generalize flatV n (sgV l) = fl at *
    go_enter Tryz.func42, Tryz.ntmps42
    go_wp2_with (at_builtin; refine wpList_append_own _ rfl _ _ 24 rfl w.heap.size 71 i0 (.agg #[.int .i64 0, .slice none 0 0]) 2 32 Tryz.underlying24 hi hz0 hz1 hz2 rfl (by decide) _ 0 [] rfl OW.out ad n c fl rfl LN.out NW.out ON.out M.out.1 M.out.2.1 M.out.2.2 ?_; intro v' w' q1 q2 _; have Q := Lib.hid (FE.out v' w' q1 q2); clear q1 q2)
    go_ret
    exact ⟨_, rfl, Q.out.1, Q.out.2⟩
end Go.Proofs.YtpfjnnkjoabgbaaGreatDoor
