/-
  WALKS: the document's keywords, Keyword, Small, Capital, Currency; LexWords.
-/
import Derived.Test.YtbhbbpbdnmhppaaDoorWRefLex1
import Derived.Test.YtbhbbpbdnmhppaaDoorWLexN
import Derived.Laws.AppendOwn
import Derived.Laws.AppendOwnNone
import Derived.Laws.OwnMore
import Derived.Maps.AppendAt
import Derived.OpenShut
namespace Go.Proofs.YtbhbbpbdnmhppaaDoor
open Go.RowKit Lx
set_option linter.unusedVariables false
set_option linter.unusedSimpArgs false

theorem infoStr : (Tryd.prog.info? 9).map (fun i => (i.zero, i.size, i.bytes)) = some (some (.string ⟨#[]⟩), 1, 16) := by kernel_rfl
theorem partsStr : ∃ i, Tryd.prog.info? 9 = some i ∧ i.zero = some (.string ⟨#[]⟩) ∧ i.size = 1 ∧ i.bytes = 16 := by
  have h := infoStr
  cases hq : Tryd.prog.info? 9 with
  | none => rw [hq] at h; cases h
  | some i =>
    rw [hq] at h
    simp only [Option.map_some, Option.some.injEq, Prod.mk.injEq] at h
    exact ⟨i, rfl, h.1, h.2.1, h.2.2⟩
abbrev OwS (w : World) (B : Nat) (v : Value) (ss : List ByteArray) : Prop := w.ownsRow B 9 1 v ss.length (ss.map .string)
/-- A list of texts, made at once. -/
theorem own_lit (w : World) (B : Nat) (hB : B ≤ w.heap.size) (ss : List ByteArray) (hl : ss.length ≤ 1000) : OwS (w.alloc (.cells (ss.map Value.string).toArray 9)) B (.slice (some ⟨w.heap.size, 0, none⟩) ss.length ss.length) ss := by
  refine ⟨by simp, .inr ⟨w.heap.size, ss.length, (ss.map Value.string).toArray, rfl, hB, World.alloc_heap_new w _, Nat.le_refl _, by unfold maxLen; omega, by simp, by simp [List.take_of_length_le]⟩⟩
theorem wp_strs {ops : Array Oper} {rest : List Oper} {o : Oper} {a : Act} {Q : Exit → Act → World → Prop} (w : World) (ys : List ByteArray) (N : Nat) (hN : N = w.heap.size) (hgd : o.guard = none) (s x : Operand)
    (ho : o.op = .call { callee := .builtin .append, args := #[s, x], argTypes := #[22, 22] }) (base : Nat) (v : Value) (ss : List ByteArray) (hs : a.eval s = v) (m : Nat) (hm : m = ys.length)
    (hx : a.eval x = .slice (some ⟨N, 0, none⟩) m m) (hown : OwS w base v ss) (hl : ss.length ≤ 1000) (hy : ys.length ≤ 1000) (h0 : 0 < ys.length) (hb : base ≤ w.heap.size) (C : Array Value) (hC : C = (ys.map Value.string).toArray)
    (h : ∀ v' w', OwS w' base v' (ss ++ ys) → Below base w w' → wpList Tryd.prog ops Q rest (a.put o.dst v') w') :
    wpList Tryd.prog ops Q (o :: rest) a (w.alloc (.cells C 9)) := by
  subst hN; subst hm; subst hC
  obtain ⟨i0, hi, hz0, hz1, hz2⟩ := partsStr
  refine wpList_append_own _ hgd s x 22 ho base 9 i0 _ 1 16 Tryd.underlying22 hi hz0 hz1 hz2 rfl (by decide) v _ _ hs (hown.alloc _) ⟨w.heap.size, 0, none⟩ ys.length ys.length (ys.map Value.string) hx (by simp) ?_ ?_ (by unfold maxLen; omega) (by omega) (by simp; omega) ?_
  · intro j u hj
    have e : ((⟨w.heap.size, 0, none⟩ : Addr).add j) = ⟨w.heap.size, j, none⟩ := by unfold Addr.add; rw [Nat.zero_add]; split <;> simp_all
    rw [e, World.cell?_alloc_at _ _ _ _ rfl]
    simpa using hj
  · intro u hu
    obtain ⟨b, _, rfl⟩ := List.mem_map.1 hu
    rfl
  · intro v' w' h1 h2 _
    refine h v' w' ?_ ?_
    · unfold OwS
      rw [List.length_append, List.map_append]
      exact h1
    · exact ((Below.refl _ w).alloc hb _).grown h2 (by simp; omega) (fun k e => by
        rcases hown.2 with ⟨rfl, _⟩ | ⟨g, c, cur, rfl, hB, _⟩
        · simp [Value.ownBlock] at e
        · simp [Value.ownBlock] at e; omega)
theorem ows_read {w : World} {B : Nat} {v : Value} {ss : List ByteArray} (h : OwS w B v ss) (h0 : 0 < ss.length) : ∃ g cap, v = .slice (some ⟨g, 0, none⟩) ss.length cap ∧ g < w.heap.size ∧ ∀ i, i < ss.length → w.cell? ⟨g, i, none⟩ = some (.string (ss.getD i ⟨#[]⟩)) := by
  obtain ⟨h1, h2⟩ := h
  rcases h2 with ⟨rfl, h2⟩ | ⟨g, cap, cur, rfl, hB, hg, hn, hm, hs, ht⟩
  · omega
  · refine ⟨g, cap, rfl, (Array.getElem?_eq_some_iff.1 hg).1, fun i hi => ?_⟩
    have e : w.cell? ⟨g, i, none⟩ = cur[i]? := by simp [World.cell?, hg]
    have e2 : (ss.map Value.string)[i]? = some (.string (ss.getD i ⟨#[]⟩)) := by rw [List.getElem?_map, List.getElem?_eq_getElem hi]; simp [List.getD, hi]
    rw [e, ← e2, ← ht, List.getElem?_take_of_lt (by omega)]
    simp
def kwA : List ByteArray := [⟨#[100, 101, 97, 108]⟩, ⟨#[115, 116, 97, 114, 116]⟩, ⟨#[104, 111, 108, 105, 100, 97, 121, 115]⟩, ⟨#[111, 98, 115, 101, 114, 118, 101]⟩, ⟨#[100, 101, 102]⟩, ⟨#[99, 111, 110, 116, 114, 97, 99, 116]⟩, ⟨#[122, 101, 114, 111]⟩, ⟨#[112, 97, 121]⟩, ⟨#[103, 105, 118, 101]⟩, ⟨#[115, 99, 97, 108, 101]⟩, ⟨#[100, 101, 108, 97, 121]⟩, ⟨#[97, 116]⟩, ⟨#[105, 102]⟩, ⟨#[101, 108, 115, 101]⟩, ⟨#[108, 101, 116]⟩, ⟨#[105, 110]⟩, ⟨#[102, 111, 114]⟩, ⟨#[101, 118, 101, 114, 121]⟩, ⟨#[102, 114, 111, 109]⟩, ⟨#[116, 111]⟩, ⟨#[115, 116, 101, 112]⟩]
def kwC : List ByteArray := [⟨#[102, 111, 108, 108, 111, 119, 105, 110, 103]⟩, ⟨#[109, 111, 100, 105, 102, 105, 101, 100]⟩, ⟨#[112, 114, 101, 99, 101, 100, 105, 110, 103]⟩, ⟨#[97, 99, 99, 117, 109, 117, 108, 97, 116, 101]⟩, ⟨#[98, 121]⟩, ⟨#[116, 104, 101, 110]⟩, ⟨#[119, 104, 101, 110]⟩, ⟨#[119, 105, 116, 104, 105, 110]⟩, ⟨#[97, 110, 100]⟩, ⟨#[116, 114, 117, 101]⟩, ⟨#[102, 97, 108, 115, 101]⟩, ⟨#[100, 97, 121]⟩, ⟨#[109, 105, 110]⟩, ⟨#[109, 97, 120]⟩, ⟨#[97, 98, 115]⟩, ⟨#[114, 97, 116, 105, 111]⟩, ⟨#[116, 104, 105, 114, 116, 121]⟩]
def kwD : List ByteArray := [⟨#[100, 111, 119, 110]⟩, ⟨#[102, 108, 111, 111, 114]⟩, ⟨#[99, 101, 105, 108]⟩, ⟨#[104, 97, 108, 102, 95, 117, 112]⟩, ⟨#[104, 97, 108, 102, 95, 101, 118, 101, 110]⟩]
def RKw (w : World) (e : Ending) (w' : World) : Prop := ∃ g cap, e = .returned (.slice (some ⟨g, 0, none⟩) 43 cap) ∧ (∀ i, i < 43 → w'.cell? ⟨g, i, none⟩ = some (.string ((kwA ++ kwC ++ kwD).getD i ⟨#[]⟩))) ∧ g < w'.heap.size ∧ Below w.heap.size w w'
theorem kw_bytes : (kwA ++ kwC ++ kwD).map lst = kwL := by rfl
theorem toList_lst (b : ByteArray) : b.toList = lst b := by obtain ⟨⟨l⟩⟩ := b; rw [ByteArray.toList_mk]; rfl
theorem kwB_hit {l : L} {i : Nat} (hi : i < 43) (h : lst ((kwA ++ kwC ++ kwD).getD i ⟨#[]⟩) = l) : kwB l = true := by
  unfold kwB
  refine decide_eq_true ?_
  rw [← kw_bytes, ← h]
  have hl : i < (kwA ++ kwC ++ kwD).length := hi
  rw [show (kwA ++ kwC ++ kwD).getD i ⟨#[]⟩ = (kwA ++ kwC ++ kwD)[i] by rw [List.getD_eq_getElem?_getD, List.getElem?_eq_getElem hl, Option.getD_some]]
  exact List.mem_map_of_mem (List.getElem_mem hl)
theorem kwB_miss {l : L} (h : ∀ i, i < 43 → lst ((kwA ++ kwC ++ kwD).getD i ⟨#[]⟩) ≠ l) : kwB l = false := by
  unfold kwB
  refine decide_eq_false ?_
  rw [← kw_bytes, List.mem_map]
  rintro ⟨b, hb, e⟩
  obtain ⟨i, hi, rfl⟩ := List.mem_iff_getElem.1 hb
  refine h i hi ?_
  rw [show (kwA ++ kwC ++ kwD).getD i ⟨#[]⟩ = (kwA ++ kwC ++ kwD)[i] by rw [List.getD_eq_getElem?_getD, List.getElem?_eq_getElem hi, Option.getD_some]]
  exact e
theorem head_l {s : ByteArray} (h0 : 0 < s.size) : (List.headD (lst s) 0).toNat = s[0].toNat := by
  rw [← nth_lst h0]
  cases hl : lst s <;> rfl
theorem allrn_of {s : ByteArray} (h : run (lst s) = lst s) : ∀ i, i < s.size → rnN (nthN (lst s) i) = true := fun i hi => run_in (by rw [h, lst_len]; exact hi)
theorem namV_err {p : Nat → Bool} {k : Int} {l : L} {a : Nat} : (namV p k l a).2.2 = (nameE p l).2 := by
  unfold namV; split
  · rename_i h; rw [h]
  · rfl
set_option maxHeartbeats 2000000 in
theorem rcapitalName_any (s : ByteArray) (w : World) (hs : s.size ≤ 9223372036854775807) : Calls Tryd.prog 69 #[.string s] w fun e w' => e = .returned (.bool (nameB cpN (lst s))) ∧ Below w.heap.size w w' := by
  by_cases h0 : s.size = 0
  · have e0 : (lst s).isEmpty = true := by
      have := lst_len s
      cases hl : lst s with
      | nil => rfl
      | cons c q => rw [hl] at this; simp at this; omega
    have e1 : s.toList.isEmpty = true := by rw [isEmpty_lst]; exact e0
    have nb : nameB cpN (lst s) = false := by unfold nameB; rw [e0]; rfl
    rw [show (nameB cpN (lst s)) = false by rw [nb]]
    clear e0 nb
    go_enter Tryd.func69, Tryd.ntmps69
    go_wp2
    go_ret
    exact ⟨rfl, Below.refl _ _⟩
  · have h1 : 0 < s.size := by omega
    have e0 : (lst s).isEmpty = false := by
      have := lst_len s
      cases hl : lst s with
      | nil => rw [hl] at this; simp at this; omega
      | cons c q => rfl
    have e1 : s.toList.isEmpty = false := by rw [isEmpty_lst]; exact e0
    have EH := head_l h1
    have KL := Lib.hid (fun W => rcapital_any (s[0].toNat) W)
    have NB : nameB cpN (lst s) = (cpN (s[0].toNat) && decide ((nameE cpN (lst s)).2 = 0)) := by unfold nameB; rw [e0, EH]; rfl
    cases hp : cpN (s[0].toNat) with
    | false =>
      rw [hp] at KL NB
      rw [show (nameB cpN (lst s)) = false by rw [NB]; rfl]
      clear e0 EH NB hp
      go_enter Tryd.func69, Tryd.ntmps69
      go_wp2_with (go_at_call 86; refine (KL.out _).mono ?_; rintro e w1 ⟨rfl, rfl⟩)
      go_ret
      exact ⟨rfl, Below.refl _ _⟩
    | true =>
      rw [hp] at KL NB
      rw [Bool.true_and] at NB
      have KR := Lib.hid (fun W => rrun_any s 0 W hs (by omega))
      rw [List.drop_zero] at KR
      change RowKit.Hid (∀ W, Calls Tryd.prog 87 #[.string s, .int .i64 0] W fun e w' => e = .returned (.string (bs (run (lst s)))) ∧ w' = W) at KR
      by_cases hr : run (lst s) = lst s
      · have hcp : cpN (nthN (lst s) 0) = true := by rw [nth_lst h1]; exact hp
        have KN := Lib.hid (fun W => rnames_capital s 0 W h1 (by omega) (allrn_of hr) hcp)
        rw [hr, bs_lst] at KR
        have VE := namV_err (p := cpN) (k := 2) (l := lst s) (a := 0)
        change RowKit.Hid (∀ W, Calls Tryd.prog 88 #[.string s, .int .i64 0] W fun e w' => e = trEnd (namV cpN 2 (lst s) 0) ∧ Below W.heap.size W w') at KN
        generalize namV cpN 2 (lst s) 0 = V at *
        obtain ⟨T0, P, E⟩ := V
        obtain ⟨tk, tt, ta, tn, ty, tm, td, tnn, tu⟩ := T0
        simp only at VE
        simp only [trEnd, tokR] at KN
        generalize bs tt = st at *
        skip
        by_cases he : E = 0
        · subst he
          have NB' : nameB cpN (lst s) = true := by rw [NB, ← VE]; rfl
          rw [show (nameB cpN (lst s)) = true by rw [NB']]
          clear e0 EH NB hp hr hcp VE NB' 
          go_enter Tryd.func69, Tryd.ntmps69
          go_wp2_with (first | (go_at_call 86; refine (KL.out _).mono ?_; rintro e w1 ⟨rfl, hw⟩; have hw' := hw.symm; clear hw; subst hw') | (go_at_call 87; refine (KR.out _).mono ?_; rintro e w1 ⟨rfl, hw⟩; have hw' := hw.symm; clear hw; subst hw') | (go_at_call 88; refine (KN.out _).mono ?_; rintro e w2 ⟨rfl, b2⟩; have B2 := Lib.hid (b2.alloc b2.size (.cells #[.int .i64 tk, .string st, .int .i64 ta, .int .i64 tn, .int .i64 ty, .int .i64 tm, .int .i64 td, .int .i64 tnn, .int .i64 tu] 155)); clear b2))
          go_ret
          exact ⟨rfl, B2.out⟩
        · have NB' : nameB cpN (lst s) = false := by rw [NB, ← VE]; exact decide_eq_false he
          rw [show (nameB cpN (lst s)) = false by rw [NB']]
          have er0 : (E == 0) = false := by rw [beq_eq_false_iff_ne]; exact he
          clear e0 EH NB hp hr hcp VE NB' 
          go_enter Tryd.func69, Tryd.ntmps69
          go_wp2_with (first | (go_at_call 86; refine (KL.out _).mono ?_; rintro e w1 ⟨rfl, hw⟩; have hw' := hw.symm; clear hw; subst hw') | (go_at_call 87; refine (KR.out _).mono ?_; rintro e w1 ⟨rfl, hw⟩; have hw' := hw.symm; clear hw; subst hw') | (go_at_call 88; refine (KN.out _).mono ?_; rintro e w2 ⟨rfl, b2⟩; have B2 := Lib.hid (b2.alloc b2.size (.cells #[.int .i64 tk, .string st, .int .i64 ta, .int .i64 tn, .int .i64 ty, .int .i64 tm, .int .i64 td, .int .i64 tnn, .int .i64 tu] 155)); clear b2))
          go_ret
          exact ⟨by simp [he], B2.out⟩
      · have NB' : nameB cpN (lst s) = false := by
          rw [NB]; refine decide_eq_false (fun h => hr (run_name (fun c => rn_cp) h))
        rw [show (nameB cpN (lst s)) = false by rw [NB']]
        have ne : ((bs (run (lst s))).toList == s.toList) = false := by rw [beq_eq_false_iff_ne, toList_lst, toList_lst, lst_bs]; exact hr
        have ne' : ¬ (bs (run (lst s))).toList = s.toList := by rw [toList_lst, toList_lst, lst_bs]; exact hr
        generalize bs (run (lst s)) = sR at *
        clear e0 EH NB hp hr NB'
        go_enter Tryd.func69, Tryd.ntmps69
        go_wp2_with (first | (go_at_call 86; refine (KL.out _).mono ?_; rintro e w1 ⟨rfl, hw⟩; have hw' := hw.symm; clear hw; subst hw') | (go_at_call 87; refine (KR.out _).mono ?_; rintro e w1 ⟨rfl, hw⟩; have hw' := hw.symm; clear hw; subst hw'))
        go_ret
        exact ⟨rfl, Below.refl _ _⟩
set_option maxHeartbeats 1000000 in
theorem rcurrency_any (s : ByteArray) (w : World) : Calls Tryd.prog 70 #[.string s] w fun e w' => e = .returned (.bool (curB (lst s))) ∧ w' = w := by
  by_cases h3 : s.size = 3
  · have h3' : (s.size : Int) = 3 := by omega
    have hb : ((s.size : Int) == 3) = true := by rw [h3]; rfl
    have z0 : 0 < s.size := by omega
    have z1 : 1 < s.size := by omega
    have z2 : 2 < s.size := by omega
    have EC : curB (lst s) = (cpN (s[0]'z0).toNat && cpN (s[1]'z1).toNat && cpN (s[2]'z2).toNat) := by rw [three_of h3]; rfl
    rw [EC]
    clear EC
    have K0 := Lib.hid (fun W => rcapital_any (s[0].toNat) W)
    have K1 := Lib.hid (fun W => rcapital_any (s[1].toNat) W)
    have K2 := Lib.hid (fun W => rcapital_any (s[2].toNat) W)
    cases c0 : cpN (s[0].toNat) with
    | false =>
      rw [c0] at K0
      clear h3 h3'
      go_enter Tryd.func70, Tryd.ntmps70
      go_wp2_with (go_at_call 86; refine (K0.out _).mono ?_; rintro e w1 ⟨rfl, rfl⟩)
      go_ret
      exact ⟨rfl, rfl⟩
    | true =>
      rw [c0] at K0
      cases c1 : cpN (s[1].toNat) with
      | false =>
        rw [c1] at K1
        clear h3 h3'
        go_enter Tryd.func70, Tryd.ntmps70
        go_wp2_with (first
          | (go_at_call 86; have qq := K0; refine (K0.out _).mono ?_; rintro e w1 ⟨rfl, rfl⟩; clear K0)
          | (go_at_call 86; refine (K1.out _).mono ?_; rintro e w1 ⟨rfl, rfl⟩))
        go_ret
        exact ⟨rfl, rfl⟩
      | true =>
        rw [c1] at K1
        generalize cpN (s[2].toNat) = b2 at *
        clear h3 h3'
        go_enter Tryd.func70, Tryd.ntmps70
        go_wp2_with (first
          | (go_at_call 86; have qq := K0; refine (K0.out _).mono ?_; rintro e w1 ⟨rfl, rfl⟩; clear K0)
          | (go_at_call 86; have qq := K1; refine (K1.out _).mono ?_; rintro e w1 ⟨rfl, rfl⟩; clear K1)
          | (go_at_call 86; refine (K2.out _).mono ?_; rintro e w1 ⟨rfl, rfl⟩))
        go_ret
        exact ⟨rfl, rfl⟩
  · have h3' : ¬ (s.size : Int) = 3 := by omega
    have hb : ((s.size : Int) == 3) = false := by rw [beq_eq_false_iff_ne]; exact h3'
    have e : curB (lst s) = false := by
      have := lst_len s
      match hl : lst s with
      | [] => rfl
      | [a] => rfl
      | [a, b] => rfl
      | [a, b, c] => rw [hl] at this; simp at this; omega
      | a :: b :: c :: d :: q => rfl
    rw [e]
    clear e h3
    go_enter Tryd.func70, Tryd.ntmps70
    go_wp2
    go_ret
    exact ⟨rfl, rfl⟩
end Go.Proofs.YtbhbbpbdnmhppaaDoor
