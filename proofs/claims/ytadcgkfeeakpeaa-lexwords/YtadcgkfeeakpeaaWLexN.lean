/-
  WALKS: keywords, Keyword, isName, Small, Capital, Currency.
-/
import Derived.Test.YtadcgkfeeakpeaaWLexN1
import Derived.Maps.OwnSet
namespace Go.Proofs.Ytadcgkfeeakpeaa
open Go.RowKit Go.Maps Lx
set_option linter.unusedVariables false
set_option linter.unusedSimpArgs false

def litS (c : ByteArray) : Lit := .string c.data.toList
theorem litS_ne {c c' : ByteArray} (h : lst c' ≠ lst c) : litS c' ≠ litS c := fun e => h (by
  unfold litS at e
  injection e with e)
theorem lawS : Keyed Try.prog 9 := string_keyed Try.underlying9
theorem keyS {c : ByteArray} (h : c.size ≤ 9223372036854775807) : keyOf Try.prog 9 (.string c) = some (litS c) := WideMaps.keyOf_string_mk Try.underlying9 (by unfold maxLen; omega)
theorem zeroU (w : World) : (zeroValue 23).run Try.prog w = .ok (.agg #[]) w := by kernel_rfl
theorem make_set (W : World) : (Instr.makeMap 25 none).run Try.prog W = .ok (.map (some W.heap.size)) (W.alloc (.map #[] 0)) := by
  simp [Instr.makeMap, run_underlying Try.underlying25]
/-- A set of texts in memory. -/
structure KSet (w0 w : World) (mb : Nat) (ks : List L) : Prop where
  ow : ∃ D : DataW Unit, w.ownsMap Try.prog 9 unitElem mb ks.length D ∧ IsMap D ∧ ∀ c, Maps.has D (litS c) = decide (lst c ∈ ks)
  bel : Below w0.heap.size w0 w
  low : w0.heap.size ≤ mb
  lt : mb < w.heap.size
theorem kset_new (w : World) : KSet w (w.alloc (.map #[] 0)) w.heap.size [] :=
  ⟨⟨.map [], World.ownsMap_made w Try.prog 9 (unitElem (H := Unit)), isMap_empty, fun c => rfl⟩, (Below.refl _ w).alloc (Nat.le_refl _) _, Nat.le_refl _, by simp⟩
theorem kw_run {w0 w : World} {mb : Nat} {ks : List L} (h : Hid (KSet w0 w mb ks)) (hl : ks.length ≤ 1000) (key : ByteArray) (hz : key.size ≤ 1000) :
    ∃ w', (Instr.mapUpdate 25 (.map (some mb)) (.string key) (.agg #[])).run Try.prog w = .ok () w' ∧ Hid (KSet w0 w' mb (lst key :: ks)) := by
  obtain ⟨⟨D, h1, h2, h3⟩, h4, h5, h6⟩ := h.out
  obtain ⟨w', hrun, r1, r2⟩ := h1.update (t := 25) (e := 23) lawS Try.underlying25 (by unfold maxLen; omega) (key := .string key) (val := .agg #[]) (keyS (by omega)) unitElem_mk
  refine ⟨w', hrun, ⟨⟨_, r1, h2.put _ _, fun c => ?_⟩, h4.grown r2 h4.size (fun k e => by cases e; exact h5), h5, Nat.lt_of_lt_of_le h6 r2.size⟩⟩
  by_cases e : lst c = lst key
  · rw [show litS c = litS key by unfold litS; exact congrArg Lit.string e, has_put_same h2 (k := litS key) trivial, e]; simp
  · rw [has_put_other (litS_ne e), h3]; simp [e]
theorem kw_rev (l : L) : decide (l ∈ kwL.reverse) = kwB l := by
  unfold kwB
  by_cases h : l ∈ kwL
  · rw [decide_eq_true h, decide_eq_true (List.mem_reverse.2 h)]
  · rw [decide_eq_false h, decide_eq_false (fun k => h (List.mem_reverse.1 k))]
set_option maxRecDepth 100000 in
set_option maxHeartbeats 8000000 in
theorem keywords_any (w : World) : Calls Try.prog 12 #[] w fun e w' => ∃ mb, e = .returned (.map (some mb)) ∧ KSet w w' mb kwL.reverse := by
  have hmk := make_set
  have zU := Lib.hid zeroU
  have K0 := Lib.hid (kset_new w)
  obtain ⟨w1, r1, K1⟩ := kw_run K0 (by decide) ⟨#[100, 101, 97, 108]⟩ (by decide)
  obtain ⟨w2, r2, K2⟩ := kw_run K1 (by decide) ⟨#[115, 116, 97, 114, 116]⟩ (by decide)
  clear K1
  obtain ⟨w3, r3, K3⟩ := kw_run K2 (by decide) ⟨#[104, 111, 108, 105, 100, 97, 121, 115]⟩ (by decide)
  clear K2
  obtain ⟨w4, r4, K4⟩ := kw_run K3 (by decide) ⟨#[111, 98, 115, 101, 114, 118, 101]⟩ (by decide)
  clear K3
  obtain ⟨w5, r5, K5⟩ := kw_run K4 (by decide) ⟨#[100, 101, 102]⟩ (by decide)
  clear K4
  obtain ⟨w6, r6, K6⟩ := kw_run K5 (by decide) ⟨#[99, 111, 110, 116, 114, 97, 99, 116]⟩ (by decide)
  clear K5
  obtain ⟨w7, r7, K7⟩ := kw_run K6 (by decide) ⟨#[122, 101, 114, 111]⟩ (by decide)
  clear K6
  obtain ⟨w8, r8, K8⟩ := kw_run K7 (by decide) ⟨#[112, 97, 121]⟩ (by decide)
  clear K7
  obtain ⟨w9, r9, K9⟩ := kw_run K8 (by decide) ⟨#[103, 105, 118, 101]⟩ (by decide)
  clear K8
  obtain ⟨w10, r10, K10⟩ := kw_run K9 (by decide) ⟨#[115, 99, 97, 108, 101]⟩ (by decide)
  clear K9
  obtain ⟨w11, r11, K11⟩ := kw_run K10 (by decide) ⟨#[100, 101, 108, 97, 121]⟩ (by decide)
  clear K10
  obtain ⟨w12, r12, K12⟩ := kw_run K11 (by decide) ⟨#[97, 116]⟩ (by decide)
  clear K11
  obtain ⟨w13, r13, K13⟩ := kw_run K12 (by decide) ⟨#[105, 102]⟩ (by decide)
  clear K12
  obtain ⟨w14, r14, K14⟩ := kw_run K13 (by decide) ⟨#[101, 108, 115, 101]⟩ (by decide)
  clear K13
  obtain ⟨w15, r15, K15⟩ := kw_run K14 (by decide) ⟨#[108, 101, 116]⟩ (by decide)
  clear K14
  obtain ⟨w16, r16, K16⟩ := kw_run K15 (by decide) ⟨#[105, 110]⟩ (by decide)
  clear K15
  obtain ⟨w17, r17, K17⟩ := kw_run K16 (by decide) ⟨#[102, 111, 114]⟩ (by decide)
  clear K16
  obtain ⟨w18, r18, K18⟩ := kw_run K17 (by decide) ⟨#[101, 118, 101, 114, 121]⟩ (by decide)
  clear K17
  obtain ⟨w19, r19, K19⟩ := kw_run K18 (by decide) ⟨#[102, 114, 111, 109]⟩ (by decide)
  clear K18
  obtain ⟨w20, r20, K20⟩ := kw_run K19 (by decide) ⟨#[116, 111]⟩ (by decide)
  clear K19
  obtain ⟨w21, r21, K21⟩ := kw_run K20 (by decide) ⟨#[115, 116, 101, 112]⟩ (by decide)
  clear K20
  obtain ⟨w22, r22, K22⟩ := kw_run K21 (by decide) ⟨#[102, 111, 108, 108, 111, 119, 105, 110, 103]⟩ (by decide)
  clear K21
  obtain ⟨w23, r23, K23⟩ := kw_run K22 (by decide) ⟨#[109, 111, 100, 105, 102, 105, 101, 100]⟩ (by decide)
  clear K22
  obtain ⟨w24, r24, K24⟩ := kw_run K23 (by decide) ⟨#[112, 114, 101, 99, 101, 100, 105, 110, 103]⟩ (by decide)
  clear K23
  obtain ⟨w25, r25, K25⟩ := kw_run K24 (by decide) ⟨#[97, 99, 99, 117, 109, 117, 108, 97, 116, 101]⟩ (by decide)
  clear K24
  obtain ⟨w26, r26, K26⟩ := kw_run K25 (by decide) ⟨#[98, 121]⟩ (by decide)
  clear K25
  obtain ⟨w27, r27, K27⟩ := kw_run K26 (by decide) ⟨#[116, 104, 101, 110]⟩ (by decide)
  clear K26
  obtain ⟨w28, r28, K28⟩ := kw_run K27 (by decide) ⟨#[119, 104, 101, 110]⟩ (by decide)
  clear K27
  obtain ⟨w29, r29, K29⟩ := kw_run K28 (by decide) ⟨#[119, 105, 116, 104, 105, 110]⟩ (by decide)
  clear K28
  obtain ⟨w30, r30, K30⟩ := kw_run K29 (by decide) ⟨#[97, 110, 100]⟩ (by decide)
  clear K29
  obtain ⟨w31, r31, K31⟩ := kw_run K30 (by decide) ⟨#[116, 114, 117, 101]⟩ (by decide)
  clear K30
  obtain ⟨w32, r32, K32⟩ := kw_run K31 (by decide) ⟨#[102, 97, 108, 115, 101]⟩ (by decide)
  clear K31
  obtain ⟨w33, r33, K33⟩ := kw_run K32 (by decide) ⟨#[100, 97, 121]⟩ (by decide)
  clear K32
  obtain ⟨w34, r34, K34⟩ := kw_run K33 (by decide) ⟨#[109, 105, 110]⟩ (by decide)
  clear K33
  obtain ⟨w35, r35, K35⟩ := kw_run K34 (by decide) ⟨#[109, 97, 120]⟩ (by decide)
  clear K34
  obtain ⟨w36, r36, K36⟩ := kw_run K35 (by decide) ⟨#[97, 98, 115]⟩ (by decide)
  clear K35
  obtain ⟨w37, r37, K37⟩ := kw_run K36 (by decide) ⟨#[114, 97, 116, 105, 111]⟩ (by decide)
  clear K36
  obtain ⟨w38, r38, K38⟩ := kw_run K37 (by decide) ⟨#[116, 104, 105, 114, 116, 121]⟩ (by decide)
  clear K37
  obtain ⟨w39, r39, K39⟩ := kw_run K38 (by decide) ⟨#[100, 111, 119, 110]⟩ (by decide)
  clear K38
  obtain ⟨w40, r40, K40⟩ := kw_run K39 (by decide) ⟨#[102, 108, 111, 111, 114]⟩ (by decide)
  clear K39
  obtain ⟨w41, r41, K41⟩ := kw_run K40 (by decide) ⟨#[99, 101, 105, 108]⟩ (by decide)
  clear K40
  obtain ⟨w42, r42, K42⟩ := kw_run K41 (by decide) ⟨#[104, 97, 108, 102, 95, 117, 112]⟩ (by decide)
  clear K41
  obtain ⟨w43, r43, K43⟩ := kw_run K42 (by decide) ⟨#[104, 97, 108, 102, 95, 101, 118, 101, 110]⟩ (by decide)
  clear K42
  go_enter Try.func12, Try.ntmps12
  go_wp2
  go_ret
  exact ⟨_, rfl, K43.out⟩
theorem isEmpty_lst (s : ByteArray) : s.toList.isEmpty = (lst s).isEmpty := by
  obtain ⟨⟨l⟩⟩ := s
  rw [ByteArray.toList_mk]; rfl
set_option maxHeartbeats 1000000 in
theorem keyword_any (s : ByteArray) (w : World) (hs : s.size ≤ 9223372036854775807) : Calls Try.prog 4 #[.string s] w fun e w' => e = .returned (.bool (kwB (lst s))) ∧ Below w.heap.size w w' := by
  have KW := Lib.hid (keywords_any w)
  have kS : keyOf Try.prog 9 (.string s) = some (litS s) := keyS hs
  have zU := Lib.hid zeroU
  generalize hkB : kwB (lst s) = kb at *
  have HKB := Lib.hid hkB
  clear hkB
  go_enter Try.func4, Try.ntmps4
  go_wp2_with (first
    | (go_at_call 12; refine KW.out.mono ?_; rintro e w1 ⟨mb, rfl, hK⟩; obtain ⟨D, m1, m2, m3⟩ := hK.ow; have M1 := Lib.hid m1; have M3 := Lib.hid ((m3 s).trans (kw_rev _)); have B1 := Lib.hid hK.bel; clear hK m1 m2 m3)
    | (at_lookup; refine wpList_lookup_own_unit _ rfl _ _ 25 rfl 9 23 lawS Try.underlying25 (zU.out _) mb _ _ rfl M1.out _ _ rfl kS ?_; rw [M3.out, HKB.out]))
  go_ret
  exact ⟨rfl, B1.out.alloc B1.out.size _⟩

set_option maxHeartbeats 1000000 in
theorem isName_small (s : ByteArray) (w : World) (hs : s.size ≤ 9223372036854775807) :
    Calls Try.prog 14 #[.string s, .func (.func 15) #[] #[]] w fun e w' => e = .returned (.bool (nameB smN (lst s))) ∧ w' = w := by
  by_cases h0 : s.size = 0
  · have e0 : (lst s).isEmpty = true := by
      have := lst_len s
      cases hl : lst s with
      | nil => rfl
      | cons c q => rw [hl] at this; simp at this; omega
    have e1 : s.toList.isEmpty = true := by rw [isEmpty_lst]; exact e0
    rw [show nameB smN (lst s) = false by unfold nameB; rw [e0]; rfl]
    clear e0
    go_enter Try.func14, Try.ntmps14
    go_wp2
    go_ret
    exact ⟨rfl, rfl⟩
  · have h1 : 0 < s.size := by omega
    have e0 : (lst s).isEmpty = false := by
      have := lst_len s
      cases hl : lst s with
      | nil => rw [hl] at this; simp at this; omega
      | cons c q => rfl
    have e1 : s.toList.isEmpty = false := by rw [isEmpty_lst]; exact e0
    have EH : (List.headD (lst s) 0).toNat = s[0].toNat := by
      rw [← nth_lst h1]
      cases hl : lst s <;> rfl
    have KL := Lib.hid (fun W => isSmall_any (s[0].toNat) W)
    have NB : nameB smN (lst s) = (smN (s[0].toNat) && decide ((nameE smN (lst s)).2 = 0)) := by unfold nameB; rw [e0, EH]; rfl
    rw [NB]
    cases hp : smN (s[0].toNat) with
    | false =>
      rw [hp] at KL
      clear e0 EH NB hp
      go_enter Try.func14, Try.ntmps14
      go_wp2_with (go_at_call 15; refine (KL.out _).mono ?_; rintro e w1 ⟨rfl, rfl⟩)
      go_ret
      exact ⟨rfl, rfl⟩
    | true =>
      rw [hp] at KL
      have KN := Lib.hid (fun W => nameErrorM_small s W hs)
      clear e0 EH NB hp
      generalize nameE smN (lst s) = ne at *
      obtain ⟨ni, er⟩ := ne
      simp only at KN ⊢
      by_cases her : er = 0
      · subst her
        rw [decide_eq_true rfl]
        go_enter Try.func14, Try.ntmps14
        go_wp2_with (first
          | (go_at_call 15; refine (KL.out _).mono ?_; rintro e w1 ⟨rfl, rfl⟩)
          | (go_at_call 21; refine (KN.out _).mono ?_; rintro e w1 ⟨rfl, rfl⟩))
        go_ret
        exact ⟨rfl, rfl⟩
      · rw [decide_eq_false her]
        have er0 : (er == 0) = false := by rw [beq_eq_false_iff_ne]; exact her
        go_enter Try.func14, Try.ntmps14
        go_wp2_with (first
          | (go_at_call 15; refine (KL.out _).mono ?_; rintro e w1 ⟨rfl, rfl⟩)
          | (go_at_call 21; refine (KN.out _).mono ?_; rintro e w1 ⟨rfl, rfl⟩))
        go_ret
        exact ⟨by simp [her], rfl⟩

set_option maxHeartbeats 1000000 in
theorem isName_capital (s : ByteArray) (w : World) (hs : s.size ≤ 9223372036854775807) :
    Calls Try.prog 14 #[.string s, .func (.func 19) #[] #[]] w fun e w' => e = .returned (.bool (nameB cpN (lst s))) ∧ w' = w := by
  by_cases h0 : s.size = 0
  · have e0 : (lst s).isEmpty = true := by
      have := lst_len s
      cases hl : lst s with
      | nil => rfl
      | cons c q => rw [hl] at this; simp at this; omega
    have e1 : s.toList.isEmpty = true := by rw [isEmpty_lst]; exact e0
    rw [show nameB cpN (lst s) = false by unfold nameB; rw [e0]; rfl]
    clear e0
    go_enter Try.func14, Try.ntmps14
    go_wp2
    go_ret
    exact ⟨rfl, rfl⟩
  · have h1 : 0 < s.size := by omega
    have e0 : (lst s).isEmpty = false := by
      have := lst_len s
      cases hl : lst s with
      | nil => rw [hl] at this; simp at this; omega
      | cons c q => rfl
    have e1 : s.toList.isEmpty = false := by rw [isEmpty_lst]; exact e0
    have EH : (List.headD (lst s) 0).toNat = s[0].toNat := by
      rw [← nth_lst h1]
      cases hl : lst s <;> rfl
    have KL := Lib.hid (fun W => isCapital_any (s[0].toNat) W)
    have NB : nameB cpN (lst s) = (cpN (s[0].toNat) && decide ((nameE cpN (lst s)).2 = 0)) := by unfold nameB; rw [e0, EH]; rfl
    rw [NB]
    cases hp : cpN (s[0].toNat) with
    | false =>
      rw [hp] at KL
      clear e0 EH NB hp
      go_enter Try.func14, Try.ntmps14
      go_wp2_with (go_at_call 19; refine (KL.out _).mono ?_; rintro e w1 ⟨rfl, rfl⟩)
      go_ret
      exact ⟨rfl, rfl⟩
    | true =>
      rw [hp] at KL
      have KN := Lib.hid (fun W => nameErrorM_capital s W hs)
      clear e0 EH NB hp
      generalize nameE cpN (lst s) = ne at *
      obtain ⟨ni, er⟩ := ne
      simp only at KN ⊢
      by_cases her : er = 0
      · subst her
        rw [decide_eq_true rfl]
        go_enter Try.func14, Try.ntmps14
        go_wp2_with (first
          | (go_at_call 19; refine (KL.out _).mono ?_; rintro e w1 ⟨rfl, rfl⟩)
          | (go_at_call 21; refine (KN.out _).mono ?_; rintro e w1 ⟨rfl, rfl⟩))
        go_ret
        exact ⟨rfl, rfl⟩
      · rw [decide_eq_false her]
        have er0 : (er == 0) = false := by rw [beq_eq_false_iff_ne]; exact her
        go_enter Try.func14, Try.ntmps14
        go_wp2_with (first
          | (go_at_call 19; refine (KL.out _).mono ?_; rintro e w1 ⟨rfl, rfl⟩)
          | (go_at_call 21; refine (KN.out _).mono ?_; rintro e w1 ⟨rfl, rfl⟩))
        go_ret
        exact ⟨by simp [her], rfl⟩

def smlB (l : L) : Bool := nameB smN l && !kwB l
theorem small_any (s : ByteArray) (w : World) (hs : s.size ≤ 9223372036854775807) : Calls Try.prog 6 #[.string s] w fun e w' => e = .returned (.bool (smlB (lst s))) ∧ Below w.heap.size w w' := by
  have KI := Lib.hid (fun W => isName_small s W hs)
  have KK := Lib.hid (fun W => keyword_any s W hs)
  unfold smlB
  cases hn : nameB smN (lst s) with
  | false =>
    rw [hn] at KI
    clear hn
    go_enter Try.func6, Try.ntmps6
    go_wp2_with (go_at_call 14; refine (KI.out _).mono ?_; rintro e w1 ⟨rfl, rfl⟩)
    go_ret
    exact ⟨rfl, Below.refl _ _⟩
  | true =>
    rw [hn] at KI
    clear hn
    generalize kwB (lst s) = kb at *
    go_enter Try.func6, Try.ntmps6
    go_wp2_with (first
      | (go_at_call 14; refine (KI.out _).mono ?_; rintro e w1 ⟨rfl, rfl⟩)
      | (go_at_call 4; refine (KK.out _).mono ?_; rintro e w1 ⟨rfl, b1⟩; have B1 := Lib.hid b1; clear b1))
    go_ret
    exact ⟨rfl, B1.out⟩
theorem capital_any (s : ByteArray) (w : World) (hs : s.size ≤ 9223372036854775807) : Calls Try.prog 8 #[.string s] w fun e w' => e = .returned (.bool (nameB cpN (lst s))) ∧ w' = w := by
  have KI := Lib.hid (fun W => isName_capital s W hs)
  go_enter Try.func8, Try.ntmps8
  go_wp2_with (go_at_call 14; refine (KI.out _).mono ?_; rintro e w1 ⟨rfl, rfl⟩)
  go_ret
  exact ⟨rfl, rfl⟩
theorem three_of {s : ByteArray} (h : s.size = 3) : lst s = [s[0], s[1], s[2]] := by
  have hl := lst_len s
  apply List.ext_getElem
  · rw [hl]; exact h
  · intro i h1 h2
    have e : ∀ k (hk : k < s.size) (hk' : k < (lst s).length), (lst s)[k]'hk' = s[k]'hk := fun k hk hk' => by
      have := nth_lst hk
      simp only [nthN] at this
      rw [List.getD_eq_getElem?_getD, List.getElem?_eq_getElem hk', Option.getD_some] at this
      exact UInt8.toNat_inj.1 this
    match i, h1, h2 with
    | 0, h1, _ => exact e 0 (by omega) h1
    | 1, h1, _ => exact e 1 (by omega) h1
    | 2, h1, _ => exact e 2 (by omega) h1
set_option maxHeartbeats 1000000 in
theorem currency_any (s : ByteArray) (w : World) : Calls Try.prog 10 #[.string s] w fun e w' => e = .returned (.bool (curB (lst s))) ∧ w' = w := by
  by_cases h3 : s.size = 3
  · have h3' : (s.size : Int) = 3 := by omega
    have hb : ((s.size : Int) == 3) = true := by rw [h3]; rfl
    have z0 : 0 < s.size := by omega
    have z1 : 1 < s.size := by omega
    have z2 : 2 < s.size := by omega
    have EC : curB (lst s) = (cpN (s[0]'z0).toNat && cpN (s[1]'z1).toNat && cpN (s[2]'z2).toNat) := by rw [three_of h3]; rfl
    rw [EC]
    clear EC
    have K0 := Lib.hid (fun W => isCapital_any (s[0].toNat) W)
    have K1 := Lib.hid (fun W => isCapital_any (s[1].toNat) W)
    have K2 := Lib.hid (fun W => isCapital_any (s[2].toNat) W)
    cases c0 : cpN (s[0].toNat) with
    | false =>
      rw [c0] at K0
      clear h3 h3'
      go_enter Try.func10, Try.ntmps10
      go_wp2_with (go_at_call 19; refine (K0.out _).mono ?_; rintro e w1 ⟨rfl, rfl⟩)
      go_ret
      exact ⟨rfl, rfl⟩
    | true =>
      rw [c0] at K0
      cases c1 : cpN (s[1].toNat) with
      | false =>
        rw [c1] at K1
        clear h3 h3'
        go_enter Try.func10, Try.ntmps10
        go_wp2_with (first
          | (go_at_call 19; have qq := K0; refine (K0.out _).mono ?_; rintro e w1 ⟨rfl, rfl⟩; clear K0)
          | (go_at_call 19; refine (K1.out _).mono ?_; rintro e w1 ⟨rfl, rfl⟩))
        go_ret
        exact ⟨rfl, rfl⟩
      | true =>
        rw [c1] at K1
        generalize cpN (s[2].toNat) = b2 at *
        clear h3 h3'
        go_enter Try.func10, Try.ntmps10
        go_wp2_with (first
          | (go_at_call 19; have qq := K0; refine (K0.out _).mono ?_; rintro e w1 ⟨rfl, rfl⟩; clear K0)
          | (go_at_call 19; have qq := K1; refine (K1.out _).mono ?_; rintro e w1 ⟨rfl, rfl⟩; clear K1)
          | (go_at_call 19; refine (K2.out _).mono ?_; rintro e w1 ⟨rfl, rfl⟩))
        go_ret
        exact ⟨rfl, rfl⟩
  · have h3' : ¬ (s.size : Int) = 3 := by omega
    have hb : ((s.size : Int) == 3) = false := by rw [beq_eq_false_iff_ne]; exact h3'
    have e : curB (lst s) = false := by
      have := lst_len s
      match hl : lst s with
      | [] => rfl
      | [a] => rfl
      | [a, b] => rfl
      | [a, b, c] => rw [hl] at this; simp at this; omega
      | a :: b :: c :: d :: q => rfl
    rw [e]
    clear e h3
    go_enter Try.func10, Try.ntmps10
    go_wp2
    go_ret
    exact ⟨rfl, rfl⟩
end Go.Proofs.Ytadcgkfeeakpeaa
