import Derived.Test.YtjbbbejadhojlaaDoorXAI
import Derived.Maps.OwnSet
import Derived.Laws.AppendOwn
import Derived.Laws.AppendOwnNone
import Derived.Laws.OwnMore
import Derived.Maps.AppendAt
import Derived.OpenShut
import Derived.Test.YtjbbbejadhojlaaDoorXAB
import Derived.Laws.Cover1
namespace Go.Proofs.YtjbbbejadhojlaaDoor
namespace Lx
set_option linter.unusedVariables false
set_option linter.unusedSimpArgs false

def nameB (p : Nat → Bool) (l : L) : Bool := !l.isEmpty && p (l.headD 0).toNat && decide ((nameE p l).2 = 0)
def curB : L → Bool
  | [a, b, c] => cpN a.toNat && cpN b.toNat && cpN c.toNat
  | _ => false
theorem nameE_ok {p : Nat → Bool} {l : L} (h : (nameE p l).2 = 0) : nameI p l = l.length ∧ l.length ≤ 31 ∧ nameE p l = (0, 0) := by
  have hl : nameI p l ≤ l.length := take_len _ l
  unfold nameE at h ⊢
  by_cases h1 : nameI p l < l.length
  · rw [if_pos h1] at h; cases h
  · rw [if_neg h1] at h ⊢
    by_cases h2 : 31 < l.length
    · rw [if_pos h2] at h; cases h
    · rw [if_neg h2]; exact ⟨by omega, by omega, rfl⟩
theorem takeW_all {p : UInt8 → Bool} {l : L} (h : (l.takeWhile p).length = l.length) : ∀ c ∈ l, p c = true := by
  have e : l.takeWhile p = l := by rw [take_eq, h, List.take_length]
  intro c hc
  rw [← e] at hc
  have key : ∀ (l : L) (x : UInt8), x ∈ l.takeWhile p → p x = true := by
    intro l
    induction l with
    | nil => intro x hx; simp at hx
    | cons d l ih =>
      intro x hx
      rw [List.takeWhile_cons] at hx
      split at hx
      · rcases List.mem_cons.1 hx with rfl | hx
        · assumption
        · exact ih x hx
      · simp at hx
  exact key l c hc
theorem takeW_self {p : UInt8 → Bool} : ∀ {l : L}, (∀ c ∈ l, p c = true) → l.takeWhile p = l
  | [], _ => rfl
  | c :: l, h => by
    rw [List.takeWhile_cons, if_pos (h c List.mem_cons_self), takeW_self (fun d hd => h d (List.mem_cons_of_mem _ hd))]
theorem nm_rn {p : Nat → Bool} (hp : ∀ c, p c = true → rnN c = true) {c : Nat} (h : nmN p c = true) : rnN c = true := by
  unfold nmN at h
  simp only [Bool.or_eq_true, decide_eq_true_eq] at h
  rcases h with (h | h) | h
  · exact hp c h
  · exact rn_dg h
  · subst h; rfl
theorem run_name {p : Nat → Bool} (hp : ∀ c, p c = true → rnN c = true) {l : L} (h : (nameE p l).2 = 0) : run l = l := by
  have hall := takeW_all (nameE_ok h).1
  exact takeW_self (fun c hc => nm_rn hp (hall c hc))
def z1 (t : Tok) : Tok := { t with a := 0 }
theorem Sc.low {r : L} {at_ : Nat} {ts : List Tok} {p : Nat} {e : Int} (h : Sc r at_ ts p e) : ∀ t ∈ ts, (at_ : Int) ≤ t.a := by
  induction h with
  | done a => intro t ht; simp at ht
  | skip hr h k ih => intro t ht; have := ih t ht; omega
  | tok hr h k ih =>
    intro t ht
    rcases List.mem_cons.1 ht with rfl | ht
    · exact Int.le_refl _
    · have := ih t ht; omega
  | err hr h => intro t ht; simp at ht
end Lx
end Go.Proofs.YtjbbbejadhojlaaDoor

namespace Go.Proofs.YtjbbbejadhojlaaDoor
open Go.RowKit Lx
set_option linter.unusedVariables false
set_option linter.unusedSimpArgs false

set_option maxHeartbeats 1000000 in
theorem nameErrorM_capital (s : ByteArray) (w : World) (hs : s.size ≤ 9223372036854775807) :
    Calls Tryd.prog 84 #[.string s, .func (.func 75) #[] #[]] w fun e w' => e = .returned (.tuple #[.int .i64 ((nameE cpN (lst s)).1 : Nat), .int .i64 (nameE cpN (lst s)).2]) ∧ w' = w := by
  obtain ⟨A, hA⟩ : ∃ A, nameE cpN (lst s) = A := ⟨_, rfl⟩
  have HO := Lib.hid (p := ∀ k, (∀ i, i < k → nmN cpN (nthN (lst s) i) = true) → k < s.size → nmN cpN (nthN (lst s) k) = false → A = (k, 61)) (fun k a b c => by
    rw [← hA]; unfold nameE
    rw [nameI_at a (by rw [lst_len]; omega) (fun _ => c), if_pos (by rw [lst_len]; exact b)])
  have HE := Lib.hid (p := (∀ i, i < s.size → nmN cpN (nthN (lst s) i) = true) → A = if 31 < s.size then (0, 6) else (0, 0)) (fun a => by
    rw [← hA]; unfold nameE
    rw [nameI_at a (by rw [lst_len]; omega) (fun h => by rw [lst_len] at h; omega), if_neg (by rw [lst_len]; omega), lst_len])
  rw [hA]
  clear hA
  go_enter Tryd.func84, Tryd.ntmps84
  go_wp2
  go_loop [10] (fun t => ∃ k : Nat, k ≤ s.size ∧ t = .int .i64 k ∧ RowKit.Hid (∀ i, i < k → nmN cpN (nthN (lst s) i) = true)) (fun t => s.size - intV t)
  case atStart => exact ⟨0, by omega, rfl, fun i hi => absurd hi (by omega)⟩
  case round =>
    obtain ⟨k, hk, rfl, hN⟩ := hrel
    by_cases hlt : k < s.size
    · have kc : (k : Int) < (s.size : Int) := by omega
      have E := nth_lst hlt
      have KL := Lib.hid (fun W => isCapital_any (s[k].toNat) W)
      have KD := Lib.hid (fun W => isDigit_any (s[k].toNat) W)
      have kw : IntKind.i64.wrap ((k : Int) + 1) = (k : Int) + 1 := by simp [IntKind.wrap, IntKind.bits, IntKind.signed]; omega
      have ME := Lib.hid (p := s.size - intV (.int .i64 ((k : Int) + 1)) < s.size - intV (.int .i64 (k : Int))) (by simp only [intV]; omega)
      have NX := Lib.hid (p := nmN cpN (s[k].toNat) = true → ∀ i, i < k + 1 → nmN cpN (nthN (lst s) i) = true) (fun g i hi => by
        rcases (show i < k ∨ i = k by omega) with q | q
        · exact hN.out i q
        · rw [q, E]; exact g)
      have NO := Lib.hid (p := nmN cpN (s[k].toNat) = false → A = (k, 61)) (fun g => HO.out k hN.out hlt (by rw [E]; exact g))
      clear hN E
      cases h1 : cpN (s[k].toNat) with
      | true =>
        rw [h1] at KL
        have Y := Lib.hid (NX.out (by unfold nmN; rw [h1]; rfl))
        clear h1
        go_wp2_with (go_at_call 75; refine (KL.out _).mono ?_; rintro e w1 ⟨rfl, rfl⟩)
        go_round
        case rel => exact ⟨k + 1, by omega, by simp, Y.out⟩
        case measure => exact ME.out
      | false =>
        rw [h1] at KL
        cases h2 : dgN (s[k].toNat) with
        | true =>
          rw [h2] at KD
          have Y := Lib.hid (NX.out (by unfold nmN; rw [h1, h2]; rfl))
          clear h1 h2
          go_wp2_with (first
            | (go_at_call 75; refine (KL.out _).mono ?_; rintro e w1 ⟨rfl, rfl⟩)
            | (go_at_call 89; refine (KD.out _).mono ?_; rintro e w1 ⟨rfl, rfl⟩))
          go_round
          case rel => exact ⟨k + 1, by omega, by simp, Y.out⟩
          case measure => exact ME.out
        | false =>
          rw [h2] at KD
          by_cases h3 : s[k].toNat = 95
          · have Y := Lib.hid (NX.out (by unfold nmN; rw [h1, h2, decide_eq_true h3]; rfl))
            have h3' : ((s[k].toNat : Int) != 95) = false := by rw [h3]; rfl
            clear h1 h2 h3
            go_wp2_with (first
              | (go_at_call 75; refine (KL.out _).mono ?_; rintro e w1 ⟨rfl, rfl⟩)
              | (go_at_call 89; refine (KD.out _).mono ?_; rintro e w1 ⟨rfl, rfl⟩))
            go_round
            case rel => exact ⟨k + 1, by omega, by simp, Y.out⟩
            case measure => exact ME.out
          · have Y := Lib.hid (NO.out (by unfold nmN; rw [h1, h2, decide_eq_false h3]; rfl))
            have h3' : ((s[k].toNat : Int) != 95) = true := by rw [bne_iff_ne]; omega
            clear h1 h2 h3
            go_wp2_with (first
              | (go_at_call 75; refine (KL.out _).mono ?_; rintro e w1 ⟨rfl, rfl⟩)
              | (go_at_call 89; refine (KD.out _).mono ?_; rintro e w1 ⟨rfl, rfl⟩))
            go_ret2
            rw [Y.out]
            exact ⟨rfl, rfl⟩
    · obtain rfl : k = s.size := by omega
      have Y := Lib.hid (HE.out hN.out)
      clear hN
      by_cases h31 : 31 < s.size
      · have h31' : (31 : Int) < (s.size : Int) := by omega
        rw [if_pos h31] at Y
        go_wp2
        go_ret2
        rw [Y.out]
        exact ⟨rfl, rfl⟩
      · have h31' : ¬ (31 : Int) < (s.size : Int) := by omega
        rw [if_neg h31] at Y
        go_wp2
        go_ret2
        rw [Y.out]
        exact ⟨rfl, rfl⟩
end Go.Proofs.YtjbbbejadhojlaaDoor

namespace Go.Proofs.YtjbbbejadhojlaaDoor
open Go.RowKit Go.Maps Lx
set_option linter.unusedVariables false
set_option linter.unusedSimpArgs false

theorem isEmpty_lst (s : ByteArray) : s.toList.isEmpty = (lst s).isEmpty := by
  obtain ⟨⟨l⟩⟩ := s
  rw [ByteArray.toList_mk]; rfl
set_option maxHeartbeats 1000000 in
theorem isName_capital (s : ByteArray) (w : World) (hs : s.size ≤ 9223372036854775807) :
    Calls Tryd.prog 74 #[.string s, .func (.func 75) #[] #[]] w fun e w' => e = .returned (.bool (nameB cpN (lst s))) ∧ w' = w := by
  by_cases h0 : s.size = 0
  · have e0 : (lst s).isEmpty = true := by
      have := lst_len s
      cases hl : lst s with
      | nil => rfl
      | cons c q => rw [hl] at this; simp at this; omega
    have e1 : s.toList.isEmpty = true := by rw [isEmpty_lst]; exact e0
    rw [show nameB cpN (lst s) = false by unfold nameB; rw [e0]; rfl]
    clear e0
    go_enter Tryd.func74, Tryd.ntmps74
    go_wp2
    go_ret
    exact ⟨rfl, rfl⟩
  · have h1 : 0 < s.size := by omega
    have e0 : (lst s).isEmpty = false := by
      have := lst_len s
      cases hl : lst s with
      | nil => rw [hl] at this; simp at this; omega
      | cons c q => rfl
    have e1 : s.toList.isEmpty = false := by rw [isEmpty_lst]; exact e0
    have EH : (List.headD (lst s) 0).toNat = s[0].toNat := by
      rw [← nth_lst h1]
      cases hl : lst s <;> rfl
    have KL := Lib.hid (fun W => isCapital_any (s[0].toNat) W)
    have NB : nameB cpN (lst s) = (cpN (s[0].toNat) && decide ((nameE cpN (lst s)).2 = 0)) := by unfold nameB; rw [e0, EH]; rfl
    rw [NB]
    cases hp : cpN (s[0].toNat) with
    | false =>
      rw [hp] at KL
      clear e0 EH NB hp
      go_enter Tryd.func74, Tryd.ntmps74
      go_wp2_with (go_at_call 75; refine (KL.out _).mono ?_; rintro e w1 ⟨rfl, rfl⟩)
      go_ret
      exact ⟨rfl, rfl⟩
    | true =>
      rw [hp] at KL
      have KN := Lib.hid (fun W => nameErrorM_capital s W hs)
      clear e0 EH NB hp
      generalize nameE cpN (lst s) = ne at *
      obtain ⟨ni, er⟩ := ne
      simp only at KN ⊢
      by_cases her : er = 0
      · subst her
        rw [decide_eq_true rfl]
        go_enter Tryd.func74, Tryd.ntmps74
        go_wp2_with (first
          | (go_at_call 75; refine (KL.out _).mono ?_; rintro e w1 ⟨rfl, rfl⟩)
          | (go_at_call 84; refine (KN.out _).mono ?_; rintro e w1 ⟨rfl, rfl⟩))
        go_ret
        exact ⟨rfl, rfl⟩
      · rw [decide_eq_false her]
        have er0 : (er == 0) = false := by rw [beq_eq_false_iff_ne]; exact her
        go_enter Tryd.func74, Tryd.ntmps74
        go_wp2_with (first
          | (go_at_call 75; refine (KL.out _).mono ?_; rintro e w1 ⟨rfl, rfl⟩)
          | (go_at_call 84; refine (KN.out _).mono ?_; rintro e w1 ⟨rfl, rfl⟩))
        go_ret
        exact ⟨by simp [her], rfl⟩

theorem capital_any (s : ByteArray) (w : World) (hs : s.size ≤ 9223372036854775807) : Calls Tryd.prog 57 #[.string s] w fun e w' => e = .returned (.bool (nameB cpN (lst s))) ∧ w' = w := by
  have KI := Lib.hid (fun W => isName_capital s W hs)
  go_enter Tryd.func57, Tryd.ntmps57
  go_wp2_with (go_at_call 74; refine (KI.out _).mono ?_; rintro e w1 ⟨rfl, rfl⟩)
  go_ret
  exact ⟨rfl, rfl⟩
theorem three_of {s : ByteArray} (h : s.size = 3) : lst s = [s[0], s[1], s[2]] := by
  have hl := lst_len s
  apply List.ext_getElem
  · rw [hl]; exact h
  · intro i h1 h2
    have e : ∀ k (hk : k < s.size) (hk' : k < (lst s).length), (lst s)[k]'hk' = s[k]'hk := fun k hk hk' => by
      have := nth_lst hk
      simp only [nthN] at this
      rw [List.getD_eq_getElem?_getD, List.getElem?_eq_getElem hk', Option.getD_some] at this
      exact UInt8.toNat_inj.1 this
    match i, h1, h2 with
    | 0, h1, _ => exact e 0 (by omega) h1
    | 1, h1, _ => exact e 1 (by omega) h1
    | 2, h1, _ => exact e 2 (by omega) h1
set_option maxHeartbeats 1000000 in
theorem currency_any (s : ByteArray) (w : World) : Calls Tryd.prog 59 #[.string s] w fun e w' => e = .returned (.bool (curB (lst s))) ∧ w' = w := by
  by_cases h3 : s.size = 3
  · have h3' : (s.size : Int) = 3 := by omega
    have hb : ((s.size : Int) == 3) = true := by rw [h3]; rfl
    have z0 : 0 < s.size := by omega
    have z1 : 1 < s.size := by omega
    have z2 : 2 < s.size := by omega
    have EC : curB (lst s) = (cpN (s[0]'z0).toNat && cpN (s[1]'z1).toNat && cpN (s[2]'z2).toNat) := by rw [three_of h3]; rfl
    rw [EC]
    clear EC
    have K0 := Lib.hid (fun W => isCapital_any (s[0].toNat) W)
    have K1 := Lib.hid (fun W => isCapital_any (s[1].toNat) W)
    have K2 := Lib.hid (fun W => isCapital_any (s[2].toNat) W)
    cases c0 : cpN (s[0].toNat) with
    | false =>
      rw [c0] at K0
      clear h3 h3'
      go_enter Tryd.func59, Tryd.ntmps59
      go_wp2_with (go_at_call 75; refine (K0.out _).mono ?_; rintro e w1 ⟨rfl, rfl⟩)
      go_ret
      exact ⟨rfl, rfl⟩
    | true =>
      rw [c0] at K0
      cases c1 : cpN (s[1].toNat) with
      | false =>
        rw [c1] at K1
        clear h3 h3'
        go_enter Tryd.func59, Tryd.ntmps59
        go_wp2_with (first
          | (go_at_call 75; have qq := K0; refine (K0.out _).mono ?_; rintro e w1 ⟨rfl, rfl⟩; clear K0)
          | (go_at_call 75; refine (K1.out _).mono ?_; rintro e w1 ⟨rfl, rfl⟩))
        go_ret
        exact ⟨rfl, rfl⟩
      | true =>
        rw [c1] at K1
        generalize cpN (s[2].toNat) = b2 at *
        clear h3 h3'
        go_enter Tryd.func59, Tryd.ntmps59
        go_wp2_with (first
          | (go_at_call 75; have qq := K0; refine (K0.out _).mono ?_; rintro e w1 ⟨rfl, rfl⟩; clear K0)
          | (go_at_call 75; have qq := K1; refine (K1.out _).mono ?_; rintro e w1 ⟨rfl, rfl⟩; clear K1)
          | (go_at_call 75; refine (K2.out _).mono ?_; rintro e w1 ⟨rfl, rfl⟩))
        go_ret
        exact ⟨rfl, rfl⟩
  · have h3' : ¬ (s.size : Int) = 3 := by omega
    have hb : ((s.size : Int) == 3) = false := by rw [beq_eq_false_iff_ne]; exact h3'
    have e : curB (lst s) = false := by
      have := lst_len s
      match hl : lst s with
      | [] => rfl
      | [a] => rfl
      | [a, b] => rfl
      | [a, b, c] => rw [hl] at this; simp at this; omega
      | a :: b :: c :: d :: q => rfl
    rw [e]
    clear e h3
    go_enter Tryd.func59, Tryd.ntmps59
    go_wp2
    go_ret
    exact ⟨rfl, rfl⟩
end Go.Proofs.YtjbbbejadhojlaaDoor

namespace Go.Proofs.YtjbbbejadhojlaaDoor
open Go.RowKit Lx
set_option linter.unusedVariables false
set_option linter.unusedSimpArgs false

theorem toList_lst (b : ByteArray) : b.toList = lst b := by obtain ⟨⟨l⟩⟩ := b; rw [ByteArray.toList_mk]; rfl
theorem head_l {s : ByteArray} (h0 : 0 < s.size) : (List.headD (lst s) 0).toNat = s[0].toNat := by
  rw [← nth_lst h0]
  cases hl : lst s <;> rfl
theorem allrn_of {s : ByteArray} (h : run (lst s) = lst s) : ∀ i, i < s.size → rnN (nthN (lst s) i) = true := fun i hi => run_in (by rw [h, lst_len]; exact hi)
theorem namV_err {p : Nat → Bool} {k : Int} {l : L} {a : Nat} : (namV p k l a).2.2 = (nameE p l).2 := by
  unfold namV; split
  · rename_i h; rw [h]
  · rfl
set_option maxHeartbeats 2000000 in
theorem rcapitalName_any (s : ByteArray) (w : World) (hs : s.size ≤ 9223372036854775807) : Calls Tryd.prog 47 #[.string s] w fun e w' => e = .returned (.bool (nameB cpN (lst s))) ∧ Below w.heap.size w w' := by
  by_cases h0 : s.size = 0
  · have e0 : (lst s).isEmpty = true := by
      have := lst_len s
      cases hl : lst s with
      | nil => rfl
      | cons c q => rw [hl] at this; simp at this; omega
    have e1 : s.toList.isEmpty = true := by rw [isEmpty_lst]; exact e0
    have nb : nameB cpN (lst s) = false := by unfold nameB; rw [e0]; rfl
    rw [show (nameB cpN (lst s)) = false by rw [nb]]
    clear e0 nb
    go_enter Tryd.func47, Tryd.ntmps47
    go_wp2
    go_ret
    exact ⟨rfl, Below.refl _ _⟩
  · have h1 : 0 < s.size := by omega
    have e0 : (lst s).isEmpty = false := by
      have := lst_len s
      cases hl : lst s with
      | nil => rw [hl] at this; simp at this; omega
      | cons c q => rfl
    have e1 : s.toList.isEmpty = false := by rw [isEmpty_lst]; exact e0
    have EH := head_l h1
    have KL := Lib.hid (fun W => rcapital_any (s[0].toNat) W)
    have NB : nameB cpN (lst s) = (cpN (s[0].toNat) && decide ((nameE cpN (lst s)).2 = 0)) := by unfold nameB; rw [e0, EH]; rfl
    cases hp : cpN (s[0].toNat) with
    | false =>
      rw [hp] at KL NB
      rw [show (nameB cpN (lst s)) = false by rw [NB]; rfl]
      clear e0 EH NB hp
      go_enter Tryd.func47, Tryd.ntmps47
      go_wp2_with (go_at_call 67; refine (KL.out _).mono ?_; rintro e w1 ⟨rfl, rfl⟩)
      go_ret
      exact ⟨rfl, Below.refl _ _⟩
    | true =>
      rw [hp] at KL NB
      rw [Bool.true_and] at NB
      have KR := Lib.hid (fun W => rrun_any s 0 W hs (by omega))
      rw [List.drop_zero] at KR
      change RowKit.Hid (∀ W, Calls Tryd.prog 68 #[.string s, .int .i64 0] W fun e w' => e = .returned (.string (bs (run (lst s)))) ∧ w' = W) at KR
      by_cases hr : run (lst s) = lst s
      · have hcp : cpN (nthN (lst s) 0) = true := by rw [nth_lst h1]; exact hp
        have KN := Lib.hid (fun W => rnames_capital s 0 W h1 (by omega) (allrn_of hr) hcp)
        rw [hr, bs_lst] at KR
        have VE := namV_err (p := cpN) (k := 2) (l := lst s) (a := 0)
        change RowKit.Hid (∀ W, Calls Tryd.prog 69 #[.string s, .int .i64 0] W fun e w' => e = trEnd (namV cpN 2 (lst s) 0) ∧ Below W.heap.size W w') at KN
        generalize namV cpN 2 (lst s) 0 = V at *
        obtain ⟨T0, P, E⟩ := V
        obtain ⟨tk, tt, ta, tn, ty, tm, td, tnn, tu⟩ := T0
        simp only at VE
        simp only [trEnd, tokR] at KN
        generalize bs tt = st at *
        skip
        by_cases he : E = 0
        · subst he
          have NB' : nameB cpN (lst s) = true := by rw [NB, ← VE]; rfl
          rw [show (nameB cpN (lst s)) = true by rw [NB']]
          clear e0 EH NB hp hr hcp VE NB' 
          go_enter Tryd.func47, Tryd.ntmps47
          go_wp2_with (first | (go_at_call 67; refine (KL.out _).mono ?_; rintro e w1 ⟨rfl, hw⟩; have hw' := hw.symm; clear hw; subst hw') | (go_at_call 68; refine (KR.out _).mono ?_; rintro e w1 ⟨rfl, hw⟩; have hw' := hw.symm; clear hw; subst hw') | (go_at_call 69; refine (KN.out _).mono ?_; rintro e w2 ⟨rfl, b2⟩; have B2 := Lib.hid (b2.alloc b2.size (.cells #[.int .i64 tk, .string st, .int .i64 ta, .int .i64 tn, .int .i64 ty, .int .i64 tm, .int .i64 td, .int .i64 tnn, .int .i64 tu] 141)); clear b2))
          go_ret
          exact ⟨rfl, B2.out⟩
        · have NB' : nameB cpN (lst s) = false := by rw [NB, ← VE]; exact decide_eq_false he
          rw [show (nameB cpN (lst s)) = false by rw [NB']]
          have er0 : (E == 0) = false := by rw [beq_eq_false_iff_ne]; exact he
          clear e0 EH NB hp hr hcp VE NB' 
          go_enter Tryd.func47, Tryd.ntmps47
          go_wp2_with (first | (go_at_call 67; refine (KL.out _).mono ?_; rintro e w1 ⟨rfl, hw⟩; have hw' := hw.symm; clear hw; subst hw') | (go_at_call 68; refine (KR.out _).mono ?_; rintro e w1 ⟨rfl, hw⟩; have hw' := hw.symm; clear hw; subst hw') | (go_at_call 69; refine (KN.out _).mono ?_; rintro e w2 ⟨rfl, b2⟩; have B2 := Lib.hid (b2.alloc b2.size (.cells #[.int .i64 tk, .string st, .int .i64 ta, .int .i64 tn, .int .i64 ty, .int .i64 tm, .int .i64 td, .int .i64 tnn, .int .i64 tu] 141)); clear b2))
          go_ret
          exact ⟨by simp [he], B2.out⟩
      · have NB' : nameB cpN (lst s) = false := by
          rw [NB]; refine decide_eq_false (fun h => hr (run_name (fun c => rn_cp) h))
        rw [show (nameB cpN (lst s)) = false by rw [NB']]
        have ne : ((bs (run (lst s))).toList == s.toList) = false := by rw [beq_eq_false_iff_ne, toList_lst, toList_lst, lst_bs]; exact hr
        have ne' : ¬ (bs (run (lst s))).toList = s.toList := by rw [toList_lst, toList_lst, lst_bs]; exact hr
        generalize bs (run (lst s)) = sR at *
        clear e0 EH NB hp hr NB'
        go_enter Tryd.func47, Tryd.ntmps47
        go_wp2_with (first | (go_at_call 67; refine (KL.out _).mono ?_; rintro e w1 ⟨rfl, hw⟩; have hw' := hw.symm; clear hw; subst hw') | (go_at_call 68; refine (KR.out _).mono ?_; rintro e w1 ⟨rfl, hw⟩; have hw' := hw.symm; clear hw; subst hw'))
        go_ret
        exact ⟨rfl, Below.refl _ _⟩
set_option maxHeartbeats 1000000 in
theorem rcurrency_any (s : ByteArray) (w : World) : Calls Tryd.prog 48 #[.string s] w fun e w' => e = .returned (.bool (curB (lst s))) ∧ w' = w := by
  by_cases h3 : s.size = 3
  · have h3' : (s.size : Int) = 3 := by omega
    have hb : ((s.size : Int) == 3) = true := by rw [h3]; rfl
    have z0 : 0 < s.size := by omega
    have z1 : 1 < s.size := by omega
    have z2 : 2 < s.size := by omega
    have EC : curB (lst s) = (cpN (s[0]'z0).toNat && cpN (s[1]'z1).toNat && cpN (s[2]'z2).toNat) := by rw [three_of h3]; rfl
    rw [EC]
    clear EC
    have K0 := Lib.hid (fun W => rcapital_any (s[0].toNat) W)
    have K1 := Lib.hid (fun W => rcapital_any (s[1].toNat) W)
    have K2 := Lib.hid (fun W => rcapital_any (s[2].toNat) W)
    cases c0 : cpN (s[0].toNat) with
    | false =>
      rw [c0] at K0
      clear h3 h3'
      go_enter Tryd.func48, Tryd.ntmps48
      go_wp2_with (go_at_call 67; refine (K0.out _).mono ?_; rintro e w1 ⟨rfl, rfl⟩)
      go_ret
      exact ⟨rfl, rfl⟩
    | true =>
      rw [c0] at K0
      cases c1 : cpN (s[1].toNat) with
      | false =>
        rw [c1] at K1
        clear h3 h3'
        go_enter Tryd.func48, Tryd.ntmps48
        go_wp2_with (first
          | (go_at_call 67; have qq := K0; refine (K0.out _).mono ?_; rintro e w1 ⟨rfl, rfl⟩; clear K0)
          | (go_at_call 67; refine (K1.out _).mono ?_; rintro e w1 ⟨rfl, rfl⟩))
        go_ret
        exact ⟨rfl, rfl⟩
      | true =>
        rw [c1] at K1
        generalize cpN (s[2].toNat) = b2 at *
        clear h3 h3'
        go_enter Tryd.func48, Tryd.ntmps48
        go_wp2_with (first
          | (go_at_call 67; have qq := K0; refine (K0.out _).mono ?_; rintro e w1 ⟨rfl, rfl⟩; clear K0)
          | (go_at_call 67; have qq := K1; refine (K1.out _).mono ?_; rintro e w1 ⟨rfl, rfl⟩; clear K1)
          | (go_at_call 67; refine (K2.out _).mono ?_; rintro e w1 ⟨rfl, rfl⟩))
        go_ret
        exact ⟨rfl, rfl⟩
  · have h3' : ¬ (s.size : Int) = 3 := by omega
    have hb : ((s.size : Int) == 3) = false := by rw [beq_eq_false_iff_ne]; exact h3'
    have e : curB (lst s) = false := by
      have := lst_len s
      match hl : lst s with
      | [] => rfl
      | [a] => rfl
      | [a, b] => rfl
      | [a, b, c] => rw [hl] at this; simp at this; omega
      | a :: b :: c :: d :: q => rfl
    rw [e]
    clear e h3
    go_enter Tryd.func48, Tryd.ntmps48
    go_wp2
    go_ret
    exact ⟨rfl, rfl⟩
end Go.Proofs.YtjbbbejadhojlaaDoor

namespace Go.Proofs.YtjbbbejadhojlaaDoor
open Go.RowKit
set_option linter.unusedVariables false
set_option linter.unusedSimpArgs false
theorem Row.oneP {w : World} {a : Option Addr} {n k : Nat} {V : Nat → List Value} (h : Row w a n k V) : 0 < n → ∃ x o, a = some ⟨x, o, none⟩ ∧ x < w.heap.size ∧ ∀ i, i < n → ∀ j, j < k → w.cell? ⟨x, o + i * k + j, none⟩ = some ((V i).getD j default) := by
  intro h0
  rcases h with h | h
  · omega
  · exact h
def capP (s : ByteArray) : Bool := Lx.nameB Lx.cpN (lst s)
def curP (s : ByteArray) : Bool := Lx.curB (lst s)
theorem all_of {α : Type} [Inhabited α] {P : α → Bool} {l : List α} (h : ∀ i, i < l.length → P (l.getD i default) = true) : l.all P = true := by
  rw [List.all_eq_true]
  intro x hx
  obtain ⟨i, hi, rfl⟩ := List.getElem_of_mem hx
  have := h i hi
  simpa [List.getD, hi] using this
theorem not_all {α : Type} [Inhabited α] {P : α → Bool} {l : List α} {i : Nat} (hi : i < l.length) (h : P (l.getD i default) = false) : l.all P = false := by
  rw [List.all_eq_false]
  refine ⟨l[i], List.getElem_mem hi, ?_⟩
  have e : l.getD i default = l[i] := by simp [List.getD, hi]
  rw [e] at h
  simp [h]
theorem tx_mem {l : List ByteArray} {i : Nat} (h : i < l.length) : l.getD i default ∈ l := by
  rw [List.getD_eq_getElem?_getD, List.getElem?_eq_getElem h, Option.getD_some]; exact List.getElem_mem h
theorem cap_c (s : ByteArray) (h : s.size ≤ 140737488351232) (W : World) : Calls Tryd.prog 57 #[.string s] W fun e w' => e = .returned (.bool (capP s)) ∧ w' = W := capital_any s W (by omega)
theorem cur_c (s : ByteArray) (h : s.size ≤ 140737488351232) (W : World) : Calls Tryd.prog 59 #[.string s] W fun e w' => e = .returned (.bool (curP s)) ∧ w' = W := currency_any s W
theorem litC_any (s : ByteArray) (hs : s.size ≤ 140737488351232) (pb : Nat) (w : World) (hp : w.cell? ⟨pb, 0, none⟩ = some (.func (.func 57) #[] #[])) :
    Calls Tryd.prog 73 #[.string s, .pointer (some ⟨pb, 0, none⟩)] w fun e w' => e = .returned (.bool (!(capP s))) ∧ w' = w := by
  have KC := Lib.hid (cap_c s hs w)
  go_enter Tryd.func73, Tryd.ntmps73
  go_wp2_with (go_at_call 57; refine KC.out.mono ?_; rintro e w1 ⟨rfl, h2⟩; subst h2)
  go_ret
  exact ⟨rfl, rfl⟩
set_option maxRecDepth 100000 in
set_option maxHeartbeats 1000000 in
theorem indexC_any {w : World} {a : Option Addr} {n c : Nat} {ss : List ByteArray} (pb : Nat) (h : SR w a n c ss) (hp : w.cell? ⟨pb, 0, none⟩ = some (.func (.func 57) #[] #[])) :
    Calls Tryd.prog 83 #[.slice a n c, .func (.func 73) #[] #[.pointer (some ⟨pb, 0, none⟩)]] w fun e w' => (∃ i : Int, e = .returned (.int .i64 i) ∧ (ss.all capP = true → i = -1) ∧ (ss.all capP = false → 0 ≤ i)) ∧ w' = w := by
  obtain ⟨_, l1, b1, s1, r1⟩ := h
  have R1 := Lib.hid r1
  have L1 := Lib.hid l1
  have S1 := Lib.hid s1
  clear l1 r1 s1
  go_enter Tryd.func83, Tryd.ntmps83
  go_wp2
  go_loopw [8] (fun t wr => ∃ k : Nat, k ≤ n ∧ t = .int .i64 k ∧ RowKit.Hid (∀ i, i < k → capP (ss.getD i default) = true) ∧ w = wr) (fun t _ => n - (intOf t).toNat)
  case atStart => exact ⟨0, by omega, rfl, fun i hi => absurd hi (by omega), rfl⟩
  case round =>
    obtain ⟨k, hk, rfl, hE, rfl⟩ := hrel
    by_cases hlt : k < n
    · obtain ⟨x, o, rfl, _, hc⟩ := R1.out.oneP (by omega)
      have c0 := hc k hlt 0 (by omega)
      simp only [Nat.mul_one, Nat.add_zero, List.getD_cons_zero] at c0
      have kc : (k : Int) < (n : Int) := by omega
      have KC := Lib.hid (litC_any (ss.getD k default) (S1.out _ (tx_mem (by rw [L1.out]; exact hlt))) pb w hp)
      have NX := Lib.hid (p := capP (ss.getD k default) = true → ∀ i, i < k + 1 → capP (ss.getD i default) = true) (fun e i hi => by
        rcases (show i < k ∨ i = k by omega) with r | r
        · exact hE.out i r
        · rw [r]; exact e)
      have NA := Lib.hid (p := capP (ss.getD k default) = false → ss.all capP = false) (fun e => not_all (by rw [L1.out]; exact hlt) e)
      clear hc hE
      generalize ss.getD k default = z at *
      cases hb : capP z with
      | true =>
        rw [hb] at KC NX
        go_wp2_with (go_at_call 73; refine KC.out.mono ?_; rintro e w1 ⟨rfl, h2⟩; subst h2)
        go_roundw
        case rel => exact ⟨k + 1, by omega, by go_num, NX.out (by first | rfl | trivial), by first | rfl | trivial⟩
        case measure => simp [intOf]; omega
      | false =>
        rw [hb] at KC NA
        go_wp2_with (go_at_call 73; refine KC.out.mono ?_; rintro e w1 ⟨rfl, h2⟩; subst h2)
        go_ret
        exact ⟨⟨_, rfl, (fun e => by rw [NA.out (by first | rfl | trivial)] at e; cases e), (fun _ => by omega)⟩, rfl⟩
    · obtain rfl : k = n := by omega
      have AA := Lib.hid (p := ss.all capP = true) (all_of (fun i hi => hE.out i (by rw [L1.out] at hi; exact hi)))
      clear hE
      go_wp2
      go_ret
      exact ⟨⟨_, rfl, (fun _ => rfl), (fun e => by rw [AA.out] at e; cases e)⟩, rfl⟩
set_option maxRecDepth 100000 in
theorem containsC_any {w : World} {a : Option Addr} {n c : Nat} {ss : List ByteArray} (pb : Nat) (h : SR w a n c ss) (hp : w.cell? ⟨pb, 0, none⟩ = some (.func (.func 57) #[] #[])) :
    Calls Tryd.prog 72 #[.slice a n c, .func (.func 73) #[] #[.pointer (some ⟨pb, 0, none⟩)]] w fun e w' => e = .returned (.bool (!(ss.all capP))) ∧ w' = w := by
  have KI := Lib.hid (indexC_any pb h hp)
  clear h hp
  cases hb : ss.all capP with
  | true =>
    rw [hb] at KI
    go_enter Tryd.func72, Tryd.ntmps72
    go_wp2_with (go_at_call 83; refine KI.out.mono ?_; rintro e w1 ⟨⟨i, rfl, h1, _⟩, h2⟩; subst h2; obtain rfl := h1 rfl)
    go_ret
    exact ⟨rfl, rfl⟩
  | false =>
    rw [hb] at KI
    go_enter Tryd.func72, Tryd.ntmps72
    go_wp2_with (go_at_call 83; refine KI.out.mono ?_; rintro e w1 ⟨⟨i, rfl, _, h1⟩, h2⟩; subst h2; have i0 := h1 rfl; have i1 : decide (0 ≤ i) = true := decide_eq_true i0; clear h1)
    go_ret
    exact ⟨by first | rfl | simp [i1], rfl⟩
set_option maxRecDepth 100000 in
theorem eachC_any {w : World} {a : Option Addr} {n c : Nat} {ss : List ByteArray} (h : SR w a n c ss) :
    Calls Tryd.prog 56 #[.slice a n c, .func (.func 57) #[] #[]] w fun e w' => e = .returned (.bool (ss.all capP)) ∧ Below w.heap.size w w' := by
  have KC := Lib.hid (containsC_any w.heap.size (h.later (allocBP w (.cells #[.func (.func 57) #[] #[]] 105))) (by simp))
  clear h
  go_enter Tryd.func56, Tryd.ntmps56
  go_wp2_with (go_at_call 72; refine KC.out.mono ?_; rintro e w1 ⟨rfl, h2⟩; subst h2)
  go_ret
  exact ⟨by simp, allocBP w _⟩
theorem litU_any (s : ByteArray) (hs : s.size ≤ 140737488351232) (pb : Nat) (w : World) (hp : w.cell? ⟨pb, 0, none⟩ = some (.func (.func 59) #[] #[])) :
    Calls Tryd.prog 73 #[.string s, .pointer (some ⟨pb, 0, none⟩)] w fun e w' => e = .returned (.bool (!(curP s))) ∧ w' = w := by
  have KC := Lib.hid (cur_c s hs w)
  go_enter Tryd.func73, Tryd.ntmps73
  go_wp2_with (go_at_call 59; refine KC.out.mono ?_; rintro e w1 ⟨rfl, h2⟩; subst h2)
  go_ret
  exact ⟨rfl, rfl⟩
set_option maxRecDepth 100000 in
set_option maxHeartbeats 1000000 in
theorem indexU_any {w : World} {a : Option Addr} {n c : Nat} {ss : List ByteArray} (pb : Nat) (h : SR w a n c ss) (hp : w.cell? ⟨pb, 0, none⟩ = some (.func (.func 59) #[] #[])) :
    Calls Tryd.prog 83 #[.slice a n c, .func (.func 73) #[] #[.pointer (some ⟨pb, 0, none⟩)]] w fun e w' => (∃ i : Int, e = .returned (.int .i64 i) ∧ (ss.all curP = true → i = -1) ∧ (ss.all curP = false → 0 ≤ i)) ∧ w' = w := by
  obtain ⟨_, l1, b1, s1, r1⟩ := h
  have R1 := Lib.hid r1
  have L1 := Lib.hid l1
  have S1 := Lib.hid s1
  clear l1 r1 s1
  go_enter Tryd.func83, Tryd.ntmps83
  go_wp2
  go_loopw [8] (fun t wr => ∃ k : Nat, k ≤ n ∧ t = .int .i64 k ∧ RowKit.Hid (∀ i, i < k → curP (ss.getD i default) = true) ∧ w = wr) (fun t _ => n - (intOf t).toNat)
  case atStart => exact ⟨0, by omega, rfl, fun i hi => absurd hi (by omega), rfl⟩
  case round =>
    obtain ⟨k, hk, rfl, hE, rfl⟩ := hrel
    by_cases hlt : k < n
    · obtain ⟨x, o, rfl, _, hc⟩ := R1.out.oneP (by omega)
      have c0 := hc k hlt 0 (by omega)
      simp only [Nat.mul_one, Nat.add_zero, List.getD_cons_zero] at c0
      have kc : (k : Int) < (n : Int) := by omega
      have KC := Lib.hid (litU_any (ss.getD k default) (S1.out _ (tx_mem (by rw [L1.out]; exact hlt))) pb w hp)
      have NX := Lib.hid (p := curP (ss.getD k default) = true → ∀ i, i < k + 1 → curP (ss.getD i default) = true) (fun e i hi => by
        rcases (show i < k ∨ i = k by omega) with r | r
        · exact hE.out i r
        · rw [r]; exact e)
      have NA := Lib.hid (p := curP (ss.getD k default) = false → ss.all curP = false) (fun e => not_all (by rw [L1.out]; exact hlt) e)
      clear hc hE
      generalize ss.getD k default = z at *
      cases hb : curP z with
      | true =>
        rw [hb] at KC NX
        go_wp2_with (go_at_call 73; refine KC.out.mono ?_; rintro e w1 ⟨rfl, h2⟩; subst h2)
        go_roundw
        case rel => exact ⟨k + 1, by omega, by go_num, NX.out (by first | rfl | trivial), by first | rfl | trivial⟩
        case measure => simp [intOf]; omega
      | false =>
        rw [hb] at KC NA
        go_wp2_with (go_at_call 73; refine KC.out.mono ?_; rintro e w1 ⟨rfl, h2⟩; subst h2)
        go_ret
        exact ⟨⟨_, rfl, (fun e => by rw [NA.out (by first | rfl | trivial)] at e; cases e), (fun _ => by omega)⟩, rfl⟩
    · obtain rfl : k = n := by omega
      have AA := Lib.hid (p := ss.all curP = true) (all_of (fun i hi => hE.out i (by rw [L1.out] at hi; exact hi)))
      clear hE
      go_wp2
      go_ret
      exact ⟨⟨_, rfl, (fun _ => rfl), (fun e => by rw [AA.out] at e; cases e)⟩, rfl⟩
set_option maxRecDepth 100000 in
theorem containsU_any {w : World} {a : Option Addr} {n c : Nat} {ss : List ByteArray} (pb : Nat) (h : SR w a n c ss) (hp : w.cell? ⟨pb, 0, none⟩ = some (.func (.func 59) #[] #[])) :
    Calls Tryd.prog 72 #[.slice a n c, .func (.func 73) #[] #[.pointer (some ⟨pb, 0, none⟩)]] w fun e w' => e = .returned (.bool (!(ss.all curP))) ∧ w' = w := by
  have KI := Lib.hid (indexU_any pb h hp)
  clear h hp
  cases hb : ss.all curP with
  | true =>
    rw [hb] at KI
    go_enter Tryd.func72, Tryd.ntmps72
    go_wp2_with (go_at_call 83; refine KI.out.mono ?_; rintro e w1 ⟨⟨i, rfl, h1, _⟩, h2⟩; subst h2; obtain rfl := h1 rfl)
    go_ret
    exact ⟨rfl, rfl⟩
  | false =>
    rw [hb] at KI
    go_enter Tryd.func72, Tryd.ntmps72
    go_wp2_with (go_at_call 83; refine KI.out.mono ?_; rintro e w1 ⟨⟨i, rfl, _, h1⟩, h2⟩; subst h2; have i0 := h1 rfl; have i1 : decide (0 ≤ i) = true := decide_eq_true i0; clear h1)
    go_ret
    exact ⟨by first | rfl | simp [i1], rfl⟩
set_option maxRecDepth 100000 in
theorem eachU_any {w : World} {a : Option Addr} {n c : Nat} {ss : List ByteArray} (h : SR w a n c ss) :
    Calls Tryd.prog 56 #[.slice a n c, .func (.func 59) #[] #[]] w fun e w' => e = .returned (.bool (ss.all curP)) ∧ Below w.heap.size w w' := by
  have KC := Lib.hid (containsU_any w.heap.size (h.later (allocBP w (.cells #[.func (.func 59) #[] #[]] 105))) (by simp))
  clear h
  go_enter Tryd.func56, Tryd.ntmps56
  go_wp2_with (go_at_call 72; refine KC.out.mono ?_; rintro e w1 ⟨rfl, h2⟩; subst h2)
  go_ret
  exact ⟨by simp, allocBP w _⟩
end Go.Proofs.YtjbbbejadhojlaaDoor

namespace Go.Proofs.YtjbbbejadhojlaaDoor
open Go.RowKit
set_option linter.unusedVariables false
set_option linter.unusedSimpArgs false
/-- y is not behind z. -/
def leS (y z : ByteArray) : Bool := Op.bytesLess y.toList z.toList || (y.toList == z.toList)
theorem bl_tot : ∀ x y : List UInt8, (Op.bytesLess x y || (x == y)) = !(Op.bytesLess y x)
  | [], [] => rfl
  | [], _ :: _ => rfl
  | _ :: _, [] => rfl
  | a :: x, b :: y => by
    have ih := bl_tot x y
    have e : (a :: x == b :: y) = ((a == b) && (x == y)) := rfl
    rw [e]
    simp only [Op.bytesLess]
    by_cases h1 : a = b
    · subst h1
      have n1 : ¬ a < a := by rw [UInt8.lt_iff_toNat_lt]; omega
      simp only [n1, decide_false, Bool.false_or, beq_self_eq_true, Bool.true_and]
      exact ih
    · have h2 : ¬ b = a := fun q => h1 q.symm
      have e1 : (a == b) = false := by simpa using h1
      have e2 : (b == a) = false := by simpa using h2
      rw [e1, e2]
      simp only [Bool.false_and, Bool.or_false]
      have h3 : a.toNat ≠ b.toNat := fun q => h1 (UInt8.toNat_inj.1 q)
      by_cases h4 : a.toNat < b.toNat
      · have p1 : a < b := by rw [UInt8.lt_iff_toNat_lt]; exact h4
        have p2 : ¬ b < a := by rw [UInt8.lt_iff_toNat_lt]; omega
        simp [p1, p2]
      · have p1 : ¬ a < b := by rw [UInt8.lt_iff_toNat_lt]; exact h4
        have p2 : b < a := by rw [UInt8.lt_iff_toNat_lt]; omega
        simp [p1, p2]
theorem leS_ge (y z : ByteArray) : leS y z = !(Op.bytesLess z.toList y.toList) := bl_tot _ _
def riseS (ss : List ByteArray) : Prop := ∀ i, i + 1 < ss.length → leS (ss.getD (i + 1) default) (ss.getD i default) = false
def riseN (l : List Int) : Prop := ∀ i, i + 1 < l.length → l.getD i 0 < l.getD (i + 1) 0
noncomputable instance (ss : List ByteArray) : Decidable (riseS ss) := Classical.propDecidable _
noncomputable instance (l : List Int) : Decidable (riseN l) := Classical.propDecidable _
set_option maxRecDepth 100000 in
set_option maxHeartbeats 1000000 in
theorem risesS_any {w : World} {a : Option Addr} {n c : Nat} {ss : List ByteArray} (h : SR w a n c ss) :
    Calls Tryd.prog 58 #[.slice a n c] w fun e w' => e = .returned (.bool (decide (riseS ss))) ∧ ∃ q, w' = w.drewN q := by
  obtain ⟨_, l1, b1, s1, r1⟩ := h
  have R1 := Lib.hid r1
  have L1 := Lib.hid l1
  clear l1 r1 s1
  go_enter Tryd.func58, Tryd.ntmps58
  go_wp2
  go_loopw [3] (fun t wr => ∃ k : Nat, 1 ≤ k ∧ (k ≤ n ∨ k = 1) ∧ t = .int .i64 k ∧ RowKit.Hid (∀ i, i + 1 < k → i + 1 < ss.length → leS (ss.getD (i + 1) default) (ss.getD i default) = false) ∧ ∃ q, wr = w.drewN q) (fun t _ => n - (intOf t).toNat)
  case atStart => exact ⟨1, by omega, by omega, rfl, (fun i hi => absurd hi (by omega)), 0, rfl⟩
  case round =>
    obtain ⟨k, hk1, hk, rfl, hE, q, rfl⟩ := hrel
    by_cases hlt : k < n
    · obtain ⟨x, o, rfl, _, hc⟩ := R1.out.oneP (by omega)
      obtain ⟨j, hj⟩ : ∃ j, k = j + 1 := ⟨k - 1, by omega⟩
      have HJ := Lib.hid hj
      have c0 := hc k hlt 0 (by omega)
      have c1 := hc j (by omega) 0 (by omega)
      simp only [Nat.mul_one, Nat.add_zero, List.getD_cons_zero] at c0 c1
      have kc : (k : Int) < (n : Int) := by omega
      have kw : IntKind.i64.wrap ((k : Int) - 1) = (j : Int) := by simp [IntKind.wrap, IntKind.bits, IntKind.signed]; omega
      have kj : (j : Int) < (n : Int) := by omega
      clear hc hj
      by_cases e : leS (ss.getD k default) (ss.getD j default) = false
      · have NX := Lib.hid (p := ∀ i, i + 1 < k + 1 → i + 1 < ss.length → leS (ss.getD (i + 1) default) (ss.getD i default) = false) (fun i hi hi2 => by
          rcases (show i + 1 < k ∨ i + 1 = k by omega) with r | r
          · exact hE.out i r hi2
          · have r2 : i = j := by have := HJ.out; omega
            rw [r, r2]; exact e)
        have f1 := e
        unfold leS at f1
        generalize ss.getD k default = y at *
        generalize ss.getD j default = z at *
        clear e hE
        go_wp2
        go_quiet (fail)
        go_wp2
        go_roundw
        case rel => exact ⟨k + 1, by omega, by omega, by go_num, NX.out, _, by first | rfl | exact World.drewN_drewN _ _ _⟩
        case measure => simp [intOf]; omega
      · have RR := Lib.hid (p := decide (riseS ss) = false) (decide_eq_false (fun q => by have hq := q j (by rw [L1.out, ← HJ.out]; exact hlt); rw [← HJ.out] at hq; rw [hq] at e; exact e rfl))
        have e := Bool.eq_false_or_eq_true _ |>.resolve_right e
        have f1 := e
        unfold leS at f1
        generalize ss.getD k default = y at *
        generalize ss.getD j default = z at *
        clear e hE
        go_wp2
        go_quiet (fail)
        go_wp2
        go_ret
        exact ⟨retBP RR.out.symm, _, by first | rfl | exact World.drewN_drewN _ _ _⟩
    · have RR := Lib.hid (p := decide (riseS ss) = true) (decide_eq_true (fun i hi => hE.out i (by rw [L1.out] at hi; omega) hi))
      have kc : ¬ (k : Int) < (n : Int) := by omega
      clear hE
      go_wp2
      go_ret
      exact ⟨retBP RR.out.symm, _, rfl⟩
set_option maxRecDepth 100000 in
set_option maxHeartbeats 1000000 in
theorem risesN_any {w : World} {a : Option Addr} {n c : Nat} {ss : List Int} (h : NR w a n c ss) :
    Calls Tryd.prog 60 #[.slice a n c] w fun e w' => e = .returned (.bool (decide (riseN ss))) ∧ ∃ q, w' = w.drewN q := by
  obtain ⟨_, l1, b1, s1, r1⟩ := h
  have R1 := Lib.hid r1
  have L1 := Lib.hid l1
  clear l1 r1 s1
  go_enter Tryd.func60, Tryd.ntmps60
  go_wp2
  go_loopw [3] (fun t wr => ∃ k : Nat, 1 ≤ k ∧ (k ≤ n ∨ k = 1) ∧ t = .int .i64 k ∧ RowKit.Hid (∀ i, i + 1 < k → i + 1 < ss.length → ss.getD i 0 < ss.getD (i + 1) 0) ∧ ∃ q, wr = w.drewN q) (fun t _ => n - (intOf t).toNat)
  case atStart => exact ⟨1, by omega, by omega, rfl, (fun i hi => absurd hi (by omega)), 0, rfl⟩
  case round =>
    obtain ⟨k, hk1, hk, rfl, hE, q, rfl⟩ := hrel
    by_cases hlt : k < n
    · obtain ⟨x, o, rfl, _, hc⟩ := R1.out.oneP (by omega)
      obtain ⟨j, hj⟩ : ∃ j, k = j + 1 := ⟨k - 1, by omega⟩
      have HJ := Lib.hid hj
      have c0 := hc k hlt 0 (by omega)
      have c1 := hc j (by omega) 0 (by omega)
      simp only [Nat.mul_one, Nat.add_zero, List.getD_cons_zero] at c0 c1
      have kc : (k : Int) < (n : Int) := by omega
      have kw : IntKind.i64.wrap ((k : Int) - 1) = (j : Int) := by simp [IntKind.wrap, IntKind.bits, IntKind.signed]; omega
      have kj : (j : Int) < (n : Int) := by omega
      clear hc hj
      by_cases e : ss.getD j 0 < ss.getD k 0
      · have NX := Lib.hid (p := ∀ i, i + 1 < k + 1 → i + 1 < ss.length → ss.getD i 0 < ss.getD (i + 1) 0) (fun i hi hi2 => by
          rcases (show i + 1 < k ∨ i + 1 = k by omega) with r | r
          · exact hE.out i r hi2
          · have r2 : i = j := by have := HJ.out; omega
            rw [r, r2]; exact e)
        have f1 : ¬ ss.getD k 0 ≤ ss.getD j 0 := by omega
        have f2 : decide (ss.getD k 0 ≤ ss.getD j 0) = false := decide_eq_false f1
        generalize ss.getD k 0 = y at *
        generalize ss.getD j 0 = z at *
        clear e hE
        go_wp2
        go_quiet (fail)
        go_wp2
        go_roundw
        case rel => exact ⟨k + 1, by omega, by omega, by go_num, NX.out, _, by first | rfl | exact World.drewN_drewN _ _ _⟩
        case measure => simp [intOf]; omega
      · have RR := Lib.hid (p := decide (riseN ss) = false) (decide_eq_false (fun q => by have hq := q j (by rw [L1.out, ← HJ.out]; exact hlt); rw [← HJ.out] at hq; exact e hq))
        have f1 : ss.getD k 0 ≤ ss.getD j 0 := by omega
        have f2 : decide (ss.getD k 0 ≤ ss.getD j 0) = true := decide_eq_true f1
        generalize ss.getD k 0 = y at *
        generalize ss.getD j 0 = z at *
        clear e hE
        go_wp2
        go_quiet (fail)
        go_wp2
        go_ret
        exact ⟨retBP RR.out.symm, _, by first | rfl | exact World.drewN_drewN _ _ _⟩
    · have RR := Lib.hid (p := decide (riseN ss) = true) (decide_eq_true (fun i hi => hE.out i (by rw [L1.out] at hi; omega) hi))
      have kc : ¬ (k : Int) < (n : Int) := by omega
      clear hE
      go_wp2
      go_ret
      exact ⟨retBP RR.out.symm, _, rfl⟩
set_option maxRecDepth 100000 in
set_option maxHeartbeats 1000000 in
theorem risingR_any {w : World} {a : Option Addr} {n c : Nat} {ss : List ByteArray} (h : SR w a n c ss) :
    Calls Tryd.prog 46 #[.slice a n c] w fun e w' => e = .returned (.bool (decide (riseS ss))) ∧ ∃ q, w' = w.drewN q := by
  obtain ⟨_, l1, b1, s1, r1⟩ := h
  have R1 := Lib.hid r1
  have L1 := Lib.hid l1
  clear l1 r1 s1
  go_enter Tryd.func46, Tryd.ntmps46
  go_wp2
  go_loopw [3] (fun t wr => ∃ k : Nat, 1 ≤ k ∧ (k ≤ n ∨ k = 1) ∧ t = .int .i64 k ∧ RowKit.Hid (∀ i, i + 1 < k → i + 1 < ss.length → leS (ss.getD (i + 1) default) (ss.getD i default) = false) ∧ ∃ q, wr = w.drewN q) (fun t _ => n - (intOf t).toNat)
  case atStart => exact ⟨1, by omega, by omega, rfl, (fun i hi => absurd hi (by omega)), 0, rfl⟩
  case round =>
    obtain ⟨k, hk1, hk, rfl, hE, q, rfl⟩ := hrel
    by_cases hlt : k < n
    · obtain ⟨x, o, rfl, _, hc⟩ := R1.out.oneP (by omega)
      obtain ⟨j, hj⟩ : ∃ j, k = j + 1 := ⟨k - 1, by omega⟩
      have HJ := Lib.hid hj
      have c0 := hc k hlt 0 (by omega)
      have c1 := hc j (by omega) 0 (by omega)
      simp only [Nat.mul_one, Nat.add_zero, List.getD_cons_zero] at c0 c1
      have kc : (k : Int) < (n : Int) := by omega
      have kw : IntKind.i64.wrap ((k : Int) - 1) = (j : Int) := by simp [IntKind.wrap, IntKind.bits, IntKind.signed]; omega
      have kj : (j : Int) < (n : Int) := by omega
      clear hc hj
      by_cases e : leS (ss.getD k default) (ss.getD j default) = false
      · have NX := Lib.hid (p := ∀ i, i + 1 < k + 1 → i + 1 < ss.length → leS (ss.getD (i + 1) default) (ss.getD i default) = false) (fun i hi hi2 => by
          rcases (show i + 1 < k ∨ i + 1 = k by omega) with r | r
          · exact hE.out i r hi2
          · have r2 : i = j := by have := HJ.out; omega
            rw [r, r2]; exact e)
        have f1 := leS_ge (ss.getD k default) (ss.getD j default)
        rw [e] at f1
        have f2 : Op.bytesLess (ss.getD j default).toList (ss.getD k default).toList = true := by simpa using f1.symm
        clear f1
        generalize ss.getD k default = y at *
        generalize ss.getD j default = z at *
        clear e hE
        go_wp2
        go_quiet (fail)
        go_wp2
        go_roundw
        case rel => exact ⟨k + 1, by omega, by omega, by go_num, NX.out, _, by first | rfl | exact World.drewN_drewN _ _ _⟩
        case measure => simp [intOf]; omega
      · have RR := Lib.hid (p := decide (riseS ss) = false) (decide_eq_false (fun q => by have hq := q j (by rw [L1.out, ← HJ.out]; exact hlt); rw [← HJ.out] at hq; rw [hq] at e; exact e rfl))
        have e := Bool.eq_false_or_eq_true _ |>.resolve_right e
        have f1 := leS_ge (ss.getD k default) (ss.getD j default)
        rw [e] at f1
        have f2 : Op.bytesLess (ss.getD j default).toList (ss.getD k default).toList = false := by simpa using f1.symm
        clear f1
        generalize ss.getD k default = y at *
        generalize ss.getD j default = z at *
        clear e hE
        go_wp2
        go_quiet (fail)
        go_wp2
        go_ret
        exact ⟨retBP RR.out.symm, _, by first | rfl | exact World.drewN_drewN _ _ _⟩
    · have RR := Lib.hid (p := decide (riseS ss) = true) (decide_eq_true (fun i hi => hE.out i (by rw [L1.out] at hi; omega) hi))
      have kc : ¬ (k : Int) < (n : Int) := by omega
      clear hE
      go_wp2
      go_ret
      exact ⟨retBP RR.out.symm, _, rfl⟩
theorem isWithin_any (x hi : Int) (w : World) : Calls Tryd.prog 55 #[.int .i64 x, .int .i64 hi] w fun e w' => e = .returned (.bool (decide (0 ≤ x) && decide (x ≤ hi))) ∧ w' = w := by
  by_cases h1 : 0 ≤ x
  · have b1 : decide (0 ≤ x) = true := decide_eq_true h1
    by_cases h2 : x ≤ hi
    · have b2 : decide (x ≤ hi) = true := decide_eq_true h2
      go_enter Tryd.func55, Tryd.ntmps55
      go_wp2
      go_ret
      exact ⟨by first | rfl | simp [b1, b2], rfl⟩
    · have b2 : decide (x ≤ hi) = false := decide_eq_false h2
      go_enter Tryd.func55, Tryd.ntmps55
      go_wp2
      go_ret
      exact ⟨by first | rfl | simp [b1, b2], rfl⟩
  · have b1 : decide (0 ≤ x) = false := decide_eq_false h1
    go_enter Tryd.func55, Tryd.ntmps55
    go_wp2
    go_ret
    exact ⟨by first | rfl | simp [b1], rfl⟩
theorem withinR_any (x hi : Int) (w : World) : Calls Tryd.prog 30 #[.int .i64 x, .int .i64 hi] w fun e w' => e = .returned (.bool (decide (0 ≤ x) && decide (x ≤ hi))) ∧ w' = w := by
  by_cases h1 : 0 ≤ x
  · have b1 : decide (0 ≤ x) = true := decide_eq_true h1
    by_cases h2 : x ≤ hi
    · have b2 : decide (x ≤ hi) = true := decide_eq_true h2
      go_enter Tryd.func30, Tryd.ntmps30
      go_wp2
      go_ret
      exact ⟨by first | rfl | simp [b1, b2], rfl⟩
    · have b2 : decide (x ≤ hi) = false := decide_eq_false h2
      go_enter Tryd.func30, Tryd.ntmps30
      go_wp2
      go_ret
      exact ⟨by first | rfl | simp [b1, b2], rfl⟩
  · have b1 : decide (0 ≤ x) = false := decide_eq_false h1
    go_enter Tryd.func30, Tryd.ntmps30
    go_wp2
    go_ret
    exact ⟨by first | rfl | simp [b1], rfl⟩
end Go.Proofs.YtjbbbejadhojlaaDoor
