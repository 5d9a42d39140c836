/-
  PLAIN: names, keywords, currencies (no model in this text).
-/
import Derived.Test.YteedkcmjhdabeaaDoorPlainTells
namespace Go.Proofs.YteedkcmjhdabeaaDoor
namespace Lx
set_option linter.unusedVariables false
set_option linter.unusedSimpArgs false

def kwL : List L := [[100, 101, 97, 108],
  [115, 116, 97, 114, 116],
  [104, 111, 108, 105, 100, 97, 121, 115],
  [111, 98, 115, 101, 114, 118, 101],
  [100, 101, 102],
  [99, 111, 110, 116, 114, 97, 99, 116],
  [122, 101, 114, 111],
  [112, 97, 121],
  [103, 105, 118, 101],
  [115, 99, 97, 108, 101],
  [100, 101, 108, 97, 121],
  [97, 116],
  [105, 102],
  [101, 108, 115, 101],
  [108, 101, 116],
  [105, 110],
  [102, 111, 114],
  [101, 118, 101, 114, 121],
  [102, 114, 111, 109],
  [116, 111],
  [115, 116, 101, 112],
  [102, 111, 108, 108, 111, 119, 105, 110, 103],
  [109, 111, 100, 105, 102, 105, 101, 100],
  [112, 114, 101, 99, 101, 100, 105, 110, 103],
  [97, 99, 99, 117, 109, 117, 108, 97, 116, 101],
  [98, 121],
  [116, 104, 101, 110],
  [119, 104, 101, 110],
  [119, 105, 116, 104, 105, 110],
  [97, 110, 100],
  [116, 114, 117, 101],
  [102, 97, 108, 115, 101],
  [100, 97, 121],
  [109, 105, 110],
  [109, 97, 120],
  [97, 98, 115],
  [114, 97, 116, 105, 111],
  [116, 104, 105, 114, 116, 121],
  [100, 111, 119, 110],
  [102, 108, 111, 111, 114],
  [99, 101, 105, 108],
  [104, 97, 108, 102, 95, 117, 112],
  [104, 97, 108, 102, 95, 101, 118, 101, 110]]
def kwB (l : L) : Bool := decide (l ∈ kwL)
def nameB (p : Nat → Bool) (l : L) : Bool := !l.isEmpty && p (l.headD 0).toNat && decide ((nameE p l).2 = 0)
def curB : L → Bool
  | [a, b, c] => cpN a.toNat && cpN b.toNat && cpN c.toNat
  | _ => false
theorem kw_all : kwL.all (fun l => nameB smN l) = true := by decide
theorem kw_name {l : L} (h : kwB l = true) : nameB smN l = true := by
  have := List.all_eq_true.1 kw_all l (of_decide_eq_true h)
  exact this
theorem nameB_parts {p : Nat → Bool} {l : L} (h : nameB p l = true) : l ≠ [] ∧ p (l.headD 0).toNat = true ∧ (nameE p l).2 = 0 := by
  unfold nameB at h
  simp only [Bool.and_eq_true, decide_eq_true_eq, Bool.not_eq_true', List.isEmpty_eq_false_iff] at h
  exact ⟨h.1.1, h.1.2, h.2⟩
theorem nameE_ok {p : Nat → Bool} {l : L} (h : (nameE p l).2 = 0) : nameI p l = l.length ∧ l.length ≤ 31 ∧ nameE p l = (0, 0) := by
  have hl : nameI p l ≤ l.length := take_len _ l
  unfold nameE at h ⊢
  by_cases h1 : nameI p l < l.length
  · rw [if_pos h1] at h; cases h
  · rw [if_neg h1] at h ⊢
    by_cases h2 : 31 < l.length
    · rw [if_pos h2] at h; cases h
    · rw [if_neg h2]; exact ⟨by omega, by omega, rfl⟩
theorem takeW_all {p : UInt8 → Bool} {l : L} (h : (l.takeWhile p).length = l.length) : ∀ c ∈ l, p c = true := by
  have e : l.takeWhile p = l := by rw [take_eq, h, List.take_length]
  intro c hc
  rw [← e] at hc
  have key : ∀ (l : L) (x : UInt8), x ∈ l.takeWhile p → p x = true := by
    intro l
    induction l with
    | nil => intro x hx; simp at hx
    | cons d l ih =>
      intro x hx
      rw [List.takeWhile_cons] at hx
      split at hx
      · rcases List.mem_cons.1 hx with rfl | hx
        · assumption
        · exact ih x hx
      · simp at hx
  exact key l c hc
theorem takeW_self {p : UInt8 → Bool} : ∀ {l : L}, (∀ c ∈ l, p c = true) → l.takeWhile p = l
  | [], _ => rfl
  | c :: l, h => by
    rw [List.takeWhile_cons, if_pos (h c List.mem_cons_self), takeW_self (fun d hd => h d (List.mem_cons_of_mem _ hd))]
theorem nm_rn {p : Nat → Bool} (hp : ∀ c, p c = true → rnN c = true) {c : Nat} (h : nmN p c = true) : rnN c = true := by
  unfold nmN at h
  simp only [Bool.or_eq_true, decide_eq_true_eq] at h
  rcases h with (h | h) | h
  · exact hp c h
  · exact rn_dg h
  · subst h; rfl
theorem run_name {p : Nat → Bool} (hp : ∀ c, p c = true → rnN c = true) {l : L} (h : (nameE p l).2 = 0) : run l = l := by
  have hall := takeW_all (nameE_ok h).1
  exact takeW_self (fun c hc => nm_rn hp (hall c hc))
theorem fits_dg {c : UInt8} {q : L} (h : dgN c.toNat = false) : fits form (c :: q) = false := by
  show (fitN c.toNat 48 && _) = false
  rw [show fitN c.toNat 48 = dgN c.toNat from rfl, h]; rfl
theorem sm_not {c : Nat} (h : smN c = true) : blN c = false ∧ c ≠ 35 ∧ dgN c = false ∧ cpN c = false := by
  simp only [smN, Bool.and_eq_true, decide_eq_true_eq] at h
  refine ⟨by unfold blN; simp; omega, by omega, by unfold dgN; simp; omega, by unfold cpN; simp; omega⟩
theorem cp_not {c : Nat} (h : cpN c = true) : blN c = false ∧ c ≠ 35 ∧ dgN c = false ∧ smN c = false := by
  simp only [cpN, Bool.and_eq_true, decide_eq_true_eq] at h
  refine ⟨by unfold blN; simp; omega, by omega, by unfold dgN; simp; omega, by unfold smN; simp; omega⟩
theorem sc_small {l : L} (h : nameB smN l = true) : Sc l 0 [⟨1, l, 0, 0, 0, 0, 0, 0, 0⟩] 0 0 := by
  obtain ⟨h1, h2, h3⟩ := nameB_parts h
  obtain ⟨k1, k2, k3, k4⟩ := sm_not h2
  cases l with
  | nil => exact absurd rfl h1
  | cons c q =>
    rw [List.headD_cons] at h2 k1 k2 k3
    have hs : step (c :: q) = .tok ⟨1, c :: q, 0, 0, 0, 0, 0, 0, 0⟩ := by
      unfold step
      rw [List.headD_cons, if_neg (by rw [k1]; simp), if_neg k2, if_neg (by rw [fits_dg k3]; simp), if_neg (by rw [k3]; simp), if_pos h2, run_name (fun c => rn_sm) h3]
      unfold namT
      rw [if_pos h3]
    have := Sc.tok (at_ := 0) (ts := []) (p := 0) (e := 0) (by simp) hs (by simpa using Sc.done _)
    exact this
theorem sc_capital {l : L} (h : nameB cpN l = true) : Sc l 0 [⟨2, l, 0, 0, 0, 0, 0, 0, 0⟩] 0 0 := by
  obtain ⟨h1, h2, h3⟩ := nameB_parts h
  obtain ⟨k1, k2, k3, k4⟩ := cp_not h2
  cases l with
  | nil => exact absurd rfl h1
  | cons c q =>
    rw [List.headD_cons] at h2 k1 k2 k3 k4
    have hs : step (c :: q) = .tok ⟨2, c :: q, 0, 0, 0, 0, 0, 0, 0⟩ := by
      unfold step
      rw [List.headD_cons, if_neg (by rw [k1]; simp), if_neg k2, if_neg (by rw [fits_dg k3]; simp), if_neg (by rw [k3]; simp), if_neg (by rw [k4]; simp), if_pos h2, run_name (fun c => rn_cp) h3]
      unfold namT
      rw [if_pos h3]
    have := Sc.tok (at_ := 0) (ts := []) (p := 0) (e := 0) (by simp) hs (by simpa using Sc.done _)
    exact this
def z1 (t : Tok) : Tok := { t with a := 0 }
theorem Sc.low {r : L} {at_ : Nat} {ts : List Tok} {p : Nat} {e : Int} (h : Sc r at_ ts p e) : ∀ t ∈ ts, (at_ : Int) ≤ t.a := by
  induction h with
  | done a => intro t ht; simp at ht
  | skip hr h k ih => intro t ht; have := ih t ht; omega
  | tok hr h k ih =>
    intro t ht
    rcases List.mem_cons.1 ht with rfl | ht
    · exact Int.le_refl _
    · have := ih t ht; omega
  | err hr h => intro t ht; simp at ht
/-- One token that is the whole text comes about at once. -/
theorem whole_step {l : L} {t : Tok} {p : Nat} (h : Sc l 0 [t] p 0) (ht : t.t = l) : step l = .tok (z1 t) := by
  have hT := h.tells
  rw [if_pos rfl] at hT
  obtain ⟨a, e1, e2, e3, e4, e5, e6, e7⟩ := hT
  rw [ht] at e3 e4
  obtain rfl : a = 0 := by omega
  cases h with
  | skip hr hs k =>
    exfalso
    have g := step_good hr
    rw [hs] at g
    have := Sc.low k t (by simp)
    rw [e1] at this
    have := g.1
    omega
  | tok hr hs k =>
    have g := step_good hr
    rw [hs] at g
    rw [hs]
    rename_i t0
    have : t0.a = 0 := g.2.2
    cases t0
    simp only at this
    subst this
    rfl
theorem whole_kind {l : L} {t : Tok} {p : Nat} (h : Sc l 0 [t] p 0) (ht : t.t = l) : (t.k = 1 → nameB smN l = true) ∧ (t.k = 2 → nameB cpN l = true) := by
  have hs := whole_step h ht
  have hne : l ≠ [] := by
    intro e; subst e
    cases h with
    | skip hr _ _ => exact hr rfl
    | tok hr _ _ => exact hr rfl
  have hk : (z1 t).k = t.k := rfl
  obtain ⟨_, _, ⟨h1, h2⟩ | ⟨h1, h2⟩⟩ := step_tok hs
  · have : t.k = 4 := by
      unfold datT at h2
      split at h2
      · injection h2 with h2; rw [← hk, ← h2]
      · cases h2
    exact ⟨fun q => by omega, fun q => by omega⟩
  · rcases h2 with ⟨_, h2⟩ | ⟨_, hsm, h2⟩ | ⟨_, _, hcp, h2⟩ | ⟨_, _, _, h2⟩
    · have : t.k = 3 ∨ t.k = 5 := by
        unfold digT at h2
        split at h2
        · cases h2
        · split at h2
          · injection h2 with h2; left; rw [← hk, ← h2]
          · split at h2
            · cases h2
            · injection h2 with h2; right; rw [← hk, ← h2]
      exact ⟨fun q => by omega, fun q => by omega⟩
    · have h3 := namT_text h2
      rw [show (z1 t).t = t.t from rfl, ht] at h3
      rw [← h3] at h2
      have h4 : (nameE smN l).2 = 0 ∧ t.k = 1 := by
        unfold namT at h2
        split at h2
        · rename_i hq; injection h2 with h2; exact ⟨hq, by rw [← hk, ← h2]⟩
        · cases h2
      refine ⟨fun _ => ?_, fun q => by omega⟩
      unfold nameB
      rw [hsm, decide_eq_true h4.1]
      cases l with
      | nil => exact absurd rfl hne
      | cons c q => rfl
    · have h3 := namT_text h2
      rw [show (z1 t).t = t.t from rfl, ht] at h3
      rw [← h3] at h2
      have h4 : (nameE cpN l).2 = 0 ∧ t.k = 2 := by
        unfold namT at h2
        split at h2
        · rename_i hq; injection h2 with h2; exact ⟨hq, by rw [← hk, ← h2]⟩
        · cases h2
      refine ⟨fun q => by omega, fun _ => ?_⟩
      unfold nameB
      rw [hcp, decide_eq_true h4.1]
      cases l with
      | nil => exact absurd rfl hne
      | cons c q => rfl
    · have : t.k = 6 := by
        unfold marT at h2
        split at h2
        · injection h2 with h2; rw [← hk, ← h2]
        · split at h2
          · injection h2 with h2; rw [← hk, ← h2]
          · cases h2
      exact ⟨fun q => by omega, fun q => by omega⟩
theorem small_not_capital {l : L} (h : nameB smN l = true) : nameB cpN l = false := by
  cases hq : nameB cpN l with
  | false => rfl
  | true =>
    have a := (nameB_parts h).2.1
    have b := (sm_not a).2.2.2
    rw [(nameB_parts hq).2.1] at b; cases b
theorem cur_name {l : L} (h : curB l = true) : nameB cpN l = true ∧ l.length = 3 := by
  match l, h with
  | [a, b, c], h =>
    simp only [curB, Bool.and_eq_true] at h
    refine ⟨?_, rfl⟩
    unfold nameB nameE nameI
    simp [nmN, h.1.1, h.1.2, h.2]
/-- A capital name of three bytes that is no currency has a digit or a bar. -/
theorem cap_three {a b c : UInt8} (h : nameB cpN [a, b, c] = true) (h' : curB [a, b, c] = false) : b.toNat < 65 ∨ b.toNat = 95 ∨ c.toNat < 65 ∨ c.toNat = 95 := by
  obtain ⟨_, h2, h3⟩ := nameB_parts h
  have hall := takeW_all (nameE_ok h3).1
  have hb := hall b (by simp)
  have hc := hall c (by simp)
  rw [List.headD_cons] at h2
  simp only [curB] at h'
  simp only [nmN, Bool.or_eq_true, decide_eq_true_eq] at hb hc
  rcases hb with (hb | hb) | hb
  · rcases hc with (hc | hc) | hc
    · rw [h2, hb, hc] at h'; cases h'
    · simp only [dgN, Bool.and_eq_true, decide_eq_true_eq] at hc; omega
    · omega
  · simp only [dgN, Bool.and_eq_true, decide_eq_true_eq] at hb; omega
  · omega
end Lx
end Go.Proofs.YteedkcmjhdabeaaDoor
