import Derived.Test.YtpfjnnkjoabgbaaGreatDoorXAI
import Derived.Lib.AtoiAll
import Derived.Test.YtpfjnnkjoabgbaaGreatDoorRows
import Derived.Below
import Derived.BigCall
import Derived.BigGuard
import Derived.BigQuiet
import Derived.Deep.QuietTactic
import Derived.WalkKit
import Derived.WalkSpells
import Derived.Lib.Hide
namespace Go.Proofs.YtpfjnnkjoabgbaaGreatDoor
namespace Lx
set_option linter.unusedVariables false
set_option linter.unusedSimpArgs false

abbrev L := List UInt8
def smN (c : Nat) : Bool := decide (97 ≤ c) && decide (c ≤ 122)
def cpN (c : Nat) : Bool := decide (65 ≤ c) && decide (c ≤ 90)
def dgN (c : Nat) : Bool := decide (48 ≤ c) && decide (c ≤ 57)
def rnN (c : Nat) : Bool := smN c || cpN c || dgN c || decide (c = 95)
def blN (c : Nat) : Bool := decide (c = 32) || decide (c = 9) || decide (c = 10) || decide (c = 13)
def mkL : List Nat := [40, 41, 123, 125, 91, 93, 44, 59, 61, 43, 45, 42, 47, 37, 60, 62, 33, 63, 58]
def mkN (c : Nat) : Bool := decide (c ∈ mkL)
def unN (c : Nat) : Int := if c = 100 then 1 else if c = 119 then 2 else if c = 109 then 3 else if c = 121 then 4 else 0
def fitN (c f : Nat) : Bool := if f = 48 then dgN c else decide (c = f)
def form : List Nat := [48, 48, 48, 48, 45, 48, 48, 45, 48, 48]
/-- Begins with the form, and then no byte of a run. -/
def fits : List Nat → L → Bool
  | [], [] => true
  | [], c :: _ => !rnN c.toNat
  | _ :: _, [] => false
  | f :: fs, c :: r => fitN c.toNat f && fits fs r
def run (r : L) : L := r.takeWhile (fun c => rnN c.toNat)
def com (r : L) : Nat := (r.takeWhile (fun c => !decide (c.toNat = 10))).length
def prL : List (Nat × Nat) := [(46, 46), (60, 61), (62, 61), (61, 61), (33, 61), (38, 38), (124, 124)]
def pairN (a b : Nat) : Bool := decide ((a, b) ∈ prL)
def isPair : L → Bool
  | a :: b :: _ => pairN a.toNat b.toNat
  | _ => false
structure Tok where
  k : Int
  t : L
  a : Int
  num : Int
  y : Int
  m : Int
  d : Int
  n : Int
  u : Int
  deriving DecidableEq
inductive St where
  | skip (n : Nat)
  | tok (t : Tok)
  | err (s : Nat) (e : Int)
/-- A name's byte. -/
def nmN (p : Nat → Bool) (c : Nat) : Bool := p c || dgN c || decide (c = 95)
def nameI (p : Nat → Bool) (r : L) : Nat := (r.takeWhile (fun c => nmN p c.toNat)).length
def nameE (p : Nat → Bool) (r : L) : Nat × Int := if nameI p r < r.length then (nameI p r, 61) else if 31 < r.length then (0, 6) else (0, 0)
def allD (r : L) : Bool := r.all fun c => dgN c.toNat
def numO (d : L) : Option Int :=
  if (d.headD 0).toNat = 48 ∧ 1 < d.length then none
  else if allD d = true then (match Lib.atoiAll d with | .ok v => some v | _ => none) else none
def lastN (d : L) : Nat := (d.getLast?.getD 0).toNat
def digT (d : L) : St :=
  match numO (if unN (lastN d) = 0 then d else d.dropLast) with
  | none => .err 0 62
  | some n => if unN (lastN d) = 0 then .tok ⟨3, d, 0, n, 0, 0, 0, 0, 0⟩ else if n < 1 ∨ 999 < n then .err 0 62 else .tok ⟨5, d, 0, 0, 0, 0, 0, n, unN (lastN d)⟩
def dvL (l : L) : Int := l.foldl (fun a c => 10 * a + ((c.toNat : Int) - 48)) 0
def dY (r : L) : Int := dvL (r.take 4)
def dM (r : L) : Int := dvL ((r.drop 5).take 2)
def dD (r : L) : Int := dvL ((r.drop 8).take 2)
def datT (r : L) : St := if Cal.exB (dY r) (dM r) (dD r) = true then .tok ⟨4, r.take 10, 0, 0, dY r, dM r, dD r, 0, 0⟩ else .err 0 62
def namT (p : Nat → Bool) (k : Int) (d : L) : St := if (nameE p d).2 = 0 then .tok ⟨k, d, 0, 0, 0, 0, 0, 0, 0⟩ else .err (nameE p d).1 (nameE p d).2
def marT (r : L) : St := if isPair r = true then .tok ⟨6, r.take 2, 0, 0, 0, 0, 0, 0, 0⟩ else if mkN (r.headD 0).toNat = true then .tok ⟨6, r.take 1, 0, 0, 0, 0, 0, 0, 0⟩ else .err 0 61
def step (r : L) : St :=
  if blN (r.headD 0).toNat = true then .skip 1
  else if (r.headD 0).toNat = 35 then .skip (com r)
  else if fits form r = true then datT (r.take 10)
  else if dgN (r.headD 0).toNat = true then digT (run r)
  else if smN (r.headD 0).toNat = true then namT smN 1 (run r)
  else if cpN (r.headD 0).toNat = true then namT cpN 2 (run r)
  else marT r
/-- What a text from a place on is cut into. -/
inductive Sc : L → Nat → List Tok → Nat → Int → Prop
  | done (at_ : Nat) : Sc [] at_ [] 0 0
  | skip {r : L} {at_ n : Nat} {ts : List Tok} {p : Nat} {e : Int} (hr : r ≠ []) (h : step r = .skip n) (k : Sc (r.drop n) (at_ + n) ts p e) : Sc r at_ ts p e
  | tok {r : L} {at_ : Nat} {t : Tok} {ts : List Tok} {p : Nat} {e : Int} (hr : r ≠ []) (h : step r = .tok t) (k : Sc (r.drop t.t.length) (at_ + t.t.length) ts p e) : Sc r at_ ({ t with a := at_ } :: ts) p e
  | err {r : L} {at_ s : Nat} {e : Int} (hr : r ≠ []) (h : step r = .err s e) : Sc r at_ [] (at_ + s) e
theorem Sc.only {r : L} {at_ : Nat} {ts : List Tok} {p : Nat} {e : Int} (h : Sc r at_ ts p e) : ∀ {ts' : List Tok} {p' : Nat} {e' : Int}, Sc r at_ ts' p' e' → ts' = ts ∧ p' = p ∧ e' = e := by
  induction h with
  | done a => intro ts' p' e' h'; cases h' <;> first | exact ⟨rfl, rfl, rfl⟩ | (rename_i g _ _; exact absurd rfl g) | (rename_i g _; exact absurd rfl g) | simp_all
  | skip hr h k ih =>
    intro ts' p' e' h'
    cases h' with
    | done a => exact absurd rfl hr
    | skip hr' h' k' => rw [h] at h'; injection h' with h'; subst h'; exact ih k'
    | tok hr' h' k' => rw [h] at h'; cases h'
    | err hr' h' => rw [h] at h'; cases h'
  | tok hr h k ih =>
    intro ts' p' e' h'
    cases h' with
    | done a => exact absurd rfl hr
    | skip hr' h' k' => rw [h] at h'; cases h'
    | tok hr' h' k' => rw [h] at h'; injection h' with h'; subst h'; obtain ⟨rfl, rfl, rfl⟩ := ih k'; exact ⟨rfl, rfl, rfl⟩
    | err hr' h' => rw [h] at h'; cases h'
  | err hr h =>
    intro ts' p' e' h'
    cases h' with
    | done a => exact absurd rfl hr
    | skip hr' h' k' => rw [h] at h'; cases h'
    | tok hr' h' k' => rw [h] at h'; cases h'
    | err hr' h' => rw [h] at h'; injection h' with h1 h2; subst h1; subst h2; exact ⟨rfl, rfl, rfl⟩

theorem take_len (p : UInt8 → Bool) (r : L) : (r.takeWhile p).length ≤ r.length := (List.takeWhile_prefix p).length_le
theorem run_len (r : L) : (run r).length ≤ r.length := take_len _ r
theorem run_pos {r : L} (hr : r ≠ []) (h : rnN (r.headD 0).toNat = true) : 0 < (run r).length := by
  cases r with
  | nil => exact absurd rfl hr
  | cons c r => simp only [List.headD_cons] at h; simp [run, h]
theorem rn_dg {c : Nat} (h : dgN c = true) : rnN c = true := by unfold rnN; rw [h]; simp
theorem rn_sm {c : Nat} (h : smN c = true) : rnN c = true := by unfold rnN; rw [h]; simp
theorem rn_cp {c : Nat} (h : cpN c = true) : rnN c = true := by unfold rnN; rw [h]; simp
theorem fits_len : ∀ {fs : List Nat} {r : L}, fits fs r = true → fs.length ≤ r.length
  | [], r, h => Nat.zero_le _
  | f :: fs, [], h => by simp [fits] at h
  | f :: fs, c :: r, h => by simp only [fits, Bool.and_eq_true] at h; simp only [List.length_cons]; have := fits_len h.2; omega
/-- A token is what it stands on: its text is the text's beginning, not empty. -/
def Good (r : L) : St → Prop
  | .skip n => 0 < n ∧ n ≤ r.length
  | .tok t => 0 < t.t.length ∧ t.t = r.take t.t.length ∧ t.a = 0
  | .err s e => s < r.length ∧ e ≠ 0 ∧ (e = 6 ∨ e = 61 ∨ e = 62)
theorem take_eq (p : UInt8 → Bool) (r : L) : r.takeWhile p = r.take (r.takeWhile p).length := (List.prefix_iff_eq_take.1 (List.takeWhile_prefix p))
theorem run_eq (r : L) : run r = r.take (run r).length := take_eq _ r
theorem digT_good {r : L} (h0 : 0 < (run r).length) (hl : (run r).length ≤ r.length) : Good r (digT (run r)) := by
  unfold digT
  split
  · exact ⟨by omega, by omega, .inr (.inr rfl)⟩
  · split
    · exact ⟨h0, run_eq r, rfl⟩
    · split
      · exact ⟨by omega, by omega, .inr (.inr rfl)⟩
      · exact ⟨h0, run_eq r, rfl⟩
theorem namT_good {r : L} (p : Nat → Bool) (k : Int) (h0 : 0 < (run r).length) (hl : (run r).length ≤ r.length) : Good r (namT p k (run r)) := by
  unfold namT
  split
  · exact ⟨h0, run_eq r, rfl⟩
  · rename_i h
    unfold nameE at h ⊢
    split
    · exact ⟨by simp only; omega, by simp, .inr (.inl rfl)⟩
    · split
      · exact ⟨by simp only; omega, by simp, .inl rfl⟩
      · rename_i h1 h2; rw [if_neg h1, if_neg h2] at h; exact absurd rfl h
theorem marT_good {r : L} (hr : r ≠ []) : Good r (marT r) := by
  have : 0 < r.length := by cases r <;> simp_all
  unfold marT
  split
  · rename_i h
    have : 2 ≤ r.length := by
      match r, h with
      | a :: b :: q, h => simp
    exact ⟨by rw [List.length_take]; omega, by rw [List.length_take, Nat.min_eq_left this], rfl⟩
  · split
    · exact ⟨by rw [List.length_take]; omega, by rw [List.length_take, Nat.min_eq_left (by omega)], rfl⟩
    · exact ⟨by omega, by omega, .inr (.inl rfl)⟩
theorem datT_good {r : L} (h : fits form r = true) : Good r (datT (r.take 10)) := by
  have hl := fits_len h
  simp only [form, List.length_cons, List.length_nil] at hl
  unfold datT
  split
  · rename_i hx
    show 0 < ((r.take 10).take 10).length ∧ (r.take 10).take 10 = r.take ((r.take 10).take 10).length ∧ _
    rw [List.take_take, Nat.min_self, List.length_take, Nat.min_eq_left hl]
    exact ⟨by omega, rfl, rfl⟩
  · exact ⟨by omega, by omega, .inr (.inr rfl)⟩
theorem step_good {r : L} (hr : r ≠ []) : Good r (step r) := by
  have h0 : 0 < r.length := by cases r <;> simp_all
  unfold step
  split
  · exact ⟨by omega, by omega⟩
  · split
    · rename_i h
      refine ⟨?_, take_len _ r⟩
      cases r with
      | nil => exact absurd rfl hr
      | cons c q => simp only [List.headD_cons] at h; simp [com, h]
    · split
      · rename_i h; exact datT_good h
      · split
        · rename_i h; exact digT_good (run_pos hr (rn_dg h)) (run_len r)
        · split
          · rename_i h; exact namT_good _ _ (run_pos hr (rn_sm h)) (run_len r)
          · split
            · rename_i h; exact namT_good _ _ (run_pos hr (rn_cp h)) (run_len r)
            · exact marT_good hr

/-! With a blank behind. -/
theorem fitN_bl {c f : Nat} (hc : blN c = true) (hf : f = 48 ∨ f = 45) : fitN c f = false := by
  simp only [blN, Bool.or_eq_true, decide_eq_true_eq] at hc
  rcases hf with rfl | rfl <;> simp only [fitN, dgN] <;> rcases hc with ((rfl | rfl) | rfl) | rfl <;> rfl
theorem rnN_bl {c : Nat} (hc : blN c = true) : rnN c = false := by
  simp only [blN, Bool.or_eq_true, decide_eq_true_eq] at hc
  rcases hc with ((rfl | rfl) | rfl) | rfl <;> rfl
theorem fits_sep (b : UInt8) (q : L) (hb : blN b.toNat = true) : ∀ (fs : List Nat) (r : L), (∀ f ∈ fs, f = 48 ∨ f = 45) → fits fs (r ++ b :: q) = fits fs r
  | [], [], _ => by simp [fits, rnN_bl hb]
  | [], c :: r, _ => rfl
  | f :: fs, [], h => by simp [fits, fitN_bl hb (h f List.mem_cons_self)]
  | f :: fs, c :: r, h => by
    simp only [List.cons_append, fits]
    rw [fits_sep b q hb fs r (fun g hg => h g (List.mem_cons_of_mem _ hg))]
theorem takeW_sep (p : UInt8 → Bool) (b : UInt8) (q : L) (hb : p b = false) : ∀ r : L, (r ++ b :: q).takeWhile p = r.takeWhile p
  | [] => by simp [hb]
  | c :: r => by
    simp only [List.cons_append, List.takeWhile_cons]
    rw [takeW_sep p b q hb r]
theorem pair_bl {a b : Nat} (hb : blN b = true) : pairN a b = false := by
  simp only [blN, Bool.or_eq_true, decide_eq_true_eq] at hb
  unfold pairN prL
  rcases hb with ((rfl | rfl) | rfl) | rfl <;> simp
theorem isPair_sep (b : UInt8) (q : L) (hb : blN b.toNat = true) : ∀ r : L, r ≠ [] → isPair (r ++ b :: q) = isPair r
  | [], h => absurd rfl h
  | [c], _ => pair_bl hb
  | c :: d :: r, _ => rfl
theorem head_app {r q : L} (hr : r ≠ []) : (r ++ q).headD 0 = r.headD 0 := by cases r <;> simp_all
theorem form_ok : ∀ f ∈ form, f = 48 ∨ f = 45 := by decide
theorem marT_sep (b : UInt8) (q : L) (hb : blN b.toNat = true) {r : L} (hr : r ≠ []) : marT (r ++ b :: q) = marT r := by
  unfold marT
  rw [isPair_sep b q hb r hr, head_app hr]
  have h1 : (r ++ b :: q).take 1 = r.take 1 := by cases r <;> simp_all
  have h2 : isPair r = true → (r ++ b :: q).take 2 = r.take 2 := fun h => by
    match r, h with
    | x :: y :: z, h => simp
  split
  · rename_i h; rw [h2 h]
  · rw [h1]
theorem step_sep (b : UInt8) (q : L) (hb : blN b.toNat = true) {r : L} (hr : r ≠ []) (hc : b.toNat = 10 ∨ ∀ n, step r ≠ .skip n) : step (r ++ b :: q) = step r := by
  have hrun : run (r ++ b :: q) = run r := takeW_sep _ b q (rnN_bl hb) r
  have hcom : b.toNat = 10 → com (r ++ b :: q) = com r := fun h => by unfold com; rw [takeW_sep _ b q (by simp [h]) r]
  have hdat : fits form r = true → (r ++ b :: q).take 10 = r.take 10 := fun h => by
    have hl := fits_len h
    simp only [form, List.length_cons, List.length_nil] at hl
    rw [List.take_append_of_le_length (by omega)]
  unfold step
  rw [head_app hr, fits_sep b q hb form r form_ok, hrun, marT_sep b q hb hr]
  split
  · rfl
  · rename_i h1
    split
    · rename_i h2
      rcases hc with hc | hc
      · rw [hcom hc]
      · exact absurd (show step r = .skip (com r) by unfold step; rw [if_neg h1, if_pos h2]) (hc _)
    · split
      · rename_i h; rw [hdat h]
      · rfl
/-- With a line's end behind: what goes wrong goes wrong alike, what goes well goes on. -/
theorem Sc.more (q : L) {r : L} {at_ : Nat} {ts : List Tok} {p : Nat} {e : Int} (h : Sc r at_ ts p e) :
    (e ≠ 0 → Sc (r ++ 10 :: q) at_ ts p e) ∧ (e = 0 → ∀ ts' p' e', Sc q (at_ + r.length + 1) ts' p' e' → Sc (r ++ 10 :: q) at_ (ts ++ ts') p' e') := by
  induction h with
  | done a => exact ⟨fun h => absurd rfl h, fun _ ts' p' e' h => .skip (n := 1) (by simp) (by rfl) (by simpa using h)⟩
  | @skip r at_ n ts p e hr h k ih =>
    have g := step_good hr
    rw [h] at g
    have hs := step_sep 10 q rfl hr (.inl rfl)
    rw [h] at hs
    have hd : (r ++ 10 :: q).drop n = r.drop n ++ 10 :: q := by rw [List.drop_append_of_le_length g.2]
    refine ⟨fun he => .skip (by simp) hs (by rw [hd]; exact ih.1 he), fun he ts' p' e' k' => .skip (by simp) hs (by rw [hd]; refine ih.2 he _ _ _ ?_; rw [List.length_drop]; rw [show at_ + n + (r.length - n) + 1 = at_ + r.length + 1 by have := g.2; omega]; exact k')⟩
  | @tok r at_ t ts p e hr h k ih =>
    have g := step_good hr
    rw [h] at g
    have hl : t.t.length ≤ r.length := by have := congrArg List.length g.2.1; simp at this; omega
    have hs := step_sep 10 q rfl hr (.inl rfl)
    rw [h] at hs
    have hd : (r ++ 10 :: q).drop t.t.length = r.drop t.t.length ++ 10 :: q := by rw [List.drop_append_of_le_length hl]
    refine ⟨fun he => .tok (by simp) hs (by rw [hd]; exact ih.1 he), fun he ts' p' e' k' => .tok (by simp) hs (by rw [hd]; refine ih.2 he _ _ _ ?_; rw [List.length_drop]; rw [show at_ + t.t.length + (r.length - t.t.length) + 1 = at_ + r.length + 1 by omega]; exact k')⟩
  | @err r at_ s e hr h =>
    have g := step_good hr
    rw [h] at g
    have hs := step_sep 10 q rfl hr (.inl rfl)
    rw [h] at hs
    exact ⟨fun _ => .err (by simp) hs, fun he => absurd he g.2.1⟩
/-- Every text is cut. -/
theorem Sc.total : ∀ (n : Nat) (r : L) (at_ : Nat), r.length ≤ n → ∃ ts p e, Sc r at_ ts p e
  | 0, r, at_, h => by
    have : r = [] := List.eq_nil_of_length_eq_zero (by omega)
    subst this
    exact ⟨_, _, _, .done _⟩
  | n + 1, r, at_, h => by
    by_cases hr : r = []
    · subst hr; exact ⟨_, _, _, .done _⟩
    · have g := step_good hr
      cases hs : step r with
      | skip k =>
        rw [hs] at g
        obtain ⟨ts, p, e, h1⟩ := Sc.total n (r.drop k) (at_ + k) (by rw [List.length_drop]; have := g.1; have := g.2; omega)
        exact ⟨_, _, _, .skip hr hs h1⟩
      | tok t =>
        rw [hs] at g
        obtain ⟨ts, p, e, h1⟩ := Sc.total n (r.drop t.t.length) (at_ + t.t.length) (by rw [List.length_drop]; have := g.1; have : 0 < r.length := List.length_pos_iff.2 hr; omega)
        exact ⟨_, _, _, .tok hr hs h1⟩
      | err s e => exact ⟨_, _, _, .err hr hs⟩
end Lx
end Go.Proofs.YtpfjnnkjoabgbaaGreatDoor

namespace Go.Proofs.YtpfjnnkjoabgbaaGreatDoor
open Go.RowKit Lx
set_option linter.unusedVariables false
set_option linter.unusedSimpArgs false

theorem smN_no1 {c : Nat} (h : ¬ 97 ≤ c) : smN c = false := by unfold smN; rw [decide_eq_false h]; rfl
theorem smN_at {c : Nat} (h : 97 ≤ c) : smN c = decide (c ≤ 122) := by unfold smN; rw [decide_eq_true h]; rfl
theorem cpN_no1 {c : Nat} (h : ¬ 65 ≤ c) : cpN c = false := by unfold cpN; rw [decide_eq_false h]; rfl
theorem cpN_at {c : Nat} (h : 65 ≤ c) : cpN c = decide (c ≤ 90) := by unfold cpN; rw [decide_eq_true h]; rfl
theorem isCapital_any (c : Nat) (w : World) : Calls Tryz.prog 145 #[.int .u8 (c : Int)] w fun e w' => e = .returned (.bool (cpN c)) ∧ w' = w := by
  by_cases h1 : 65 ≤ c
  · have h1' : (65 : Int) ≤ (c : Int) := by omega
    by_cases h2 : c ≤ 90
    · have h2' : (c : Int) ≤ 90 := by omega
      rw [cpN_at h1, decide_eq_true h2]
      clear h1 h2
      go_enter Tryz.func145, Tryz.ntmps145
      go_wp2
      go_ret
      exact ⟨rfl, rfl⟩
    · have h2' : ¬ (c : Int) ≤ 90 := by omega
      rw [cpN_at h1, decide_eq_false h2]
      clear h1 h2
      go_enter Tryz.func145, Tryz.ntmps145
      go_wp2
      go_ret
      exact ⟨rfl, rfl⟩
  · have h1' : decide ((65 : Int) ≤ (c : Int)) = false := decide_eq_false (by omega)
    rw [cpN_no1 h1]
    clear h1
    go_enter Tryz.func145, Tryz.ntmps145
    go_wp2
    go_ret
    exact ⟨rfl, rfl⟩
theorem dgN_no1 {c : Nat} (h : ¬ 48 ≤ c) : dgN c = false := by unfold dgN; rw [decide_eq_false h]; rfl
theorem dgN_at {c : Nat} (h : 48 ≤ c) : dgN c = decide (c ≤ 57) := by unfold dgN; rw [decide_eq_true h]; rfl
theorem isDigit_any (c : Nat) (w : World) : Calls Tryz.prog 157 #[.int .u8 (c : Int)] w fun e w' => e = .returned (.bool (dgN c)) ∧ w' = w := by
  by_cases h1 : 48 ≤ c
  · have h1' : (48 : Int) ≤ (c : Int) := by omega
    by_cases h2 : c ≤ 57
    · have h2' : (c : Int) ≤ 57 := by omega
      rw [dgN_at h1, decide_eq_true h2]
      clear h1 h2
      go_enter Tryz.func157, Tryz.ntmps157
      go_wp2
      go_ret
      exact ⟨rfl, rfl⟩
    · have h2' : ¬ (c : Int) ≤ 57 := by omega
      rw [dgN_at h1, decide_eq_false h2]
      clear h1 h2
      go_enter Tryz.func157, Tryz.ntmps157
      go_wp2
      go_ret
      exact ⟨rfl, rfl⟩
  · have h1' : decide ((48 : Int) ≤ (c : Int)) = false := decide_eq_false (by omega)
    rw [dgN_no1 h1]
    clear h1
    go_enter Tryz.func157, Tryz.ntmps157
    go_wp2
    go_ret
    exact ⟨rfl, rfl⟩
theorem castI {c k : Nat} (h : ¬ c = k) : ¬ (c : Int) = (k : Int) := by omega
end Go.Proofs.YtpfjnnkjoabgbaaGreatDoor

namespace Go.Proofs.YtpfjnnkjoabgbaaGreatDoor
namespace Lx
set_option linter.unusedVariables false
set_option linter.unusedSimpArgs false

def nthN (r : L) (i : Nat) : Nat := (r.getD i 0).toNat
/-- A run does not go on over the place k. -/
def Bd (r : L) (k : Nat) : Prop := k < r.length → 0 < k → rnN (nthN r (k - 1)) = true → rnN (nthN r k) = false
theorem Bd.drop {r : L} {n k : Nat} (h : Bd (r.drop n) k) (hk : 0 < k) : Bd r (n + k) := by
  intro h1 h2 h3
  have e : ∀ i, nthN (r.drop n) i = nthN r (n + i) := fun i => by simp [nthN, List.getD]
  have := h (by rw [List.length_drop]; omega) hk (by rw [e, show n + (k - 1) = n + k - 1 by omega]; exact h3)
  rwa [e] at this
theorem run_stop : ∀ r : L, (run r).length < r.length → rnN (nthN r (run r).length) = false
  | [], h => by simp [run] at h
  | c :: r, h => by
    unfold run at h ⊢
    by_cases hc : rnN c.toNat = true
    · simp only [List.takeWhile_cons, hc, if_true, List.length_cons] at h ⊢
      have := run_stop r (by unfold run; omega)
      unfold run at this
      simpa [nthN, List.getD] using this
    · have hc' : rnN c.toNat = false := by simpa using hc
      simp [List.takeWhile_cons, hc', nthN]
theorem bd_run (r : L) : Bd r (run r).length := fun h _ _ => run_stop r h
theorem fits_stop : ∀ {fs : List Nat} {r : L}, fits fs r = true → fs.length < r.length → rnN (nthN r fs.length) = false
  | [], [], h, hl => by simp at hl
  | [], c :: r, h, hl => by simpa [fits, nthN] using h
  | f :: fs, [], h, hl => by simp at hl
  | f :: fs, c :: r, h, hl => by
    simp only [fits, Bool.and_eq_true] at h
    have := fits_stop h.2 (by simpa using hl)
    simpa [nthN, List.getD] using this
theorem mk_rn {c : Nat} (h : mkN c = true) : rnN c = false := by
  unfold mkN mkL at h
  have := of_decide_eq_true h
  simp only [List.mem_cons, List.not_mem_nil, or_false] at this
  rcases this with rfl|rfl|rfl|rfl|rfl|rfl|rfl|rfl|rfl|rfl|rfl|rfl|rfl|rfl|rfl|rfl|rfl|rfl|rfl <;> rfl
theorem pair_rn {a b : Nat} (h : pairN a b = true) : rnN b = false := by
  unfold pairN prL at h
  have := of_decide_eq_true h
  simp only [List.mem_cons, List.not_mem_nil, or_false, Prod.mk.injEq] at this
  rcases this with ⟨rfl, rfl⟩|⟨rfl, rfl⟩|⟨rfl, rfl⟩|⟨rfl, rfl⟩|⟨rfl, rfl⟩|⟨rfl, rfl⟩|⟨rfl, rfl⟩ <;> rfl
theorem datT_text {r : L} {t : Tok} (h : datT r = .tok t) : t.t = r.take 10 := by
  unfold datT at h
  split at h
  · injection h with h; rw [← h]
  · cases h
theorem digT_text {d : L} {t : Tok} (h : digT d = .tok t) : t.t = d := by
  unfold digT at h
  split at h
  · cases h
  · split at h
    · injection h with h; rw [← h]
    · split at h
      · cases h
      · injection h with h; rw [← h]
theorem namT_text {p : Nat → Bool} {k : Int} {d : L} {t : Tok} (h : namT p k d = .tok t) : t.t = d := by
  unfold namT at h
  split at h
  · injection h with h; rw [← h]
  · cases h
/-- How a token comes about. -/
theorem step_tok {r : L} {t : Tok} (h : step r = .tok t) :
    blN (r.headD 0).toNat = false ∧ (r.headD 0).toNat ≠ 35 ∧
    ((fits form r = true ∧ datT (r.take 10) = .tok t) ∨
     (fits form r = false ∧ ((dgN (r.headD 0).toNat = true ∧ digT (run r) = .tok t) ∨
       (dgN (r.headD 0).toNat = false ∧ smN (r.headD 0).toNat = true ∧ namT smN 1 (run r) = .tok t) ∨
       (dgN (r.headD 0).toNat = false ∧ smN (r.headD 0).toNat = false ∧ cpN (r.headD 0).toNat = true ∧ namT cpN 2 (run r) = .tok t) ∨
       (dgN (r.headD 0).toNat = false ∧ smN (r.headD 0).toNat = false ∧ cpN (r.headD 0).toNat = false ∧ marT r = .tok t)))) := by
  unfold step at h
  split at h
  · cases h
  · rename_i h1
    split at h
    · cases h
    · rename_i h2
      refine ⟨by simpa using h1, h2, ?_⟩
      split at h
      · rename_i h3; exact .inl ⟨h3, h⟩
      · rename_i h3
        refine .inr ⟨by simpa using h3, ?_⟩
        split at h
        · rename_i h4; exact .inl ⟨h4, h⟩
        · rename_i h4
          split at h
          · rename_i h5; exact .inr (.inl ⟨by simpa using h4, h5, h⟩)
          · rename_i h5
            split at h
            · rename_i h6; exact .inr (.inr (.inl ⟨by simpa using h4, by simpa using h5, h6, h⟩))
            · rename_i h6; exact .inr (.inr (.inr ⟨by simpa using h4, by simpa using h5, by simpa using h6, h⟩))
theorem tok_bd {r : L} {t : Tok} (h : step r = .tok t) : Bd r t.t.length := by
  obtain ⟨_, _, ⟨h1, h2⟩ | ⟨h1, h2⟩⟩ := step_tok h
  · have hl := fits_len h1
    simp only [form, List.length_cons, List.length_nil] at hl
    have e : t.t.length = 10 := by rw [datT_text h2, List.length_take, List.length_take]; omega
    rw [e]
    intro h3 _ _
    exact fits_stop (fs := form) h1 h3
  · rcases h2 with ⟨_, h2⟩ | ⟨_, _, h2⟩ | ⟨_, _, _, h2⟩ | ⟨_, _, _, h2⟩
    · rw [digT_text h2]; exact bd_run r
    · rw [namT_text h2]; exact bd_run r
    · rw [namT_text h2]; exact bd_run r
    · unfold marT at h2
      intro h3 h4 h5
      split at h2
      · rename_i hp
        injection h2 with h2
        match r, hp with
        | a :: b :: q, hp =>
          subst h2
          simp only [isPair] at hp
          simp [nthN, pair_rn hp] at h5
      · split at h2
        · rename_i _ hm
          injection h2 with h2
          subst h2
          cases r with
          | nil => simp at h3
          | cons c q => simp only [List.headD_cons] at hm; simp [nthN, mk_rn hm] at h5
        · cases h2
theorem takeW_take (p : UInt8 → Bool) : ∀ (r : L) (k : Nat), (r.take k).takeWhile p = (r.takeWhile p).take k
  | [], k => by simp
  | c :: r, 0 => by simp
  | c :: r, k + 1 => by
    simp only [List.take_succ_cons, List.takeWhile_cons]
    by_cases hc : p c = true
    · simp [hc, takeW_take p r k]
    · simp [hc]
theorem run_take {r : L} {k : Nat} (h : (run r).length ≤ k) : run (r.take k) = run r := by
  unfold run at h ⊢
  rw [takeW_take, List.take_of_length_le h]
theorem run_cut {r : L} {k : Nat} (hk : 0 < k) (hb : Bd r k) (hl : k < (run r).length → False) : run (r.take k) = run r := run_take (by rcases Nat.lt_or_ge k (run r).length with q | q; exact (hl q).elim; exact q)
theorem run_in {r : L} {i : Nat} (h : i < (run r).length) : rnN (nthN r i) = true := by
  have hl := run_len r
  have hm : (run r)[i] ∈ run r := List.getElem_mem h
  have h1 : rnN ((run r)[i]).toNat = true := by
    have : ∀ (p : UInt8 → Bool) (l : L) (x : UInt8), x ∈ l.takeWhile p → p x = true := by
      intro p l
      induction l with
      | nil => intro x hx; simp at hx
      | cons c l ih =>
        intro x hx
        rw [List.takeWhile_cons] at hx
        split at hx
        · rcases List.mem_cons.1 hx with rfl | hx
          · assumption
          · exact ih x hx
        · simp at hx
    exact this (fun c => rnN c.toNat) r _ hm
  have e : (run r)[i] = r[i]'(by omega) := by
    have := run_eq r
    have h2 : (run r)[i]? = (r.take (run r).length)[i]? := congrArg (fun l : L => l[i]?) this
    rw [List.getElem?_take_of_lt h, List.getElem?_eq_getElem h, List.getElem?_eq_getElem (show i < r.length by omega)] at h2
    injection h2
  rw [e] at h1
  simpa [nthN, List.getD, show i < r.length by omega] using h1
theorem run_short {r : L} {k : Nat} (hk : 0 < k) (hb : Bd r k) (h : k < (run r).length) : False := by
  have hl := run_len r
  have := hb (by omega) hk (run_in (by omega))
  rw [run_in h] at this
  cases this
theorem run_bd {r : L} {k : Nat} (hk : 0 < k) (hb : Bd r k) : run (r.take k) = run r := run_cut hk hb (run_short hk hb)
theorem fits_take : ∀ (fs : List Nat) (r : L) (k : Nat), fs.length ≤ k → fits fs r = true → fits fs (r.take k) = true
  | [], [], k, _, h => by simp [fits]
  | [], c :: r, 0, _, h => by simp [fits]
  | [], c :: r, k + 1, _, h => by simpa [fits] using h
  | f :: fs, [], k, _, h => by simp [fits] at h
  | f :: fs, c :: r, 0, hk, h => by simp at hk
  | f :: fs, c :: r, k + 1, hk, h => by
    simp only [fits, Bool.and_eq_true] at h
    simp only [List.take_succ_cons, fits, Bool.and_eq_true]
    exact ⟨h.1, fits_take fs r k (by simpa using hk) h.2⟩
theorem fits_untake : ∀ (fs : List Nat) (r : L) (k : Nat), (k < r.length → k = fs.length → rnN (nthN r k) = false) → fits fs (r.take k) = true → fits fs r = true
  | [], [], k, _, h => rfl
  | [], c :: r, 0, hk, h => by have := hk (by simp) rfl; simpa [fits, nthN] using this
  | [], c :: r, k + 1, hk, h => by simpa [fits] using h
  | f :: fs, [], k, _, h => by simp [fits] at h
  | f :: fs, c :: r, 0, hk, h => by simp [fits] at h
  | f :: fs, c :: r, k + 1, hk, h => by
    simp only [List.take_succ_cons, fits, Bool.and_eq_true] at h
    simp only [fits, Bool.and_eq_true]
    exact ⟨h.1, fits_untake fs r k (fun a b => by have := hk (by simpa using a) (by simpa using b); simpa [nthN, List.getD] using this) h.2⟩
theorem fits_last {r : L} (h : fits form r = true) : rnN (nthN r 9) = true := by
  have hl : 10 ≤ r.length := fits_len h
  match r, hl, h with
  | c0 :: c1 :: c2 :: c3 :: c4 :: c5 :: c6 :: c7 :: c8 :: c9 :: q, _, h =>
    simp only [form, fits, Bool.and_eq_true] at h
    obtain ⟨_, _, _, _, _, _, _, _, _, h9, _⟩ := h
    have : dgN c9.toNat = true := by simpa [fitN] using h9
    simpa [nthN] using rn_dg this
theorem head_take {r : L} {k : Nat} (hk : 0 < k) : (r.take k).headD 0 = r.headD 0 := by
  cases r with
  | nil => simp
  | cons c r => cases k with
    | zero => omega
    | succ k => simp
theorem step_cut {r : L} {k : Nat} {t : Tok} (hr : r ≠ []) (h : step r = .tok t) (hl : t.t.length ≤ k) (hb : Bd r k) : step (r.take k) = .tok t := by
  have g := step_good hr
  rw [h] at g
  have hk : 0 < k := by have := g.1; omega
  obtain ⟨h1, h2, h3⟩ := step_tok h
  have hrun := run_bd hk hb
  have hh : (r.take k).headD 0 = r.headD 0 := head_take hk
  unfold step
  rw [hh, if_neg (by rw [h1]; simp), if_neg h2]
  rcases h3 with ⟨h3, h4⟩ | ⟨h3, h4⟩
  · have hle := fits_len h3
    simp only [form, List.length_cons, List.length_nil] at hle
    have e : t.t.length = 10 := by rw [datT_text h4, List.length_take, List.length_take]; omega
    rw [if_pos (fits_take form r k (by show 10 ≤ k; omega) h3), List.take_take, Nat.min_eq_left (by omega)]
    exact h4
  · have hf : fits form (r.take k) = false := by
      cases hx : fits form (r.take k) with
      | false => rfl
      | true =>
        have := fits_untake form r k (fun a b => by
          have b' : k = 10 := b
          have h9 := fits_last hx
          refine hb a hk ?_
          rw [b'] at h9 ⊢
          simpa [nthN, List.getD, List.getElem?_take_of_lt] using h9) hx
        rw [this] at h3; cases h3
    rw [if_neg (by rw [hf]; simp), hrun]
    rcases h4 with ⟨a, h4⟩ | ⟨a, b, h4⟩ | ⟨a, b, c, h4⟩ | ⟨a, b, c, h4⟩
    · rw [if_pos a]; exact h4
    · rw [if_neg (by rw [a]; simp), if_pos b]; exact h4
    · rw [if_neg (by rw [a]; simp), if_neg (by rw [b]; simp), if_pos c]; exact h4
    · rw [if_neg (by rw [a]; simp), if_neg (by rw [b]; simp), if_neg (by rw [c]; simp)]
      unfold marT at h4 ⊢
      rw [hh]
      split at h4
      · rename_i hp
        injection h4 with h4
        match r, hp with
        | x :: y :: q, hp =>
          have e : t.t.length = 2 := by rw [← h4]; simp
          have hk2 : 2 ≤ k := by omega
          match k, hk2 with
          | k + 2, _ =>
            rw [if_pos (by simpa [isPair] using hp)]
            rw [← h4]; simp
      · rename_i hp
        have hp' : isPair (r.take k) = false := by
          match r, k, hp with
          | [], k, hp => simp [isPair]
          | [x], 0, hp => simp [isPair]
          | [x], k + 1, hp => simp [isPair]
          | x :: y :: q, 0, hp => simp [isPair]
          | x :: y :: q, 1, hp => simp [isPair]
          | x :: y :: q, k + 2, hp => simpa [isPair] using hp
        rw [if_neg (by rw [hp']; simp)]
        split at h4
        · rename_i hm
          rw [if_pos hm, List.take_take, Nat.min_eq_left hk]
          exact h4
        · cases h4
/-- A token's own text is cut into it. -/
theorem step_self {r : L} {t : Tok} (hr : r ≠ []) (h : step r = .tok t) : step t.t = .tok t := by
  have g := step_good hr
  rw [h] at g
  have := step_cut hr h (Nat.le_refl _) (tok_bd h)
  rwa [← g.2.1] at this
theorem step_gap {r : L} {t : Tok} (hr : r ≠ []) (h : step r = .tok t) (q : L) : step (t.t ++ 32 :: q) = .tok t := by
  have g := step_good hr
  rw [h] at g
  have hs := step_self hr h
  rw [step_sep 32 q rfl (by intro e; have := g.1; rw [e] at this; simp at this) (.inr fun n => by rw [hs]; simp), hs]
/-- Where the tokens end. -/
def endOf (at_ : Nat) : List Tok → Nat
  | [] => at_
  | t :: ts => endOf (t.a.toNat + t.t.length) ts
theorem endOf_any (x y : Nat) (t : Tok) (ts : List Tok) : endOf x (t :: ts) = endOf y (t :: ts) := rfl
/-- The text up to where the tokens end is cut into just these. -/
theorem Sc.cut {r : L} {at_ : Nat} {ts : List Tok} {p : Nat} {e : Int} (h : Sc r at_ ts p e) :
    ∃ k, k ≤ r.length ∧ (ts ≠ [] → 0 < k ∧ Bd r k) ∧ endOf at_ ts = at_ + (if ts = [] then 0 else k) ∧ Sc (r.take (if ts = [] then 0 else k)) at_ ts 0 0 ∧ (e ≠ 0 → at_ + (if ts = [] then 0 else k) ≤ p ∧ p < at_ + r.length) := by
  induction h with
  | done a => exact ⟨0, by simp, fun h => absurd rfl h, by simp [endOf], by simpa using Sc.done a, fun h => absurd rfl h⟩
  | @skip r at_ n ts p e hr h k ih =>
    have g := step_good hr
    rw [h] at g
    obtain ⟨j, h1, h2, h3, h4, h5⟩ := ih
    rw [List.length_drop] at h1 h5
    by_cases ht : ts = []
    · subst ht
      refine ⟨0, by simp, fun h => absurd rfl h, by simp [endOf], by simpa using Sc.done at_, fun he => ?_⟩
      obtain ⟨q1, q2⟩ := h5 he
      simp only [if_true] at q1 ⊢
      have := g.2
      omega
    · obtain ⟨q1, q2⟩ := h2 ht
      rw [if_neg ht] at h3 h4 h5
      have hn := g.2
      have hn0 := g.1
      refine ⟨n + j, by omega, fun _ => ⟨by omega, q2.drop q1⟩, ?_, ?_, fun he => by have := h5 he; rw [if_neg ht]; omega⟩
      · rw [if_neg ht]
        cases ts with
        | nil => exact absurd rfl ht
        | cons t ts => rw [endOf_any at_ (at_ + n), h3]; omega
      · rw [if_neg ht]
        have hs : step (r.take (n + j)) = .skip n := by
          unfold step at h ⊢
          rw [head_take (by omega)]
          split at h
          · rename_i hb; rw [if_pos hb]; exact h
          · rename_i hb
            rw [if_neg hb]
            split at h
            · rename_i hc
              rw [if_pos hc]
              injection h with h
              unfold com at h ⊢
              rw [takeW_take, List.length_take, h, Nat.min_eq_right (by omega)]
            · exfalso
              rename_i hc
              have : step r = .skip n := by unfold step; rw [if_neg hb, if_neg hc]; exact h
              split at h
              · unfold datT at h; split at h <;> cases h
              · split at h
                · unfold digT at h
                  split at h
                  · cases h
                  · split at h
                    · cases h
                    · split at h <;> cases h
                · split at h
                  · unfold namT at h; split at h <;> cases h
                  · split at h
                    · unfold namT at h; split at h <;> cases h
                    · unfold marT at h
                      split at h
                      · cases h
                      · split at h <;> cases h
        refine Sc.skip (by intro e; have := congrArg List.length e; simp at this; rcases this with q | q; omega; exact hr q) hs ?_
        rw [List.drop_take, show n + j - n = j by omega]
        exact h4
  | @tok r at_ t ts p e hr h k ih =>
    have g := step_good hr
    rw [h] at g
    have hl : t.t.length ≤ r.length := by have := congrArg List.length g.2.1; simp at this; omega
    have h0 := g.1
    obtain ⟨j, h1, h2, h3, h4, h5⟩ := ih
    rw [List.length_drop] at h1 h5
    by_cases ht : ts = []
    · subst ht
      simp only [if_true] at h3 h4 h5
      refine ⟨t.t.length, hl, fun _ => ⟨h0, tok_bd h⟩, by simp [endOf], ?_, fun he => by have := h5 he; rw [if_neg (by simp)]; omega⟩
      rw [if_neg (by simp), ← g.2.1]
      refine Sc.tok (by intro e; rw [e] at h0; simp at h0) (step_self hr h) ?_
      simpa using Sc.done _
    · obtain ⟨q1, q2⟩ := h2 ht
      rw [if_neg ht] at h3 h4 h5
      have hb := q2.drop q1
      refine ⟨t.t.length + j, by omega, fun _ => ⟨by omega, hb⟩, ?_, ?_, fun he => by have := h5 he; rw [if_neg (by simp)]; omega⟩
      · rw [if_neg (by simp)]
        show endOf ((at_ : Int).toNat + t.t.length) ts = _
        rw [Int.toNat_natCast, h3]; omega
      · rw [if_neg (by simp)]
        refine Sc.tok (by intro e; have := congrArg List.length e; simp at this; rcases this with q | q; omega; exact hr q) (step_cut hr h (by omega) hb) ?_
        rw [List.drop_take, show t.t.length + j - t.t.length = j by omega]
        exact h4
  | @err r at_ s e hr h =>
    have g := step_good hr
    rw [h] at g
    exact ⟨0, by simp, fun h => absurd rfl h, by simp [endOf], by simpa using Sc.done at_, fun _ => by simp; exact g.1⟩
end Lx
end Go.Proofs.YtpfjnnkjoabgbaaGreatDoor
