/-
  PLAIN: what a scanner of a deal's text answers (no model in this text).
-/
import Derived.Test.YteedkcmjhdabeaaDoorPlainCal
import Derived.Lib.AtoiAll
namespace Go.Proofs.YteedkcmjhdabeaaDoor
namespace Lx
set_option linter.unusedVariables false
set_option linter.unusedSimpArgs false

abbrev L := List UInt8
def smN (c : Nat) : Bool := decide (97 ≤ c) && decide (c ≤ 122)
def cpN (c : Nat) : Bool := decide (65 ≤ c) && decide (c ≤ 90)
def dgN (c : Nat) : Bool := decide (48 ≤ c) && decide (c ≤ 57)
def rnN (c : Nat) : Bool := smN c || cpN c || dgN c || decide (c = 95)
def blN (c : Nat) : Bool := decide (c = 32) || decide (c = 9) || decide (c = 10) || decide (c = 13)
def mkL : List Nat := [40, 41, 123, 125, 91, 93, 44, 59, 61, 43, 45, 42, 47, 37, 60, 62, 33, 63, 58]
def mkN (c : Nat) : Bool := decide (c ∈ mkL)
def unN (c : Nat) : Int := if c = 100 then 1 else if c = 119 then 2 else if c = 109 then 3 else if c = 121 then 4 else 0
def fitN (c f : Nat) : Bool := if f = 48 then dgN c else decide (c = f)
def form : List Nat := [48, 48, 48, 48, 45, 48, 48, 45, 48, 48]
/-- Begins with the form, and then no byte of a run. -/
def fits : List Nat → L → Bool
  | [], [] => true
  | [], c :: _ => !rnN c.toNat
  | _ :: _, [] => false
  | f :: fs, c :: r => fitN c.toNat f && fits fs r
def run (r : L) : L := r.takeWhile (fun c => rnN c.toNat)
def com (r : L) : Nat := (r.takeWhile (fun c => !decide (c.toNat = 10))).length
def prL : List (Nat × Nat) := [(46, 46), (60, 61), (62, 61), (61, 61), (33, 61), (38, 38), (124, 124)]
def pairN (a b : Nat) : Bool := decide ((a, b) ∈ prL)
def isPair : L → Bool
  | a :: b :: _ => pairN a.toNat b.toNat
  | _ => false
structure Tok where
  k : Int
  t : L
  a : Int
  num : Int
  y : Int
  m : Int
  d : Int
  n : Int
  u : Int
  deriving DecidableEq
inductive St where
  | skip (n : Nat)
  | tok (t : Tok)
  | err (s : Nat) (e : Int)
/-- A name's byte. -/
def nmN (p : Nat → Bool) (c : Nat) : Bool := p c || dgN c || decide (c = 95)
def nameI (p : Nat → Bool) (r : L) : Nat := (r.takeWhile (fun c => nmN p c.toNat)).length
def nameE (p : Nat → Bool) (r : L) : Nat × Int := if nameI p r < r.length then (nameI p r, 61) else if 31 < r.length then (0, 6) else (0, 0)
def allD (r : L) : Bool := r.all fun c => dgN c.toNat
def numO (d : L) : Option Int :=
  if (d.headD 0).toNat = 48 ∧ 1 < d.length then none
  else if allD d = true then (match Lib.atoiAll d with | .ok v => some v | _ => none) else none
def lastN (d : L) : Nat := (d.getLast?.getD 0).toNat
def digT (d : L) : St :=
  match numO (if unN (lastN d) = 0 then d else d.dropLast) with
  | none => .err 0 62
  | some n => if unN (lastN d) = 0 then .tok ⟨3, d, 0, n, 0, 0, 0, 0, 0⟩ else if n < 1 ∨ 999 < n then .err 0 62 else .tok ⟨5, d, 0, 0, 0, 0, 0, n, unN (lastN d)⟩
def dvL (l : L) : Int := l.foldl (fun a c => 10 * a + ((c.toNat : Int) - 48)) 0
def dY (r : L) : Int := dvL (r.take 4)
def dM (r : L) : Int := dvL ((r.drop 5).take 2)
def dD (r : L) : Int := dvL ((r.drop 8).take 2)
def datT (r : L) : St := if Cal.exB (dY r) (dM r) (dD r) = true then .tok ⟨4, r.take 10, 0, 0, dY r, dM r, dD r, 0, 0⟩ else .err 0 62
def namT (p : Nat → Bool) (k : Int) (d : L) : St := if (nameE p d).2 = 0 then .tok ⟨k, d, 0, 0, 0, 0, 0, 0, 0⟩ else .err (nameE p d).1 (nameE p d).2
def marT (r : L) : St := if isPair r = true then .tok ⟨6, r.take 2, 0, 0, 0, 0, 0, 0, 0⟩ else if mkN (r.headD 0).toNat = true then .tok ⟨6, r.take 1, 0, 0, 0, 0, 0, 0, 0⟩ else .err 0 61
def step (r : L) : St :=
  if blN (r.headD 0).toNat = true then .skip 1
  else if (r.headD 0).toNat = 35 then .skip (com r)
  else if fits form r = true then datT (r.take 10)
  else if dgN (r.headD 0).toNat = true then digT (run r)
  else if smN (r.headD 0).toNat = true then namT smN 1 (run r)
  else if cpN (r.headD 0).toNat = true then namT cpN 2 (run r)
  else marT r
/-- What a text from a place on is cut into. -/
inductive Sc : L → Nat → List Tok → Nat → Int → Prop
  | done (at_ : Nat) : Sc [] at_ [] 0 0
  | skip {r : L} {at_ n : Nat} {ts : List Tok} {p : Nat} {e : Int} (hr : r ≠ []) (h : step r = .skip n) (k : Sc (r.drop n) (at_ + n) ts p e) : Sc r at_ ts p e
  | tok {r : L} {at_ : Nat} {t : Tok} {ts : List Tok} {p : Nat} {e : Int} (hr : r ≠ []) (h : step r = .tok t) (k : Sc (r.drop t.t.length) (at_ + t.t.length) ts p e) : Sc r at_ ({ t with a := at_ } :: ts) p e
  | err {r : L} {at_ s : Nat} {e : Int} (hr : r ≠ []) (h : step r = .err s e) : Sc r at_ [] (at_ + s) e
theorem Sc.only {r : L} {at_ : Nat} {ts : List Tok} {p : Nat} {e : Int} (h : Sc r at_ ts p e) : ∀ {ts' : List Tok} {p' : Nat} {e' : Int}, Sc r at_ ts' p' e' → ts' = ts ∧ p' = p ∧ e' = e := by
  induction h with
  | done a => intro ts' p' e' h'; cases h' <;> first | exact ⟨rfl, rfl, rfl⟩ | (rename_i g _ _; exact absurd rfl g) | (rename_i g _; exact absurd rfl g) | simp_all
  | skip hr h k ih =>
    intro ts' p' e' h'
    cases h' with
    | done a => exact absurd rfl hr
    | skip hr' h' k' => rw [h] at h'; injection h' with h'; subst h'; exact ih k'
    | tok hr' h' k' => rw [h] at h'; cases h'
    | err hr' h' => rw [h] at h'; cases h'
  | tok hr h k ih =>
    intro ts' p' e' h'
    cases h' with
    | done a => exact absurd rfl hr
    | skip hr' h' k' => rw [h] at h'; cases h'
    | tok hr' h' k' => rw [h] at h'; injection h' with h'; subst h'; obtain ⟨rfl, rfl, rfl⟩ := ih k'; exact ⟨rfl, rfl, rfl⟩
    | err hr' h' => rw [h] at h'; cases h'
  | err hr h =>
    intro ts' p' e' h'
    cases h' with
    | done a => exact absurd rfl hr
    | skip hr' h' k' => rw [h] at h'; cases h'
    | tok hr' h' k' => rw [h] at h'; cases h'
    | err hr' h' => rw [h] at h'; injection h' with h1 h2; subst h1; subst h2; exact ⟨rfl, rfl, rfl⟩

theorem take_len (p : UInt8 → Bool) (r : L) : (r.takeWhile p).length ≤ r.length := (List.takeWhile_prefix p).length_le
theorem run_len (r : L) : (run r).length ≤ r.length := take_len _ r
theorem run_pos {r : L} (hr : r ≠ []) (h : rnN (r.headD 0).toNat = true) : 0 < (run r).length := by
  cases r with
  | nil => exact absurd rfl hr
  | cons c r => simp only [List.headD_cons] at h; simp [run, h]
theorem rn_dg {c : Nat} (h : dgN c = true) : rnN c = true := by unfold rnN; rw [h]; simp
theorem rn_sm {c : Nat} (h : smN c = true) : rnN c = true := by unfold rnN; rw [h]; simp
theorem rn_cp {c : Nat} (h : cpN c = true) : rnN c = true := by unfold rnN; rw [h]; simp
theorem fits_len : ∀ {fs : List Nat} {r : L}, fits fs r = true → fs.length ≤ r.length
  | [], r, h => Nat.zero_le _
  | f :: fs, [], h => by simp [fits] at h
  | f :: fs, c :: r, h => by simp only [fits, Bool.and_eq_true] at h; simp only [List.length_cons]; have := fits_len h.2; omega
/-- A token is what it stands on: its text is the text's beginning, not empty. -/
def Good (r : L) : St → Prop
  | .skip n => 0 < n ∧ n ≤ r.length
  | .tok t => 0 < t.t.length ∧ t.t = r.take t.t.length ∧ t.a = 0
  | .err s e => s < r.length ∧ e ≠ 0 ∧ (e = 6 ∨ e = 61 ∨ e = 62)
theorem take_eq (p : UInt8 → Bool) (r : L) : r.takeWhile p = r.take (r.takeWhile p).length := (List.prefix_iff_eq_take.1 (List.takeWhile_prefix p))
theorem run_eq (r : L) : run r = r.take (run r).length := take_eq _ r
theorem digT_good {r : L} (h0 : 0 < (run r).length) (hl : (run r).length ≤ r.length) : Good r (digT (run r)) := by
  unfold digT
  split
  · exact ⟨by omega, by omega, .inr (.inr rfl)⟩
  · split
    · exact ⟨h0, run_eq r, rfl⟩
    · split
      · exact ⟨by omega, by omega, .inr (.inr rfl)⟩
      · exact ⟨h0, run_eq r, rfl⟩
theorem namT_good {r : L} (p : Nat → Bool) (k : Int) (h0 : 0 < (run r).length) (hl : (run r).length ≤ r.length) : Good r (namT p k (run r)) := by
  unfold namT
  split
  · exact ⟨h0, run_eq r, rfl⟩
  · rename_i h
    unfold nameE at h ⊢
    split
    · exact ⟨by simp only; omega, by simp, .inr (.inl rfl)⟩
    · split
      · exact ⟨by simp only; omega, by simp, .inl rfl⟩
      · rename_i h1 h2; rw [if_neg h1, if_neg h2] at h; exact absurd rfl h
theorem marT_good {r : L} (hr : r ≠ []) : Good r (marT r) := by
  have : 0 < r.length := by cases r <;> simp_all
  unfold marT
  split
  · rename_i h
    have : 2 ≤ r.length := by
      match r, h with
      | a :: b :: q, h => simp
    exact ⟨by rw [List.length_take]; omega, by rw [List.length_take, Nat.min_eq_left this], rfl⟩
  · split
    · exact ⟨by rw [List.length_take]; omega, by rw [List.length_take, Nat.min_eq_left (by omega)], rfl⟩
    · exact ⟨by omega, by omega, .inr (.inl rfl)⟩
theorem datT_good {r : L} (h : fits form r = true) : Good r (datT (r.take 10)) := by
  have hl := fits_len h
  simp only [form, List.length_cons, List.length_nil] at hl
  unfold datT
  split
  · rename_i hx
    show 0 < ((r.take 10).take 10).length ∧ (r.take 10).take 10 = r.take ((r.take 10).take 10).length ∧ _
    rw [List.take_take, Nat.min_self, List.length_take, Nat.min_eq_left hl]
    exact ⟨by omega, rfl, rfl⟩
  · exact ⟨by omega, by omega, .inr (.inr rfl)⟩
theorem step_good {r : L} (hr : r ≠ []) : Good r (step r) := by
  have h0 : 0 < r.length := by cases r <;> simp_all
  unfold step
  split
  · exact ⟨by omega, by omega⟩
  · split
    · rename_i h
      refine ⟨?_, take_len _ r⟩
      cases r with
      | nil => exact absurd rfl hr
      | cons c q => simp only [List.headD_cons] at h; simp [com, h]
    · split
      · rename_i h; exact datT_good h
      · split
        · rename_i h; exact digT_good (run_pos hr (rn_dg h)) (run_len r)
        · split
          · rename_i h; exact namT_good _ _ (run_pos hr (rn_sm h)) (run_len r)
          · split
            · rename_i h; exact namT_good _ _ (run_pos hr (rn_cp h)) (run_len r)
            · exact marT_good hr

/-! With a blank behind. -/
theorem fitN_bl {c f : Nat} (hc : blN c = true) (hf : f = 48 ∨ f = 45) : fitN c f = false := by
  simp only [blN, Bool.or_eq_true, decide_eq_true_eq] at hc
  rcases hf with rfl | rfl <;> simp only [fitN, dgN] <;> rcases hc with ((rfl | rfl) | rfl) | rfl <;> rfl
theorem rnN_bl {c : Nat} (hc : blN c = true) : rnN c = false := by
  simp only [blN, Bool.or_eq_true, decide_eq_true_eq] at hc
  rcases hc with ((rfl | rfl) | rfl) | rfl <;> rfl
theorem fits_sep (b : UInt8) (q : L) (hb : blN b.toNat = true) : ∀ (fs : List Nat) (r : L), (∀ f ∈ fs, f = 48 ∨ f = 45) → fits fs (r ++ b :: q) = fits fs r
  | [], [], _ => by simp [fits, rnN_bl hb]
  | [], c :: r, _ => rfl
  | f :: fs, [], h => by simp [fits, fitN_bl hb (h f List.mem_cons_self)]
  | f :: fs, c :: r, h => by
    simp only [List.cons_append, fits]
    rw [fits_sep b q hb fs r (fun g hg => h g (List.mem_cons_of_mem _ hg))]
theorem takeW_sep (p : UInt8 → Bool) (b : UInt8) (q : L) (hb : p b = false) : ∀ r : L, (r ++ b :: q).takeWhile p = r.takeWhile p
  | [] => by simp [hb]
  | c :: r => by
    simp only [List.cons_append, List.takeWhile_cons]
    rw [takeW_sep p b q hb r]
theorem pair_bl {a b : Nat} (hb : blN b = true) : pairN a b = false := by
  simp only [blN, Bool.or_eq_true, decide_eq_true_eq] at hb
  unfold pairN prL
  rcases hb with ((rfl | rfl) | rfl) | rfl <;> simp
theorem isPair_sep (b : UInt8) (q : L) (hb : blN b.toNat = true) : ∀ r : L, r ≠ [] → isPair (r ++ b :: q) = isPair r
  | [], h => absurd rfl h
  | [c], _ => pair_bl hb
  | c :: d :: r, _ => rfl
theorem head_app {r q : L} (hr : r ≠ []) : (r ++ q).headD 0 = r.headD 0 := by cases r <;> simp_all
theorem form_ok : ∀ f ∈ form, f = 48 ∨ f = 45 := by decide
theorem marT_sep (b : UInt8) (q : L) (hb : blN b.toNat = true) {r : L} (hr : r ≠ []) : marT (r ++ b :: q) = marT r := by
  unfold marT
  rw [isPair_sep b q hb r hr, head_app hr]
  have h1 : (r ++ b :: q).take 1 = r.take 1 := by cases r <;> simp_all
  have h2 : isPair r = true → (r ++ b :: q).take 2 = r.take 2 := fun h => by
    match r, h with
    | x :: y :: z, h => simp
  split
  · rename_i h; rw [h2 h]
  · rw [h1]
theorem step_sep (b : UInt8) (q : L) (hb : blN b.toNat = true) {r : L} (hr : r ≠ []) (hc : b.toNat = 10 ∨ ∀ n, step r ≠ .skip n) : step (r ++ b :: q) = step r := by
  have hrun : run (r ++ b :: q) = run r := takeW_sep _ b q (rnN_bl hb) r
  have hcom : b.toNat = 10 → com (r ++ b :: q) = com r := fun h => by unfold com; rw [takeW_sep _ b q (by simp [h]) r]
  have hdat : fits form r = true → (r ++ b :: q).take 10 = r.take 10 := fun h => by
    have hl := fits_len h
    simp only [form, List.length_cons, List.length_nil] at hl
    rw [List.take_append_of_le_length (by omega)]
  unfold step
  rw [head_app hr, fits_sep b q hb form r form_ok, hrun, marT_sep b q hb hr]
  split
  · rfl
  · rename_i h1
    split
    · rename_i h2
      rcases hc with hc | hc
      · rw [hcom hc]
      · exact absurd (show step r = .skip (com r) by unfold step; rw [if_neg h1, if_pos h2]) (hc _)
    · split
      · rename_i h; rw [hdat h]
      · rfl
/-- With a line's end behind: what goes wrong goes wrong alike, what goes well goes on. -/
theorem Sc.more (q : L) {r : L} {at_ : Nat} {ts : List Tok} {p : Nat} {e : Int} (h : Sc r at_ ts p e) :
    (e ≠ 0 → Sc (r ++ 10 :: q) at_ ts p e) ∧ (e = 0 → ∀ ts' p' e', Sc q (at_ + r.length + 1) ts' p' e' → Sc (r ++ 10 :: q) at_ (ts ++ ts') p' e') := by
  induction h with
  | done a => exact ⟨fun h => absurd rfl h, fun _ ts' p' e' h => .skip (n := 1) (by simp) (by rfl) (by simpa using h)⟩
  | @skip r at_ n ts p e hr h k ih =>
    have g := step_good hr
    rw [h] at g
    have hs := step_sep 10 q rfl hr (.inl rfl)
    rw [h] at hs
    have hd : (r ++ 10 :: q).drop n = r.drop n ++ 10 :: q := by rw [List.drop_append_of_le_length g.2]
    refine ⟨fun he => .skip (by simp) hs (by rw [hd]; exact ih.1 he), fun he ts' p' e' k' => .skip (by simp) hs (by rw [hd]; refine ih.2 he _ _ _ ?_; rw [List.length_drop]; rw [show at_ + n + (r.length - n) + 1 = at_ + r.length + 1 by have := g.2; omega]; exact k')⟩
  | @tok r at_ t ts p e hr h k ih =>
    have g := step_good hr
    rw [h] at g
    have hl : t.t.length ≤ r.length := by have := congrArg List.length g.2.1; simp at this; omega
    have hs := step_sep 10 q rfl hr (.inl rfl)
    rw [h] at hs
    have hd : (r ++ 10 :: q).drop t.t.length = r.drop t.t.length ++ 10 :: q := by rw [List.drop_append_of_le_length hl]
    refine ⟨fun he => .tok (by simp) hs (by rw [hd]; exact ih.1 he), fun he ts' p' e' k' => .tok (by simp) hs (by rw [hd]; refine ih.2 he _ _ _ ?_; rw [List.length_drop]; rw [show at_ + t.t.length + (r.length - t.t.length) + 1 = at_ + r.length + 1 by omega]; exact k')⟩
  | @err r at_ s e hr h =>
    have g := step_good hr
    rw [h] at g
    have hs := step_sep 10 q rfl hr (.inl rfl)
    rw [h] at hs
    exact ⟨fun _ => .err (by simp) hs, fun he => absurd he g.2.1⟩
/-- Every text is cut. -/
theorem Sc.total : ∀ (n : Nat) (r : L) (at_ : Nat), r.length ≤ n → ∃ ts p e, Sc r at_ ts p e
  | 0, r, at_, h => by
    have : r = [] := List.eq_nil_of_length_eq_zero (by omega)
    subst this
    exact ⟨_, _, _, .done _⟩
  | n + 1, r, at_, h => by
    by_cases hr : r = []
    · subst hr; exact ⟨_, _, _, .done _⟩
    · have g := step_good hr
      cases hs : step r with
      | skip k =>
        rw [hs] at g
        obtain ⟨ts, p, e, h1⟩ := Sc.total n (r.drop k) (at_ + k) (by rw [List.length_drop]; have := g.1; have := g.2; omega)
        exact ⟨_, _, _, .skip hr hs h1⟩
      | tok t =>
        rw [hs] at g
        obtain ⟨ts, p, e, h1⟩ := Sc.total n (r.drop t.t.length) (at_ + t.t.length) (by rw [List.length_drop]; have := g.1; have : 0 < r.length := List.length_pos_iff.2 hr; omega)
        exact ⟨_, _, _, .tok hr hs h1⟩
      | err s e => exact ⟨_, _, _, .err hr hs⟩
end Lx
end Go.Proofs.YteedkcmjhdabeaaDoor
