import Derived.Test.YtjbbbejadhojlaaDoorXAH
import Derived.Lib.SmallJoins
import Derived.RangeFuncRecord
namespace Go.Proofs.YtjbbbejadhojlaaDoor
namespace Lx
set_option linter.unusedVariables false
set_option linter.unusedSimpArgs false

def nthN (r : L) (i : Nat) : Nat := (r.getD i 0).toNat
/-- A run does not go on over the place k. -/
def Bd (r : L) (k : Nat) : Prop := k < r.length → 0 < k → rnN (nthN r (k - 1)) = true → rnN (nthN r k) = false
theorem Bd.drop {r : L} {n k : Nat} (h : Bd (r.drop n) k) (hk : 0 < k) : Bd r (n + k) := by
  intro h1 h2 h3
  have e : ∀ i, nthN (r.drop n) i = nthN r (n + i) := fun i => by simp [nthN, List.getD]
  have := h (by rw [List.length_drop]; omega) hk (by rw [e, show n + (k - 1) = n + k - 1 by omega]; exact h3)
  rwa [e] at this
theorem run_stop : ∀ r : L, (run r).length < r.length → rnN (nthN r (run r).length) = false
  | [], h => by simp [run] at h
  | c :: r, h => by
    unfold run at h ⊢
    by_cases hc : rnN c.toNat = true
    · simp only [List.takeWhile_cons, hc, if_true, List.length_cons] at h ⊢
      have := run_stop r (by unfold run; omega)
      unfold run at this
      simpa [nthN, List.getD] using this
    · have hc' : rnN c.toNat = false := by simpa using hc
      simp [List.takeWhile_cons, hc', nthN]
theorem bd_run (r : L) : Bd r (run r).length := fun h _ _ => run_stop r h
theorem fits_stop : ∀ {fs : List Nat} {r : L}, fits fs r = true → fs.length < r.length → rnN (nthN r fs.length) = false
  | [], [], h, hl => by simp at hl
  | [], c :: r, h, hl => by simpa [fits, nthN] using h
  | f :: fs, [], h, hl => by simp at hl
  | f :: fs, c :: r, h, hl => by
    simp only [fits, Bool.and_eq_true] at h
    have := fits_stop h.2 (by simpa using hl)
    simpa [nthN, List.getD] using this
theorem mk_rn {c : Nat} (h : mkN c = true) : rnN c = false := by
  unfold mkN mkL at h
  have := of_decide_eq_true h
  simp only [List.mem_cons, List.not_mem_nil, or_false] at this
  rcases this with rfl|rfl|rfl|rfl|rfl|rfl|rfl|rfl|rfl|rfl|rfl|rfl|rfl|rfl|rfl|rfl|rfl|rfl|rfl <;> rfl
theorem pair_rn {a b : Nat} (h : pairN a b = true) : rnN b = false := by
  unfold pairN prL at h
  have := of_decide_eq_true h
  simp only [List.mem_cons, List.not_mem_nil, or_false, Prod.mk.injEq] at this
  rcases this with ⟨rfl, rfl⟩|⟨rfl, rfl⟩|⟨rfl, rfl⟩|⟨rfl, rfl⟩|⟨rfl, rfl⟩|⟨rfl, rfl⟩|⟨rfl, rfl⟩ <;> rfl
theorem datT_text {r : L} {t : Tok} (h : datT r = .tok t) : t.t = r.take 10 := by
  unfold datT at h
  split at h
  · injection h with h; rw [← h]
  · cases h
theorem digT_text {d : L} {t : Tok} (h : digT d = .tok t) : t.t = d := by
  unfold digT at h
  split at h
  · cases h
  · split at h
    · injection h with h; rw [← h]
    · split at h
      · cases h
      · injection h with h; rw [← h]
theorem namT_text {p : Nat → Bool} {k : Int} {d : L} {t : Tok} (h : namT p k d = .tok t) : t.t = d := by
  unfold namT at h
  split at h
  · injection h with h; rw [← h]
  · cases h
/-- How a token comes about. -/
theorem step_tok {r : L} {t : Tok} (h : step r = .tok t) :
    blN (r.headD 0).toNat = false ∧ (r.headD 0).toNat ≠ 35 ∧
    ((fits form r = true ∧ datT (r.take 10) = .tok t) ∨
     (fits form r = false ∧ ((dgN (r.headD 0).toNat = true ∧ digT (run r) = .tok t) ∨
       (dgN (r.headD 0).toNat = false ∧ smN (r.headD 0).toNat = true ∧ namT smN 1 (run r) = .tok t) ∨
       (dgN (r.headD 0).toNat = false ∧ smN (r.headD 0).toNat = false ∧ cpN (r.headD 0).toNat = true ∧ namT cpN 2 (run r) = .tok t) ∨
       (dgN (r.headD 0).toNat = false ∧ smN (r.headD 0).toNat = false ∧ cpN (r.headD 0).toNat = false ∧ marT r = .tok t)))) := by
  unfold step at h
  split at h
  · cases h
  · rename_i h1
    split at h
    · cases h
    · rename_i h2
      refine ⟨by simpa using h1, h2, ?_⟩
      split at h
      · rename_i h3; exact .inl ⟨h3, h⟩
      · rename_i h3
        refine .inr ⟨by simpa using h3, ?_⟩
        split at h
        · rename_i h4; exact .inl ⟨h4, h⟩
        · rename_i h4
          split at h
          · rename_i h5; exact .inr (.inl ⟨by simpa using h4, h5, h⟩)
          · rename_i h5
            split at h
            · rename_i h6; exact .inr (.inr (.inl ⟨by simpa using h4, by simpa using h5, h6, h⟩))
            · rename_i h6; exact .inr (.inr (.inr ⟨by simpa using h4, by simpa using h5, by simpa using h6, h⟩))
theorem tok_bd {r : L} {t : Tok} (h : step r = .tok t) : Bd r t.t.length := by
  obtain ⟨_, _, ⟨h1, h2⟩ | ⟨h1, h2⟩⟩ := step_tok h
  · have hl := fits_len h1
    simp only [form, List.length_cons, List.length_nil] at hl
    have e : t.t.length = 10 := by rw [datT_text h2, List.length_take, List.length_take]; omega
    rw [e]
    intro h3 _ _
    exact fits_stop (fs := form) h1 h3
  · rcases h2 with ⟨_, h2⟩ | ⟨_, _, h2⟩ | ⟨_, _, _, h2⟩ | ⟨_, _, _, h2⟩
    · rw [digT_text h2]; exact bd_run r
    · rw [namT_text h2]; exact bd_run r
    · rw [namT_text h2]; exact bd_run r
    · unfold marT at h2
      intro h3 h4 h5
      split at h2
      · rename_i hp
        injection h2 with h2
        match r, hp with
        | a :: b :: q, hp =>
          subst h2
          simp only [isPair] at hp
          simp [nthN, pair_rn hp] at h5
      · split at h2
        · rename_i _ hm
          injection h2 with h2
          subst h2
          cases r with
          | nil => simp at h3
          | cons c q => simp only [List.headD_cons] at hm; simp [nthN, mk_rn hm] at h5
        · cases h2
theorem takeW_take (p : UInt8 → Bool) : ∀ (r : L) (k : Nat), (r.take k).takeWhile p = (r.takeWhile p).take k
  | [], k => by simp
  | c :: r, 0 => by simp
  | c :: r, k + 1 => by
    simp only [List.take_succ_cons, List.takeWhile_cons]
    by_cases hc : p c = true
    · simp [hc, takeW_take p r k]
    · simp [hc]
theorem run_take {r : L} {k : Nat} (h : (run r).length ≤ k) : run (r.take k) = run r := by
  unfold run at h ⊢
  rw [takeW_take, List.take_of_length_le h]
theorem run_cut {r : L} {k : Nat} (hk : 0 < k) (hb : Bd r k) (hl : k < (run r).length → False) : run (r.take k) = run r := run_take (by rcases Nat.lt_or_ge k (run r).length with q | q; exact (hl q).elim; exact q)
theorem run_in {r : L} {i : Nat} (h : i < (run r).length) : rnN (nthN r i) = true := by
  have hl := run_len r
  have hm : (run r)[i] ∈ run r := List.getElem_mem h
  have h1 : rnN ((run r)[i]).toNat = true := by
    have : ∀ (p : UInt8 → Bool) (l : L) (x : UInt8), x ∈ l.takeWhile p → p x = true := by
      intro p l
      induction l with
      | nil => intro x hx; simp at hx
      | cons c l ih =>
        intro x hx
        rw [List.takeWhile_cons] at hx
        split at hx
        · rcases List.mem_cons.1 hx with rfl | hx
          · assumption
          · exact ih x hx
        · simp at hx
    exact this (fun c => rnN c.toNat) r _ hm
  have e : (run r)[i] = r[i]'(by omega) := by
    have := run_eq r
    have h2 : (run r)[i]? = (r.take (run r).length)[i]? := congrArg (fun l : L => l[i]?) this
    rw [List.getElem?_take_of_lt h, List.getElem?_eq_getElem h, List.getElem?_eq_getElem (show i < r.length by omega)] at h2
    injection h2
  rw [e] at h1
  simpa [nthN, List.getD, show i < r.length by omega] using h1
theorem run_short {r : L} {k : Nat} (hk : 0 < k) (hb : Bd r k) (h : k < (run r).length) : False := by
  have hl := run_len r
  have := hb (by omega) hk (run_in (by omega))
  rw [run_in h] at this
  cases this
theorem run_bd {r : L} {k : Nat} (hk : 0 < k) (hb : Bd r k) : run (r.take k) = run r := run_cut hk hb (run_short hk hb)
theorem fits_take : ∀ (fs : List Nat) (r : L) (k : Nat), fs.length ≤ k → fits fs r = true → fits fs (r.take k) = true
  | [], [], k, _, h => by simp [fits]
  | [], c :: r, 0, _, h => by simp [fits]
  | [], c :: r, k + 1, _, h => by simpa [fits] using h
  | f :: fs, [], k, _, h => by simp [fits] at h
  | f :: fs, c :: r, 0, hk, h => by simp at hk
  | f :: fs, c :: r, k + 1, hk, h => by
    simp only [fits, Bool.and_eq_true] at h
    simp only [List.take_succ_cons, fits, Bool.and_eq_true]
    exact ⟨h.1, fits_take fs r k (by simpa using hk) h.2⟩
theorem fits_untake : ∀ (fs : List Nat) (r : L) (k : Nat), (k < r.length → k = fs.length → rnN (nthN r k) = false) → fits fs (r.take k) = true → fits fs r = true
  | [], [], k, _, h => rfl
  | [], c :: r, 0, hk, h => by have := hk (by simp) rfl; simpa [fits, nthN] using this
  | [], c :: r, k + 1, hk, h => by simpa [fits] using h
  | f :: fs, [], k, _, h => by simp [fits] at h
  | f :: fs, c :: r, 0, hk, h => by simp [fits] at h
  | f :: fs, c :: r, k + 1, hk, h => by
    simp only [List.take_succ_cons, fits, Bool.and_eq_true] at h
    simp only [fits, Bool.and_eq_true]
    exact ⟨h.1, fits_untake fs r k (fun a b => by have := hk (by simpa using a) (by simpa using b); simpa [nthN, List.getD] using this) h.2⟩
theorem fits_last {r : L} (h : fits form r = true) : rnN (nthN r 9) = true := by
  have hl : 10 ≤ r.length := fits_len h
  match r, hl, h with
  | c0 :: c1 :: c2 :: c3 :: c4 :: c5 :: c6 :: c7 :: c8 :: c9 :: q, _, h =>
    simp only [form, fits, Bool.and_eq_true] at h
    obtain ⟨_, _, _, _, _, _, _, _, _, h9, _⟩ := h
    have : dgN c9.toNat = true := by simpa [fitN] using h9
    simpa [nthN] using rn_dg this
theorem head_take {r : L} {k : Nat} (hk : 0 < k) : (r.take k).headD 0 = r.headD 0 := by
  cases r with
  | nil => simp
  | cons c r => cases k with
    | zero => omega
    | succ k => simp
theorem step_cut {r : L} {k : Nat} {t : Tok} (hr : r ≠ []) (h : step r = .tok t) (hl : t.t.length ≤ k) (hb : Bd r k) : step (r.take k) = .tok t := by
  have g := step_good hr
  rw [h] at g
  have hk : 0 < k := by have := g.1; omega
  obtain ⟨h1, h2, h3⟩ := step_tok h
  have hrun := run_bd hk hb
  have hh : (r.take k).headD 0 = r.headD 0 := head_take hk
  unfold step
  rw [hh, if_neg (by rw [h1]; simp), if_neg h2]
  rcases h3 with ⟨h3, h4⟩ | ⟨h3, h4⟩
  · have hle := fits_len h3
    simp only [form, List.length_cons, List.length_nil] at hle
    have e : t.t.length = 10 := by rw [datT_text h4, List.length_take, List.length_take]; omega
    rw [if_pos (fits_take form r k (by show 10 ≤ k; omega) h3), List.take_take, Nat.min_eq_left (by omega)]
    exact h4
  · have hf : fits form (r.take k) = false := by
      cases hx : fits form (r.take k) with
      | false => rfl
      | true =>
        have := fits_untake form r k (fun a b => by
          have b' : k = 10 := b
          have h9 := fits_last hx
          refine hb a hk ?_
          rw [b'] at h9 ⊢
          simpa [nthN, List.getD, List.getElem?_take_of_lt] using h9) hx
        rw [this] at h3; cases h3
    rw [if_neg (by rw [hf]; simp), hrun]
    rcases h4 with ⟨a, h4⟩ | ⟨a, b, h4⟩ | ⟨a, b, c, h4⟩ | ⟨a, b, c, h4⟩
    · rw [if_pos a]; exact h4
    · rw [if_neg (by rw [a]; simp), if_pos b]; exact h4
    · rw [if_neg (by rw [a]; simp), if_neg (by rw [b]; simp), if_pos c]; exact h4
    · rw [if_neg (by rw [a]; simp), if_neg (by rw [b]; simp), if_neg (by rw [c]; simp)]
      unfold marT at h4 ⊢
      rw [hh]
      split at h4
      · rename_i hp
        injection h4 with h4
        match r, hp with
        | x :: y :: q, hp =>
          have e : t.t.length = 2 := by rw [← h4]; simp
          have hk2 : 2 ≤ k := by omega
          match k, hk2 with
          | k + 2, _ =>
            rw [if_pos (by simpa [isPair] using hp)]
            rw [← h4]; simp
      · rename_i hp
        have hp' : isPair (r.take k) = false := by
          match r, k, hp with
          | [], k, hp => simp [isPair]
          | [x], 0, hp => simp [isPair]
          | [x], k + 1, hp => simp [isPair]
          | x :: y :: q, 0, hp => simp [isPair]
          | x :: y :: q, 1, hp => simp [isPair]
          | x :: y :: q, k + 2, hp => simpa [isPair] using hp
        rw [if_neg (by rw [hp']; simp)]
        split at h4
        · rename_i hm
          rw [if_pos hm, List.take_take, Nat.min_eq_left hk]
          exact h4
        · cases h4
/-- A token's own text is cut into it. -/
theorem step_self {r : L} {t : Tok} (hr : r ≠ []) (h : step r = .tok t) : step t.t = .tok t := by
  have g := step_good hr
  rw [h] at g
  have := step_cut hr h (Nat.le_refl _) (tok_bd h)
  rwa [← g.2.1] at this
/-- Where the tokens end. -/
def endOf (at_ : Nat) : List Tok → Nat
  | [] => at_
  | t :: ts => endOf (t.a.toNat + t.t.length) ts
theorem endOf_any (x y : Nat) (t : Tok) (ts : List Tok) : endOf x (t :: ts) = endOf y (t :: ts) := rfl
/-- The text up to where the tokens end is cut into just these. -/
theorem Sc.cut {r : L} {at_ : Nat} {ts : List Tok} {p : Nat} {e : Int} (h : Sc r at_ ts p e) :
    ∃ k, k ≤ r.length ∧ (ts ≠ [] → 0 < k ∧ Bd r k) ∧ endOf at_ ts = at_ + (if ts = [] then 0 else k) ∧ Sc (r.take (if ts = [] then 0 else k)) at_ ts 0 0 ∧ (e ≠ 0 → at_ + (if ts = [] then 0 else k) ≤ p ∧ p < at_ + r.length) := by
  induction h with
  | done a => exact ⟨0, by simp, fun h => absurd rfl h, by simp [endOf], by simpa using Sc.done a, fun h => absurd rfl h⟩
  | @skip r at_ n ts p e hr h k ih =>
    have g := step_good hr
    rw [h] at g
    obtain ⟨j, h1, h2, h3, h4, h5⟩ := ih
    rw [List.length_drop] at h1 h5
    by_cases ht : ts = []
    · subst ht
      refine ⟨0, by simp, fun h => absurd rfl h, by simp [endOf], by simpa using Sc.done at_, fun he => ?_⟩
      obtain ⟨q1, q2⟩ := h5 he
      simp only [if_true] at q1 ⊢
      have := g.2
      omega
    · obtain ⟨q1, q2⟩ := h2 ht
      rw [if_neg ht] at h3 h4 h5
      have hn := g.2
      have hn0 := g.1
      refine ⟨n + j, by omega, fun _ => ⟨by omega, q2.drop q1⟩, ?_, ?_, fun he => by have := h5 he; rw [if_neg ht]; omega⟩
      · rw [if_neg ht]
        cases ts with
        | nil => exact absurd rfl ht
        | cons t ts => rw [endOf_any at_ (at_ + n), h3]; omega
      · rw [if_neg ht]
        have hs : step (r.take (n + j)) = .skip n := by
          unfold step at h ⊢
          rw [head_take (by omega)]
          split at h
          · rename_i hb; rw [if_pos hb]; exact h
          · rename_i hb
            rw [if_neg hb]
            split at h
            · rename_i hc
              rw [if_pos hc]
              injection h with h
              unfold com at h ⊢
              rw [takeW_take, List.length_take, h, Nat.min_eq_right (by omega)]
            · exfalso
              rename_i hc
              have : step r = .skip n := by unfold step; rw [if_neg hb, if_neg hc]; exact h
              split at h
              · unfold datT at h; split at h <;> cases h
              · split at h
                · unfold digT at h
                  split at h
                  · cases h
                  · split at h
                    · cases h
                    · split at h <;> cases h
                · split at h
                  · unfold namT at h; split at h <;> cases h
                  · split at h
                    · unfold namT at h; split at h <;> cases h
                    · unfold marT at h
                      split at h
                      · cases h
                      · split at h <;> cases h
        refine Sc.skip (by intro e; have := congrArg List.length e; simp at this; rcases this with q | q; omega; exact hr q) hs ?_
        rw [List.drop_take, show n + j - n = j by omega]
        exact h4
  | @tok r at_ t ts p e hr h k ih =>
    have g := step_good hr
    rw [h] at g
    have hl : t.t.length ≤ r.length := by have := congrArg List.length g.2.1; simp at this; omega
    have h0 := g.1
    obtain ⟨j, h1, h2, h3, h4, h5⟩ := ih
    rw [List.length_drop] at h1 h5
    by_cases ht : ts = []
    · subst ht
      simp only [if_true] at h3 h4 h5
      refine ⟨t.t.length, hl, fun _ => ⟨h0, tok_bd h⟩, by simp [endOf], ?_, fun he => by have := h5 he; rw [if_neg (by simp)]; omega⟩
      rw [if_neg (by simp), ← g.2.1]
      refine Sc.tok (by intro e; rw [e] at h0; simp at h0) (step_self hr h) ?_
      simpa using Sc.done _
    · obtain ⟨q1, q2⟩ := h2 ht
      rw [if_neg ht] at h3 h4 h5
      have hb := q2.drop q1
      refine ⟨t.t.length + j, by omega, fun _ => ⟨by omega, hb⟩, ?_, ?_, fun he => by have := h5 he; rw [if_neg (by simp)]; omega⟩
      · rw [if_neg (by simp)]
        show endOf ((at_ : Int).toNat + t.t.length) ts = _
        rw [Int.toNat_natCast, h3]; omega
      · rw [if_neg (by simp)]
        refine Sc.tok (by intro e; have := congrArg List.length e; simp at this; rcases this with q | q; omega; exact hr q) (step_cut hr h (by omega) hb) ?_
        rw [List.drop_take, show t.t.length + j - t.t.length = j by omega]
        exact h4
  | @err r at_ s e hr h =>
    have g := step_good hr
    rw [h] at g
    exact ⟨0, by simp, fun h => absurd rfl h, by simp [endOf], by simpa using Sc.done at_, fun _ => by simp; exact g.1⟩
end Lx
end Go.Proofs.YtjbbbejadhojlaaDoor

namespace Go.Proofs.YtjbbbejadhojlaaDoor
open Go.RowKit Lx
set_option linter.unusedVariables false
set_option linter.unusedSimpArgs false

def lst (s : ByteArray) : L := s.data.toList
def bs (l : L) : ByteArray := ⟨l.toArray⟩
theorem lst_bs (l : L) : lst (bs l) = l := by simp [lst, bs]
theorem bs_lst (s : ByteArray) : bs (lst s) = s := by obtain ⟨⟨l⟩⟩ := s; rfl
theorem lst_len (s : ByteArray) : (lst s).length = s.size := by
  show s.data.toList.length = s.size
  rw [Array.length_toList]; rfl
theorem nth_lst {s : ByteArray} {k : Nat} (h : k < s.size) : nthN (lst s) k = s[k].toNat := by
  have h' : k < s.data.toList.length := by rw [Array.length_toList]; exact h
  have : (lst s).getD k 0 = s[k] := by
    unfold lst
    rw [List.getD_eq_getElem?_getD, List.getElem?_eq_getElem h', Option.getD_some]
    rfl
  unfold nthN; rw [this]
theorem takeW_at (p : UInt8 → Bool) : ∀ (l : L) (k : Nat), (∀ i, i < k → p (l.getD i 0) = true) → k ≤ l.length → (k < l.length → p (l.getD k 0) = false) → l.takeWhile p = l.take k
  | [], k, _, _, _ => by simp
  | c :: l, 0, _, _, h => by have := h (by simp); simp at this; simp [this]
  | c :: l, k + 1, h1, h2, h3 => by
    have h0 := h1 0 (by omega)
    simp at h0
    simp only [List.takeWhile_cons, h0, if_true, List.take_succ_cons]
    rw [takeW_at p l k (fun i hi => by simpa using h1 (i + 1) (by omega)) (by simpa using h2) (fun hk => by simpa using h3 (by simpa using hk))]
theorem run_at {l : L} {k : Nat} (h : ∀ i, i < k → rnN (nthN l i) = true) (hk : k ≤ l.length) (he : k < l.length → rnN (nthN l k) = false) : run l = l.take k := takeW_at _ l k h hk he
theorem nameI_at {p : Nat → Bool} {l : L} {k : Nat} (h : ∀ i, i < k → nmN p (nthN l i) = true) (hk : k ≤ l.length) (he : k < l.length → nmN p (nthN l k) = false) : nameI p l = k := by
  unfold nameI
  rw [takeW_at (fun c => nmN p c.toNat) l k h hk he, List.length_take]
  omega
def intV (t : Value) : Nat := match t with | .int _ z => z.toNat | _ => 0

end Go.Proofs.YtjbbbejadhojlaaDoor

namespace Go.Proofs.YtjbbbejadhojlaaDoor
open Go.RowKit Lx
set_option linter.unusedVariables false
set_option linter.unusedSimpArgs false

theorem rsmall_any (c : Nat) (w : World) : Calls Tryd.prog 81 #[.int .u8 (c : Int)] w fun e w' => e = .returned (.bool (smN c)) ∧ w' = w := by
  by_cases h1 : 97 ≤ c
  · have h1' : (97 : Int) ≤ (c : Int) := by omega
    by_cases h2 : c ≤ 122
    · have h2' : (c : Int) ≤ 122 := by omega
      rw [smN_at h1, decide_eq_true h2]
      clear h1 h2
      go_enter Tryd.func81, Tryd.ntmps81
      go_wp2
      go_ret
      exact ⟨rfl, rfl⟩
    · have h2' : ¬ (c : Int) ≤ 122 := by omega
      rw [smN_at h1, decide_eq_false h2]
      clear h1 h2
      go_enter Tryd.func81, Tryd.ntmps81
      go_wp2
      go_ret
      exact ⟨rfl, rfl⟩
  · have h1' : decide ((97 : Int) ≤ (c : Int)) = false := decide_eq_false (by omega)
    rw [smN_no1 h1]
    clear h1
    go_enter Tryd.func81, Tryd.ntmps81
    go_wp2
    go_ret
    exact ⟨rfl, rfl⟩
theorem rcapital_any (c : Nat) (w : World) : Calls Tryd.prog 67 #[.int .u8 (c : Int)] w fun e w' => e = .returned (.bool (cpN c)) ∧ w' = w := by
  by_cases h1 : 65 ≤ c
  · have h1' : (65 : Int) ≤ (c : Int) := by omega
    by_cases h2 : c ≤ 90
    · have h2' : (c : Int) ≤ 90 := by omega
      rw [cpN_at h1, decide_eq_true h2]
      clear h1 h2
      go_enter Tryd.func67, Tryd.ntmps67
      go_wp2
      go_ret
      exact ⟨rfl, rfl⟩
    · have h2' : ¬ (c : Int) ≤ 90 := by omega
      rw [cpN_at h1, decide_eq_false h2]
      clear h1 h2
      go_enter Tryd.func67, Tryd.ntmps67
      go_wp2
      go_ret
      exact ⟨rfl, rfl⟩
  · have h1' : decide ((65 : Int) ≤ (c : Int)) = false := decide_eq_false (by omega)
    rw [cpN_no1 h1]
    clear h1
    go_enter Tryd.func67, Tryd.ntmps67
    go_wp2
    go_ret
    exact ⟨rfl, rfl⟩
theorem rdigit_any (c : Nat) (w : World) : Calls Tryd.prog 88 #[.int .u8 (c : Int)] w fun e w' => e = .returned (.bool (dgN c)) ∧ w' = w := by
  by_cases h1 : 48 ≤ c
  · have h1' : (48 : Int) ≤ (c : Int) := by omega
    by_cases h2 : c ≤ 57
    · have h2' : (c : Int) ≤ 57 := by omega
      rw [dgN_at h1, decide_eq_true h2]
      clear h1 h2
      go_enter Tryd.func88, Tryd.ntmps88
      go_wp2
      go_ret
      exact ⟨rfl, rfl⟩
    · have h2' : ¬ (c : Int) ≤ 57 := by omega
      rw [dgN_at h1, decide_eq_false h2]
      clear h1 h2
      go_enter Tryd.func88, Tryd.ntmps88
      go_wp2
      go_ret
      exact ⟨rfl, rfl⟩
  · have h1' : decide ((48 : Int) ≤ (c : Int)) = false := decide_eq_false (by omega)
    rw [dgN_no1 h1]
    clear h1
    go_enter Tryd.func88, Tryd.ntmps88
    go_wp2
    go_ret
    exact ⟨rfl, rfl⟩
theorem rruns_any (c : Nat) (w : World) : Calls Tryd.prog 80 #[.int .u8 (c : Int)] w fun e w' => e = .returned (.bool (rnN c)) ∧ w' = w := by
  have KS := Lib.hid (fun W => rsmall_any c W)
  have KC := Lib.hid (fun W => rcapital_any c W)
  have KD := Lib.hid (fun W => rdigit_any c W)
  cases hd : dgN c with
  | true =>
    rw [hd] at KD
    rw [show rnN c = true from rn_dg hd]
    clear hd
    go_enter Tryd.func80, Tryd.ntmps80
    go_wp2_with (first | (go_at_call 88; refine (KD.out _).mono ?_; rintro e w1 ⟨rfl, rfl⟩))
    go_ret
    exact ⟨rfl, rfl⟩
  | false =>
    rw [hd] at KD
    cases hs : smN c with
    | true =>
      rw [hs] at KS
      rw [show rnN c = true from rn_sm hs]
      clear hd hs
      go_enter Tryd.func80, Tryd.ntmps80
      go_wp2_with (first | (go_at_call 88; refine (KD.out _).mono ?_; rintro e w1 ⟨rfl, rfl⟩) | (go_at_call 81; refine (KS.out _).mono ?_; rintro e w1 ⟨rfl, rfl⟩))
      go_ret
      exact ⟨rfl, rfl⟩
    | false =>
      rw [hs] at KS
      cases hc : cpN c with
      | true =>
        rw [hc] at KC
        rw [show rnN c = true from rn_cp hc]
        clear hd hs hc
        go_enter Tryd.func80, Tryd.ntmps80
        go_wp2_with (first | (go_at_call 88; refine (KD.out _).mono ?_; rintro e w1 ⟨rfl, rfl⟩) | (go_at_call 81; refine (KS.out _).mono ?_; rintro e w1 ⟨rfl, rfl⟩) | (go_at_call 67; refine (KC.out _).mono ?_; rintro e w1 ⟨rfl, rfl⟩))
        go_ret
        exact ⟨rfl, rfl⟩
      | false =>
        rw [hc] at KC
        by_cases h9 : c = 95
        · subst h9
          rw [show rnN 95 = true from rfl]
          clear hs hc hd
          go_enter Tryd.func80, Tryd.ntmps80
          go_wp2_with (first | (go_at_call 88; refine (KD.out _).mono ?_; rintro e w1 ⟨rfl, rfl⟩) | (go_at_call 81; refine (KS.out _).mono ?_; rintro e w1 ⟨rfl, rfl⟩) | (go_at_call 67; refine (KC.out _).mono ?_; rintro e w1 ⟨rfl, rfl⟩))
          go_ret
          exact ⟨rfl, rfl⟩
        · rw [show rnN c = false by unfold rnN; rw [hs, hc, hd, decide_eq_false h9]; rfl]
          have h9' : ((c : Int) == 95) = false := by rw [beq_eq_false_iff_ne]; exact castI h9
          clear hs hc hd h9
          go_enter Tryd.func80, Tryd.ntmps80
          go_wp2_with (first | (go_at_call 88; refine (KD.out _).mono ?_; rintro e w1 ⟨rfl, rfl⟩) | (go_at_call 81; refine (KS.out _).mono ?_; rintro e w1 ⟨rfl, rfl⟩) | (go_at_call 67; refine (KC.out _).mono ?_; rintro e w1 ⟨rfl, rfl⟩))
          go_ret
          exact ⟨rfl, rfl⟩
theorem cutMidR (s : ByteArray) (a b : Int) (h0 : 0 ≤ a) (h1 : a ≤ b) (hb : b ≤ s.size) (W : World) : (Instr.slice 9 (.string s) (some (.int .i64 a)) (some (.int .i64 b)) none).run Tryd.prog W = .ok (.string (bs (((lst s).take b.toNat).drop a.toNat))) W := by
  rw [run_slice_string W 9 s .i64 .i64 a b (by kernel_rfl) h0 h1 hb]
  have : s.extract a.toNat b.toNat = bs (((lst s).take b.toNat).drop a.toNat) := by
    obtain ⟨⟨l⟩⟩ := s
    apply ByteArray.ext
    rw [ByteArray.data_extract]
    simp [bs, lst, List.drop_take]
  rw [this]
theorem run_mid {l : L} {at_ k : Nat} (hk : at_ ≤ k) (hl : k ≤ l.length) (h : ∀ i, at_ ≤ i → i < k → rnN (nthN l i) = true) (he : k < l.length → rnN (nthN l k) = false) : run (l.drop at_) = (l.take k).drop at_ := by
  have e : ∀ i, nthN (l.drop at_) i = nthN l (at_ + i) := fun i => by simp [nthN, List.getD]
  rw [run_at (l := l.drop at_) (k := k - at_) (fun i hi => by rw [e]; exact h _ (by omega) (by omega)) (by rw [List.length_drop]; omega) (fun hk' => by rw [List.length_drop] at hk'; rw [e, show at_ + (k - at_) = k by omega]; exact he (by omega)), List.drop_take]
set_option maxHeartbeats 1000000 in
theorem rrun_any (s : ByteArray) (at_ : Nat) (w : World) (hs : s.size ≤ 9223372036854775807) (ha : at_ ≤ s.size) :
    Calls Tryd.prog 68 #[.string s, .int .i64 (at_ : Int)] w fun e w' => e = .returned (.string (bs (run ((lst s).drop at_)))) ∧ w' = w := by
  obtain ⟨R, hR⟩ : ∃ R, run ((lst s).drop at_) = R := ⟨_, rfl⟩
  have HR := Lib.hid (p := ∀ k, at_ ≤ k → (∀ i, at_ ≤ i → i < k → rnN (nthN (lst s) i) = true) → k ≤ s.size → (k < s.size → rnN (nthN (lst s) k) = false) → ((lst s).take k).drop at_ = R) (fun k z a b c => by rw [← hR]; exact (run_mid z (by rw [lst_len]; exact b) a (by rw [lst_len]; exact c)).symm)
  rw [hR]
  clear hR
  go_enter Tryd.func68, Tryd.ntmps68
  go_wp2
  go_loop [5] (fun t => ∃ k : Nat, at_ ≤ k ∧ k ≤ s.size ∧ t = .int .i64 k ∧ RowKit.Hid (∀ i, at_ ≤ i → i < k → rnN (nthN (lst s) i) = true)) (fun t => s.size - intV t)
  case atStart => exact ⟨at_, by omega, by omega, rfl, fun i _ hi => absurd hi (by omega)⟩
  case round =>
    obtain ⟨k, hz, hk, rfl, hN⟩ := hrel
    by_cases hlt : k < s.size
    · have kc : (k : Int) < (s.size : Int) := by omega
      have E := nth_lst hlt
      have KR := Lib.hid (fun W => rruns_any (s[k].toNat) W)
      cases hc : rnN (s[k].toNat) with
      | true =>
        rw [hc] at KR
        have NX := Lib.hid (p := ∀ i, at_ ≤ i → i < k + 1 → rnN (nthN (lst s) i) = true) (fun i hj hi => by
          rcases (show i < k ∨ i = k by omega) with q | q
          · exact hN.out i hj q
          · rw [q, E]; exact hc)
        have ME := Lib.hid (p := s.size - intV (.int .i64 ((k : Int) + 1)) < s.size - intV (.int .i64 (k : Int))) (by simp only [intV]; omega)
        have kw : IntKind.i64.wrap ((k : Int) + 1) = (k : Int) + 1 := by simp [IntKind.wrap, IntKind.bits, IntKind.signed]; omega
        clear E hc hN
        go_wp2_with (go_at_call 80; refine (KR.out _).mono ?_; rintro e w1 ⟨rfl, rfl⟩)
        go_round
        case rel => exact ⟨k + 1, by omega, by omega, by simp, NX.out⟩
        case measure => exact ME.out
      | false =>
        rw [hc] at KR
        have ED := Lib.hid (HR.out k hz hN.out hk (fun _ => by rw [E]; exact hc))
        have s1 := cutMidR s (at_ : Int) k (by omega) (by omega) (by omega)
        rw [Int.toNat_natCast, Int.toNat_natCast, ED.out] at s1
        clear E hc hN
        go_wp2_with (go_at_call 80; refine (KR.out _).mono ?_; rintro e w1 ⟨rfl, rfl⟩)
        go_ret
        exact ⟨rfl, rfl⟩
    · obtain rfl : k = s.size := by omega
      have ED := Lib.hid (HR.out s.size hz hN.out hk (fun h => absurd h (by omega)))
      have s1 := cutMidR s (at_ : Int) s.size (by omega) (by omega) (by omega)
      rw [Int.toNat_natCast, Int.toNat_natCast, ED.out] at s1
      clear hN
      go_wp2
      go_ret
      exact ⟨rfl, rfl⟩
theorem cp_other {c : Nat} (h : rnN c = true) : nmN cpN c = !smN c := by
  unfold rnN at h; unfold nmN
  cases h1 : smN c with
  | true =>
    obtain ⟨a, b⟩ : dgN c = false ∧ cpN c = false := by
      simp only [smN, Bool.and_eq_true, decide_eq_true_eq] at h1
      refine ⟨by unfold dgN; simp; omega, by unfold cpN; simp; omega⟩
    rw [a, b]
    simp only [smN, Bool.and_eq_true, decide_eq_true_eq] at h1
    simp; omega
  | false => rw [h1] at h; simp only [Bool.false_or] at h; rw [h]; rfl
/-- A box of a token, anywhere. -/
structure RB (w : World) (g : Nat) (a0 a1 a2 a3 a4 a5 a6 a7 a8 : Value) : Prop where
  hb : w.heap[g]? = some (.cells #[a0, a1, a2, a3, a4, a5, a6, a7, a8] 141)
theorem RB.c {w : World} {g : Nat} {a0 a1 a2 a3 a4 a5 a6 a7 a8 : Value} (h : RB w g a0 a1 a2 a3 a4 a5 a6 a7 a8) :
    w.cell? ⟨g, 0, none⟩ = some a0 ∧ w.cell? ⟨g, 1, none⟩ = some a1 ∧ w.cell? ⟨g, 2, none⟩ = some a2 ∧ w.cell? ⟨g, 3, none⟩ = some a3 ∧ w.cell? ⟨g, 4, none⟩ = some a4 ∧ w.cell? ⟨g, 5, none⟩ = some a5 ∧ w.cell? ⟨g, 6, none⟩ = some a6 ∧ w.cell? ⟨g, 7, none⟩ = some a7 ∧ w.cell? ⟨g, 8, none⟩ = some a8 ∧ ∀ i, w.frozen? ⟨g, i, none⟩ = false := by
  refine ⟨?_, ?_, ?_, ?_, ?_, ?_, ?_, ?_, ?_, fun i => Joins.unfrozen_of_block h.hb i⟩ <;> simp [World.cell?, h.hb]
theorem RB.set9 {w : World} {g : Nat} {b0 b1 b2 b3 b4 b5 b6 b7 b8 : Value} (h : RB w g b0 b1 b2 b3 b4 b5 b6 b7 b8) (a0 a1 a2 a3 a4 a5 a6 a7 a8 : Value) :
    RB ((((((((((w.setCell ⟨g, 0, none⟩ a0).setCell ⟨g, 1, none⟩ a1).setCell ⟨g, 2, none⟩ a2).setCell ⟨g, 3, none⟩ a3).setCell ⟨g, 4, none⟩ a4).setCell ⟨g, 5, none⟩ a5).setCell ⟨g, 6, none⟩ a6).setCell ⟨g, 7, none⟩ a7).setCell ⟨g, 8, none⟩ a8)) g a0 a1 a2 a3 a4 a5 a6 a7 a8 := by
  refine ⟨?_⟩
  have h := h.hb
  have h0 : (w.setCell ⟨g, 0, none⟩ a0).heap[g]? = some (.cells #[a0, b1, b2, b3, b4, b5, b6, b7, b8] 141) := Joins.block_setCell (i := 0) h a0
  generalize w.setCell ⟨g, 0, none⟩ a0 = w at h0 ⊢
  have h1 : (w.setCell ⟨g, 1, none⟩ a1).heap[g]? = some (.cells #[a0, a1, b2, b3, b4, b5, b6, b7, b8] 141) := Joins.block_setCell (i := 1) h0 a1
  generalize w.setCell ⟨g, 1, none⟩ a1 = w at h1 ⊢
  have h2 : (w.setCell ⟨g, 2, none⟩ a2).heap[g]? = some (.cells #[a0, a1, a2, b3, b4, b5, b6, b7, b8] 141) := Joins.block_setCell (i := 2) h1 a2
  generalize w.setCell ⟨g, 2, none⟩ a2 = w at h2 ⊢
  have h3 : (w.setCell ⟨g, 3, none⟩ a3).heap[g]? = some (.cells #[a0, a1, a2, a3, b4, b5, b6, b7, b8] 141) := Joins.block_setCell (i := 3) h2 a3
  generalize w.setCell ⟨g, 3, none⟩ a3 = w at h3 ⊢
  have h4 : (w.setCell ⟨g, 4, none⟩ a4).heap[g]? = some (.cells #[a0, a1, a2, a3, a4, b5, b6, b7, b8] 141) := Joins.block_setCell (i := 4) h3 a4
  generalize w.setCell ⟨g, 4, none⟩ a4 = w at h4 ⊢
  have h5 : (w.setCell ⟨g, 5, none⟩ a5).heap[g]? = some (.cells #[a0, a1, a2, a3, a4, a5, b6, b7, b8] 141) := Joins.block_setCell (i := 5) h4 a5
  generalize w.setCell ⟨g, 5, none⟩ a5 = w at h5 ⊢
  have h6 : (w.setCell ⟨g, 6, none⟩ a6).heap[g]? = some (.cells #[a0, a1, a2, a3, a4, a5, a6, b7, b8] 141) := Joins.block_setCell (i := 6) h5 a6
  generalize w.setCell ⟨g, 6, none⟩ a6 = w at h6 ⊢
  have h7 : (w.setCell ⟨g, 7, none⟩ a7).heap[g]? = some (.cells #[a0, a1, a2, a3, a4, a5, a6, a7, b8] 141) := Joins.block_setCell (i := 7) h6 a7
  generalize w.setCell ⟨g, 7, none⟩ a7 = w at h7 ⊢
  have h8 : (w.setCell ⟨g, 8, none⟩ a8).heap[g]? = some (.cells #[a0, a1, a2, a3, a4, a5, a6, a7, a8] 141) := Joins.block_setCell (i := 8) h7 a8
  exact h8
theorem belowR9 {B : Nat} {w0 w : World} {g : Nat} (h : Below B w0 w) (hg : B ≤ g) (a0 a1 a2 a3 a4 a5 a6 a7 a8 : Value) :
    Below B w0 (((((((((w.setCell ⟨g, 0, none⟩ a0).setCell ⟨g, 1, none⟩ a1).setCell ⟨g, 2, none⟩ a2).setCell ⟨g, 3, none⟩ a3).setCell ⟨g, 4, none⟩ a4).setCell ⟨g, 5, none⟩ a5).setCell ⟨g, 6, none⟩ a6).setCell ⟨g, 7, none⟩ a7).setCell ⟨g, 8, none⟩ a8) :=
  ((((((((h.setCell (p := ⟨g, 0, none⟩) hg _).setCell (p := ⟨g, 1, none⟩) hg _).setCell (p := ⟨g, 2, none⟩) hg _).setCell (p := ⟨g, 3, none⟩) hg _).setCell (p := ⟨g, 4, none⟩) hg _).setCell (p := ⟨g, 5, none⟩) hg _).setCell (p := ⟨g, 6, none⟩) hg _).setCell (p := ⟨g, 7, none⟩) hg _).setCell (p := ⟨g, 8, none⟩) hg _
def tokR (t : Tok) : Value := .agg #[.int .i64 t.k, .string (bs t.t), .int .i64 t.a, .int .i64 t.num, .int .i64 t.y, .int .i64 t.m, .int .i64 t.d, .int .i64 t.n, .int .i64 t.u]
def tokR0 : Tok := ⟨0, [], 0, 0, 0, 0, 0, 0, 0⟩
/-- What names answers. -/
def namV (p : Nat → Bool) (k : Int) (l : L) (at_ : Nat) : Tok × Int × Int := if (nameE p l).2 = 0 then (⟨k, l, at_, 0, 0, 0, 0, 0, 0⟩, 0, 0) else (tokR0, (at_ : Int) + ((nameE p l).1 : Nat), (nameE p l).2)
abbrev trEnd (v : Tok × Int × Int) : Ending := .returned (.tuple #[tokR v.1, .int .i64 v.2.1, .int .i64 v.2.2])
set_option maxRecDepth 100000 in
set_option maxHeartbeats 2000000 in
theorem rnames_capital (s : ByteArray) (at_ : Nat) (w : World) (h1 : 1 ≤ s.size) (hs : at_ + s.size ≤ 9223372036854775807) (hall : ∀ i, i < s.size → rnN (nthN (lst s) i) = true) (hh : cpN (nthN (lst s) 0) = true) :
    Calls Tryd.prog 69 #[.string s, .int .i64 (at_ : Int)] w fun e w' => e = trEnd (namV cpN 2 (lst s) at_) ∧ Below w.heap.size w w' := by
  obtain ⟨V, hV⟩ : ∃ V, namV cpN 2 (lst s) at_ = V := ⟨_, rfl⟩
  have HO := Lib.hid (p := ∀ k : Nat, (∀ i, i < k → nmN cpN (nthN (lst s) i) = true) → k < s.size → nmN cpN (nthN (lst s) k) = false → V = (tokR0, (at_ : Int) + (k : Int), 61)) (fun k a b c => by
    have e : nameE cpN (lst s) = (k, 61) := by
      unfold nameE
      rw [nameI_at a (by rw [lst_len]; omega) (fun _ => c), if_pos (by rw [lst_len]; exact b)]
    rw [← hV]; unfold namV; rw [e]; rfl)
  have HX : (∀ i, i < s.size → nmN cpN (nthN (lst s) i) = true) → nameE cpN (lst s) = if 31 < s.size then (0, 6) else (0, 0) := fun a => by
    unfold nameE
    rw [nameI_at a (by rw [lst_len]; omega) (fun h => by rw [lst_len] at h; omega), if_neg (by rw [lst_len]; omega), lst_len]
  have HL := Lib.hid (p := (∀ i, i < s.size → nmN cpN (nthN (lst s) i) = true) → 31 < s.size → V = (tokR0, (at_ : Int), 6)) (fun a b => by
    have e := HX a
    rw [if_pos b] at e
    rw [← hV]; unfold namV; rw [e]; simp)
  have HK := Lib.hid (p := (∀ i, i < s.size → nmN cpN (nthN (lst s) i) = true) → ¬ 31 < s.size → V = (⟨2, lst s, at_, 0, 0, 0, 0, 0, 0⟩, 0, 0)) (fun a b => by
    have e := HX a
    rw [if_neg b] at e
    rw [← hV]; unfold namV; rw [e]; rfl)
  have HAll := Lib.hid hall
  have z0 : 0 < s.size := by omega
  rw [nth_lst z0] at hh
  have KH := Lib.hid (fun W => rcapital_any (s[0].toNat) W)
  rw [hh] at KH
  rw [hV]
  clear hV hall hh HX
  obtain ⟨w2, hw2⟩ : ∃ w2, (w.alloc (.cells #[.int .i64 0, .string ⟨#[]⟩, .int .i64 0, .int .i64 0, .int .i64 0, .int .i64 0, .int .i64 0, .int .i64 0, .int .i64 0] 141)).alloc (.cells #[.int .i64 2, .string s, .int .i64 (at_ : Int), .int .i64 0, .int .i64 0, .int .i64 0, .int .i64 0, .int .i64 0, .int .i64 0] 141) = w2 := ⟨_, rfl⟩
  have RZ := Lib.hid (p := RB w2 w.heap.size (.int .i64 0) (.string ⟨#[]⟩) (.int .i64 0) (.int .i64 0) (.int .i64 0) (.int .i64 0) (.int .i64 0) (.int .i64 0) (.int .i64 0)) ⟨by rw [← hw2]; exact (Below.heap_alloc _ _ _ (by simp)).trans (World.alloc_heap_new w _)⟩
  have RT := Lib.hid (p := RB w2 (w.heap.size + 1) (.int .i64 2) (.string s) (.int .i64 (at_ : Int)) (.int .i64 0) (.int .i64 0) (.int .i64 0) (.int .i64 0) (.int .i64 0) (.int .i64 0)) ⟨by rw [← hw2]; have := World.alloc_heap_new (w.alloc (.cells #[.int .i64 0, .string ⟨#[]⟩, .int .i64 0, .int .i64 0, .int .i64 0, .int .i64 0, .int .i64 0, .int .i64 0, .int .i64 0] 141)) (.cells #[.int .i64 2, .string s, .int .i64 (at_ : Int), .int .i64 0, .int .i64 0, .int .i64 0, .int .i64 0, .int .i64 0, .int .i64 0] 141); rwa [World.size_alloc] at this⟩
  have B2 := Lib.hid (p := Below w.heap.size w w2) (by rw [← hw2]; exact ((Below.refl _ _).alloc (Nat.le_refl _) _).alloc (by simp) _)
  obtain ⟨x0, x1, x2, x3, x4, x5, x6, x7, x8, xf⟩ := RT.out.c
  obtain ⟨y0, y1, y2, y3, y4, y5, y6, y7, y8, yf⟩ := RZ.out.c
  have HW := Lib.hid hw2
  clear hw2
  go_enter Tryd.func69, Tryd.ntmps69
  go_wp2_with (go_at_call 67; refine (KH.out _).mono ?_; rintro e w' ⟨rfl, hw⟩; have hw' := hw.symm; clear hw; subst hw')
  rw [HW.out]
  go_loop [8] (fun t => ∃ k : Nat, k ≤ s.size ∧ t = .int .i64 k ∧ RowKit.Hid (∀ i, i < k → nmN cpN (nthN (lst s) i) = true)) (fun t => s.size - intV t)
  case atStart => exact ⟨0, by omega, rfl, fun i hi => absurd hi (by omega)⟩
  case round =>
    obtain ⟨k, hk, rfl, hN⟩ := hrel
    by_cases hlt : k < s.size
    · have kc : (k : Int) < (s.size : Int) := by omega
      have E := nth_lst hlt
      have hr := HAll.out k hlt
      rw [E] at hr
      have KO := Lib.hid (fun W => rsmall_any (s[k].toNat) W)
      have kw : IntKind.i64.wrap ((k : Int) + 1) = (k : Int) + 1 := by simp [IntKind.wrap, IntKind.bits, IntKind.signed]; omega
      have kw2 : IntKind.i64.wrap ((at_ : Int) + (k : Int)) = (at_ : Int) + (k : Int) := by simp [IntKind.wrap, IntKind.bits, IntKind.signed]; omega
      have ME := Lib.hid (p := s.size - intV (.int .i64 ((k : Int) + 1)) < s.size - intV (.int .i64 (k : Int))) (by simp only [intV]; omega)
      have SO := cp_other hr
      cases ho : smN (s[k].toNat) with
      | true =>
        rw [ho] at KO SO
        have Y := Lib.hid (HO.out k hN.out hlt (by rw [E]; exact SO))
        have FIN := Lib.hid (RZ.out.set9 (.int .i64 0) (.string ⟨#[]⟩) (.int .i64 0) (.int .i64 0) (.int .i64 0) (.int .i64 0) (.int .i64 0) (.int .i64 0) (.int .i64 0))
        obtain ⟨r0, r1, r2, r3, r4, r5, r6, r7, r8, rf⟩ := FIN.out.c
        clear hN E ho SO hr
        go_wp2_with (go_at_call 81; refine (KO.out _).mono ?_; rintro e w' ⟨rfl, hw⟩; have hw' := hw.symm; clear hw; subst hw')
        exact bodyPost_ret (v := .tuple #[tokR tokR0, .int .i64 ((at_ : Int) + (k : Int)), .int .i64 61]) (by simp [results, Tryd.results69, go_sem, tokR, tokR0, bs, r0, r1, r2, r3, r4, r5, r6, r7, r8]) rfl ⟨by rw [Y.out], belowR9 B2.out (Nat.le_refl _) _ _ _ _ _ _ _ _ _⟩
      | false =>
        rw [ho] at KO SO
        have NX := Lib.hid (p := ∀ i, i < k + 1 → nmN cpN (nthN (lst s) i) = true) (fun i hi => by
          rcases (show i < k ∨ i = k by omega) with q | q
          · exact hN.out i q
          · rw [q, E]; exact SO)
        clear hN E ho SO hr
        go_wp2_with (go_at_call 81; refine (KO.out _).mono ?_; rintro e w' ⟨rfl, hw⟩; have hw' := hw.symm; clear hw; subst hw')
        go_round
        case rel => exact ⟨k + 1, by omega, by simp, NX.out⟩
        case measure => exact ME.out
    · obtain rfl : k = s.size := by omega
      by_cases h31 : 31 < s.size
      · have h31' : (31 : Int) < (s.size : Int) := by omega
        have Y := Lib.hid (HL.out hN.out h31)
        clear hN
        have FIN := Lib.hid (RZ.out.set9 (.int .i64 0) (.string ⟨#[]⟩) (.int .i64 0) (.int .i64 0) (.int .i64 0) (.int .i64 0) (.int .i64 0) (.int .i64 0) (.int .i64 0))
        obtain ⟨r0, r1, r2, r3, r4, r5, r6, r7, r8, rf⟩ := FIN.out.c
        go_wp2
        exact bodyPost_ret (v := .tuple #[tokR tokR0, .int .i64 (at_ : Int), .int .i64 6]) (by simp [results, Tryd.results69, go_sem, tokR, tokR0, bs, r0, r1, r2, r3, r4, r5, r6, r7, r8]) rfl ⟨by rw [Y.out], belowR9 B2.out (Nat.le_refl _) _ _ _ _ _ _ _ _ _⟩
      · have h31' : ¬ (31 : Int) < (s.size : Int) := by omega
        have Y := Lib.hid (HK.out hN.out h31)
        clear hN
        have ES := bs_lst s
        have FIN := Lib.hid (RZ.out.set9 (.int .i64 2) (.string s) (.int .i64 (at_ : Int)) (.int .i64 0) (.int .i64 0) (.int .i64 0) (.int .i64 0) (.int .i64 0) (.int .i64 0))
        obtain ⟨r0, r1, r2, r3, r4, r5, r6, r7, r8, rf⟩ := FIN.out.c
        go_wp2
        exact bodyPost_ret (v := .tuple #[tokR ⟨2, lst s, at_, 0, 0, 0, 0, 0, 0⟩, .int .i64 0, .int .i64 0]) (by simp [results, Tryd.results69, go_sem, tokR, ES, r0, r1, r2, r3, r4, r5, r6, r7, r8]) rfl ⟨by rw [Y.out], belowR9 B2.out (Nat.le_refl _) _ _ _ _ _ _ _ _ _⟩
end Go.Proofs.YtjbbbejadhojlaaDoor

namespace Go.Proofs.YtjbbbejadhojlaaDoor
namespace Lx
set_option linter.unusedVariables false
set_option linter.unusedSimpArgs false

/-- Of blanks and comments? none: no; else whether a comment stands open. -/
def looseF (o : Bool) : L → Option Bool
  | [] => some o
  | c :: r => if c.toNat = 10 then looseF false r else if c.toNat = 35 then looseF true r else if o = false ∧ c.toNat ≠ 32 ∧ c.toNat ≠ 9 ∧ c.toNat ≠ 13 then none else looseF o r
theorem loose_app : ∀ (x y : L) (o : Bool), looseF o (x ++ y) = (looseF o x).bind (fun o' => looseF o' y)
  | [], y, o => rfl
  | c :: x, y, o => by
    simp only [List.cons_append, looseF]
    split
    · exact loose_app x y false
    · split
      · exact loose_app x y true
      · split
        · rfl
        · exact loose_app x y o
theorem loose_com : ∀ (x : L), (∀ c ∈ x, c.toNat ≠ 10) → looseF true x = some true
  | [], _ => rfl
  | c :: x, h => by
    have h1 := h c List.mem_cons_self
    have ih := loose_com x (fun d hd => h d (List.mem_cons_of_mem _ hd))
    simp only [looseF]
    rw [if_neg h1]
    split
    · exact ih
    · rw [if_neg (by simp)]; exact ih
/-- The tokens rise, each stands at its place, and between them are blanks and ended comments alone. -/
def Tell (l : L) : Nat → List Tok → Nat → Prop
  | at_, [], en => at_ ≤ en ∧ en ≤ l.length ∧ ∃ o, looseF false ((l.take en).drop at_) = some o
  | at_, t :: ts, en => ∃ a : Nat, t.a = (a : Int) ∧ at_ ≤ a ∧ 0 < t.t.length ∧ a + t.t.length ≤ l.length ∧ (l.take (a + t.t.length)).drop a = t.t ∧ looseF false ((l.take a).drop at_) = some false ∧ Tell l (a + t.t.length) ts en
theorem take_more (l : L) (at0 at_ n : Nat) (h0 : at0 ≤ at_) (h1 : at_ + n ≤ l.length) : (l.take (at_ + n)).drop at0 = (l.take at_).drop at0 ++ (l.drop at_).take n := by
  have : l.take (at_ + n) = l.take at_ ++ (l.drop at_).take n := by rw [← List.take_add]
  rw [this, List.drop_append_of_le_length (by rw [List.length_take]; omega)]
theorem step_bl {r : L} {n : Nat} (hr : r ≠ []) (h : step r = .skip n) : (∃ c q, r = c :: q ∧ blN c.toNat = true ∧ n = 1) ∨ (∃ c q, r = c :: q ∧ c.toNat = 35 ∧ n = com r) := by
  cases r with
  | nil => exact absurd rfl hr
  | cons c q =>
    unfold step at h
    rw [List.headD_cons] at h
    split at h
    · rename_i hb; injection h with h; exact .inl ⟨c, q, rfl, hb, h.symm⟩
    · split at h
      · rename_i hc; injection h with h; exact .inr ⟨c, q, rfl, hc, h.symm⟩
      · exfalso
        split at h
        · unfold datT at h; split at h <;> cases h
        · split at h
          · unfold digT at h
            split at h
            · cases h
            · split at h
              · cases h
              · split at h <;> cases h
          · split at h
            · unfold namT at h; split at h <;> cases h
            · split at h
              · unfold namT at h; split at h <;> cases h
              · unfold marT at h
                split at h
                · cases h
                · split at h <;> cases h
theorem com_take (r : L) : ∀ c ∈ r.take (com r), c.toNat ≠ 10 := by
  unfold com
  rw [← take_eq]
  intro c hc
  have : ∀ (p : UInt8 → Bool) (l : L) (x : UInt8), x ∈ l.takeWhile p → p x = true := by
    intro p l
    induction l with
    | nil => intro x hx; simp at hx
    | cons d l ih =>
      intro x hx
      rw [List.takeWhile_cons] at hx
      split at hx
      · rcases List.mem_cons.1 hx with rfl | hx
        · assumption
        · exact ih x hx
      · simp at hx
  have := this _ _ _ hc
  simpa using this
theorem com_end : ∀ (r : L) (c : UInt8) (q : L), r.drop (com r) = c :: q → c.toNat = 10
  | [], c, q, h => by simp [com] at h
  | d :: r, c, q, h => by
    unfold com at h
    by_cases hd : d.toNat = 10
    · simp [List.takeWhile_cons, hd] at h
      rw [← h.1]; exact hd
    · simp only [List.takeWhile_cons, hd, decide_false, Bool.not_false, if_true, List.length_cons, List.drop_succ_cons] at h
      exact com_end r c q h
theorem Sc.tell (l : L) {r : L} {at_ : Nat} {ts : List Tok} {p : Nat} {e : Int} (h : Sc r at_ ts p e) :
    ∀ (at0 : Nat) (o : Bool), r = l.drop at_ → at_ ≤ l.length → at0 ≤ at_ → looseF false ((l.take at_).drop at0) = some o → (o = true → ∀ c q, r = c :: q → c.toNat = 10) → Tell l at0 ts (if e = 0 then l.length else endOf at0 ts) := by
  induction h with
  | done a =>
    intro at0 o hr hl h0 hg ho
    have : l.length ≤ a := by
      rcases Nat.lt_or_ge a l.length with q | q
      · have := congrArg List.length hr; simp at this; omega
      · exact q
    obtain rfl : a = l.length := by omega
    rw [if_pos rfl]
    exact ⟨h0, Nat.le_refl _, o, hg⟩
  | @skip r at_ n ts p e hr h k ih =>
    intro at0 o hl hlen h0 hg ho
    have g := step_good hr
    rw [h] at g
    have hn := g.2
    rw [hl, List.length_drop] at hn
    have hpos := g.1
    have hm := take_more l at0 at_ n h0 (by omega)
    rcases step_bl hr h with ⟨c, q, hc, hb, rfl⟩ | ⟨c, q, hc, hb, hcom⟩
    · refine ih at0 false (by rw [hl, List.drop_drop]) (by omega) (by omega) ?_ (fun h => by cases h)
      rw [hm, loose_app, hg]
      rw [← hl, hc]
      show looseF o [c] = some false
      simp only [blN, Bool.or_eq_true, decide_eq_true_eq] at hb
      simp only [looseF]
      by_cases h10 : c.toNat = 10
      · rw [if_pos h10]
      · have hof : o = false := by
          cases o with
          | false => rfl
          | true => exact absurd (ho rfl c q hc) h10
        subst hof
        rw [if_neg h10, if_neg (by omega), if_neg (by omega)]
    · have hof : o = false := by
        cases o with
        | false => rfl
        | true => have := ho rfl c q hc; omega
      subst hof
      refine ih at0 true (by rw [hl, List.drop_drop]) (by omega) (by omega) ?_ (fun _ c' q' hq => com_end r c' q' (by rw [← hcom]; exact hq))
      rw [hm, loose_app, hg, ← hl, hcom]
      show looseF false (r.take (com r)) = some true
      have hall := com_take r
      have hpos' : 0 < com r := by rw [← hcom]; exact hpos
      rw [hc] at hall hpos' ⊢
      obtain ⟨m, hmm⟩ : ∃ m, com (c :: q) = m + 1 := ⟨com (c :: q) - 1, by omega⟩
      rw [hmm] at hall ⊢
      rw [List.take_succ_cons] at hall ⊢
      simp only [looseF]
      rw [if_neg (by omega), if_pos hb]
      exact loose_com _ (fun d hd => hall d (List.mem_cons_of_mem _ hd))
  | @tok r at_ t ts p e hr h k ih =>
    intro at0 o hl hlen h0 hg ho
    have g := step_good hr
    rw [h] at g
    have hlt : t.t.length ≤ r.length := by have := congrArg List.length g.2.1; simp at this; omega
    have hlr : r.length = l.length - at_ := by rw [hl, List.length_drop]
    have hof : o = false := by
      cases o with
      | false => rfl
      | true =>
        cases hrc : r with
        | nil => exact absurd hrc hr
        | cons c q =>
          have h10 := ho rfl c q hrc
          rw [hrc] at h
          have hs : step (c :: q) = .skip 1 := by
            unfold step; rw [List.headD_cons, if_pos (by rw [h10]; rfl)]
          rw [hs] at h; cases h
    subst hof
    have htx : (l.take (at_ + t.t.length)).drop at_ = t.t := by
      rw [List.drop_take, show at_ + t.t.length - at_ = t.t.length by omega, ← hl]; exact g.2.1.symm
    have hI := ih (at_ + t.t.length) false (by rw [hl, List.drop_drop]) (by omega) (Nat.le_refl _) (by rw [List.drop_take, Nat.sub_self]; rfl) (fun h => by cases h)
    refine ⟨at_, rfl, h0, g.1, by show at_ + t.t.length ≤ l.length; omega, htx, hg, ?_⟩
    have e1 : endOf at0 ({ t with a := (at_ : Int) } :: ts) = endOf (at_ + t.t.length) ts := by show endOf ((at_ : Int).toNat + t.t.length) ts = _; rw [Int.toNat_natCast]
    rw [e1]
    exact hI
  | @err r at_ s e hr h =>
    intro at0 o hl hlen h0 hg ho
    have g := step_good hr
    rw [h] at g
    rw [if_neg g.2.1]
    exact ⟨Nat.le_refl _, Nat.le_trans h0 hlen, false, by show looseF false ((l.take at0).drop at0) = _; rw [List.drop_take, Nat.sub_self]; rfl⟩
end Lx
end Go.Proofs.YtjbbbejadhojlaaDoor
