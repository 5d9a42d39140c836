import Derived.Test.YtpfjnnkjoabgbaaGreatDoorXAI
import Derived.Lib.SmallJoins
import Derived.RangeFuncRecord
namespace Go.Proofs.YtpfjnnkjoabgbaaGreatDoor
namespace Lx
set_option linter.unusedVariables false
set_option linter.unusedSimpArgs false

def nthN (r : L) (i : Nat) : Nat := (r.getD i 0).toNat
/-- A run does not go on over the place k. -/
def Bd (r : L) (k : Nat) : Prop := k < r.length → 0 < k → rnN (nthN r (k - 1)) = true → rnN (nthN r k) = false
theorem Bd.drop {r : L} {n k : Nat} (h : Bd (r.drop n) k) (hk : 0 < k) : Bd r (n + k) := by
  intro h1 h2 h3
  have e : ∀ i, nthN (r.drop n) i = nthN r (n + i) := fun i => by simp [nthN, List.getD]
  have := h (by rw [List.length_drop]; omega) hk (by rw [e, show n + (k - 1) = n + k - 1 by omega]; exact h3)
  rwa [e] at this
theorem run_stop : ∀ r : L, (run r).length < r.length → rnN (nthN r (run r).length) = false
  | [], h => by simp [run] at h
  | c :: r, h => by
    unfold run at h ⊢
    by_cases hc : rnN c.toNat = true
    · simp only [List.takeWhile_cons, hc, if_true, List.length_cons] at h ⊢
      have := run_stop r (by unfold run; omega)
      unfold run at this
      simpa [nthN, List.getD] using this
    · have hc' : rnN c.toNat = false := by simpa using hc
      simp [List.takeWhile_cons, hc', nthN]
theorem bd_run (r : L) : Bd r (run r).length := fun h _ _ => run_stop r h
theorem fits_stop : ∀ {fs : List Nat} {r : L}, fits fs r = true → fs.length < r.length → rnN (nthN r fs.length) = false
  | [], [], h, hl => by simp at hl
  | [], c :: r, h, hl => by simpa [fits, nthN] using h
  | f :: fs, [], h, hl => by simp at hl
  | f :: fs, c :: r, h, hl => by
    simp only [fits, Bool.and_eq_true] at h
    have := fits_stop h.2 (by simpa using hl)
    simpa [nthN, List.getD] using this
theorem mk_rn {c : Nat} (h : mkN c = true) : rnN c = false := by
  unfold mkN mkL at h
  have := of_decide_eq_true h
  simp only [List.mem_cons, List.not_mem_nil, or_false] at this
  rcases this with rfl|rfl|rfl|rfl|rfl|rfl|rfl|rfl|rfl|rfl|rfl|rfl|rfl|rfl|rfl|rfl|rfl|rfl|rfl <;> rfl
theorem pair_rn {a b : Nat} (h : pairN a b = true) : rnN b = false := by
  unfold pairN prL at h
  have := of_decide_eq_true h
  simp only [List.mem_cons, List.not_mem_nil, or_false, Prod.mk.injEq] at this
  rcases this with ⟨rfl, rfl⟩|⟨rfl, rfl⟩|⟨rfl, rfl⟩|⟨rfl, rfl⟩|⟨rfl, rfl⟩|⟨rfl, rfl⟩|⟨rfl, rfl⟩ <;> rfl
theorem datT_text {r : L} {t : Tok} (h : datT r = .tok t) : t.t = r.take 10 := by
  unfold datT at h
  split at h
  · injection h with h; rw [← h]
  · cases h
theorem digT_text {d : L} {t : Tok} (h : digT d = .tok t) : t.t = d := by
  unfold digT at h
  split at h
  · cases h
  · split at h
    · injection h with h; rw [← h]
    · split at h
      · cases h
      · injection h with h; rw [← h]
theorem namT_text {p : Nat → Bool} {k : Int} {d : L} {t : Tok} (h : namT p k d = .tok t) : t.t = d := by
  unfold namT at h
  split at h
  · injection h with h; rw [← h]
  · cases h
/-- How a token comes about. -/
theorem step_tok {r : L} {t : Tok} (h : step r = .tok t) :
    blN (r.headD 0).toNat = false ∧ (r.headD 0).toNat ≠ 35 ∧
    ((fits form r = true ∧ datT (r.take 10) = .tok t) ∨
     (fits form r = false ∧ ((dgN (r.headD 0).toNat = true ∧ digT (run r) = .tok t) ∨
       (dgN (r.headD 0).toNat = false ∧ smN (r.headD 0).toNat = true ∧ namT smN 1 (run r) = .tok t) ∨
       (dgN (r.headD 0).toNat = false ∧ smN (r.headD 0).toNat = false ∧ cpN (r.headD 0).toNat = true ∧ namT cpN 2 (run r) = .tok t) ∨
       (dgN (r.headD 0).toNat = false ∧ smN (r.headD 0).toNat = false ∧ cpN (r.headD 0).toNat = false ∧ marT r = .tok t)))) := by
  unfold step at h
  split at h
  · cases h
  · rename_i h1
    split at h
    · cases h
    · rename_i h2
      refine ⟨by simpa using h1, h2, ?_⟩
      split at h
      · rename_i h3; exact .inl ⟨h3, h⟩
      · rename_i h3
        refine .inr ⟨by simpa using h3, ?_⟩
        split at h
        · rename_i h4; exact .inl ⟨h4, h⟩
        · rename_i h4
          split at h
          · rename_i h5; exact .inr (.inl ⟨by simpa using h4, h5, h⟩)
          · rename_i h5
            split at h
            · rename_i h6; exact .inr (.inr (.inl ⟨by simpa using h4, by simpa using h5, h6, h⟩))
            · rename_i h6; exact .inr (.inr (.inr ⟨by simpa using h4, by simpa using h5, by simpa using h6, h⟩))
theorem tok_bd {r : L} {t : Tok} (h : step r = .tok t) : Bd r t.t.length := by
  obtain ⟨_, _, ⟨h1, h2⟩ | ⟨h1, h2⟩⟩ := step_tok h
  · have hl := fits_len h1
    simp only [form, List.length_cons, List.length_nil] at hl
    have e : t.t.length = 10 := by rw [datT_text h2, List.length_take, List.length_take]; omega
    rw [e]
    intro h3 _ _
    exact fits_stop (fs := form) h1 h3
  · rcases h2 with ⟨_, h2⟩ | ⟨_, _, h2⟩ | ⟨_, _, _, h2⟩ | ⟨_, _, _, h2⟩
    · rw [digT_text h2]; exact bd_run r
    · rw [namT_text h2]; exact bd_run r
    · rw [namT_text h2]; exact bd_run r
    · unfold marT at h2
      intro h3 h4 h5
      split at h2
      · rename_i hp
        injection h2 with h2
        match r, hp with
        | a :: b :: q, hp =>
          subst h2
          simp only [isPair] at hp
          simp [nthN, pair_rn hp] at h5
      · split at h2
        · rename_i _ hm
          injection h2 with h2
          subst h2
          cases r with
          | nil => simp at h3
          | cons c q => simp only [List.headD_cons] at hm; simp [nthN, mk_rn hm] at h5
        · cases h2
theorem takeW_take (p : UInt8 → Bool) : ∀ (r : L) (k : Nat), (r.take k).takeWhile p = (r.takeWhile p).take k
  | [], k => by simp
  | c :: r, 0 => by simp
  | c :: r, k + 1 => by
    simp only [List.take_succ_cons, List.takeWhile_cons]
    by_cases hc : p c = true
    · simp [hc, takeW_take p r k]
    · simp [hc]
theorem run_take {r : L} {k : Nat} (h : (run r).length ≤ k) : run (r.take k) = run r := by
  unfold run at h ⊢
  rw [takeW_take, List.take_of_length_le h]
theorem run_cut {r : L} {k : Nat} (hk : 0 < k) (hb : Bd r k) (hl : k < (run r).length → False) : run (r.take k) = run r := run_take (by rcases Nat.lt_or_ge k (run r).length with q | q; exact (hl q).elim; exact q)
theorem run_in {r : L} {i : Nat} (h : i < (run r).length) : rnN (nthN r i) = true := by
  have hl := run_len r
  have hm : (run r)[i] ∈ run r := List.getElem_mem h
  have h1 : rnN ((run r)[i]).toNat = true := by
    have : ∀ (p : UInt8 → Bool) (l : L) (x : UInt8), x ∈ l.takeWhile p → p x = true := by
      intro p l
      induction l with
      | nil => intro x hx; simp at hx
      | cons c l ih =>
        intro x hx
        rw [List.takeWhile_cons] at hx
        split at hx
        · rcases List.mem_cons.1 hx with rfl | hx
          · assumption
          · exact ih x hx
        · simp at hx
    exact this (fun c => rnN c.toNat) r _ hm
  have e : (run r)[i] = r[i]'(by omega) := by
    have := run_eq r
    have h2 : (run r)[i]? = (r.take (run r).length)[i]? := congrArg (fun l : L => l[i]?) this
    rw [List.getElem?_take_of_lt h, List.getElem?_eq_getElem h, List.getElem?_eq_getElem (show i < r.length by omega)] at h2
    injection h2
  rw [e] at h1
  simpa [nthN, List.getD, show i < r.length by omega] using h1
theorem run_short {r : L} {k : Nat} (hk : 0 < k) (hb : Bd r k) (h : k < (run r).length) : False := by
  have hl := run_len r
  have := hb (by omega) hk (run_in (by omega))
  rw [run_in h] at this
  cases this
theorem run_bd {r : L} {k : Nat} (hk : 0 < k) (hb : Bd r k) : run (r.take k) = run r := run_cut hk hb (run_short hk hb)
theorem fits_take : ∀ (fs : List Nat) (r : L) (k : Nat), fs.length ≤ k → fits fs r = true → fits fs (r.take k) = true
  | [], [], k, _, h => by simp [fits]
  | [], c :: r, 0, _, h => by simp [fits]
  | [], c :: r, k + 1, _, h => by simpa [fits] using h
  | f :: fs, [], k, _, h => by simp [fits] at h
  | f :: fs, c :: r, 0, hk, h => by simp at hk
  | f :: fs, c :: r, k + 1, hk, h => by
    simp only [fits, Bool.and_eq_true] at h
    simp only [List.take_succ_cons, fits, Bool.and_eq_true]
    exact ⟨h.1, fits_take fs r k (by simpa using hk) h.2⟩
theorem fits_untake : ∀ (fs : List Nat) (r : L) (k : Nat), (k < r.length → k = fs.length → rnN (nthN r k) = false) → fits fs (r.take k) = true → fits fs r = true
  | [], [], k, _, h => rfl
  | [], c :: r, 0, hk, h => by have := hk (by simp) rfl; simpa [fits, nthN] using this
  | [], c :: r, k + 1, hk, h => by simpa [fits] using h
  | f :: fs, [], k, _, h => by simp [fits] at h
  | f :: fs, c :: r, 0, hk, h => by simp [fits] at h
  | f :: fs, c :: r, k + 1, hk, h => by
    simp only [List.take_succ_cons, fits, Bool.and_eq_true] at h
    simp only [fits, Bool.and_eq_true]
    exact ⟨h.1, fits_untake fs r k (fun a b => by have := hk (by simpa using a) (by simpa using b); simpa [nthN, List.getD] using this) h.2⟩
theorem fits_last {r : L} (h : fits form r = true) : rnN (nthN r 9) = true := by
  have hl : 10 ≤ r.length := fits_len h
  match r, hl, h with
  | c0 :: c1 :: c2 :: c3 :: c4 :: c5 :: c6 :: c7 :: c8 :: c9 :: q, _, h =>
    simp only [form, fits, Bool.and_eq_true] at h
    obtain ⟨_, _, _, _, _, _, _, _, _, h9, _⟩ := h
    have : dgN c9.toNat = true := by simpa [fitN] using h9
    simpa [nthN] using rn_dg this
theorem head_take {r : L} {k : Nat} (hk : 0 < k) : (r.take k).headD 0 = r.headD 0 := by
  cases r with
  | nil => simp
  | cons c r => cases k with
    | zero => omega
    | succ k => simp
theorem step_cut {r : L} {k : Nat} {t : Tok} (hr : r ≠ []) (h : step r = .tok t) (hl : t.t.length ≤ k) (hb : Bd r k) : step (r.take k) = .tok t := by
  have g := step_good hr
  rw [h] at g
  have hk : 0 < k := by have := g.1; omega
  obtain ⟨h1, h2, h3⟩ := step_tok h
  have hrun := run_bd hk hb
  have hh : (r.take k).headD 0 = r.headD 0 := head_take hk
  unfold step
  rw [hh, if_neg (by rw [h1]; simp), if_neg h2]
  rcases h3 with ⟨h3, h4⟩ | ⟨h3, h4⟩
  · have hle := fits_len h3
    simp only [form, List.length_cons, List.length_nil] at hle
    have e : t.t.length = 10 := by rw [datT_text h4, List.length_take, List.length_take]; omega
    rw [if_pos (fits_take form r k (by show 10 ≤ k; omega) h3), List.take_take, Nat.min_eq_left (by omega)]
    exact h4
  · have hf : fits form (r.take k) = false := by
      cases hx : fits form (r.take k) with
      | false => rfl
      | true =>
        have := fits_untake form r k (fun a b => by
          have b' : k = 10 := b
          have h9 := fits_last hx
          refine hb a hk ?_
          rw [b'] at h9 ⊢
          simpa [nthN, List.getD, List.getElem?_take_of_lt] using h9) hx
        rw [this] at h3; cases h3
    rw [if_neg (by rw [hf]; simp), hrun]
    rcases h4 with ⟨a, h4⟩ | ⟨a, b, h4⟩ | ⟨a, b, c, h4⟩ | ⟨a, b, c, h4⟩
    · rw [if_pos a]; exact h4
    · rw [if_neg (by rw [a]; simp), if_pos b]; exact h4
    · rw [if_neg (by rw [a]; simp), if_neg (by rw [b]; simp), if_pos c]; exact h4
    · rw [if_neg (by rw [a]; simp), if_neg (by rw [b]; simp), if_neg (by rw [c]; simp)]
      unfold marT at h4 ⊢
      rw [hh]
      split at h4
      · rename_i hp
        injection h4 with h4
        match r, hp with
        | x :: y :: q, hp =>
          have e : t.t.length = 2 := by rw [← h4]; simp
          have hk2 : 2 ≤ k := by omega
          match k, hk2 with
          | k + 2, _ =>
            rw [if_pos (by simpa [isPair] using hp)]
            rw [← h4]; simp
      · rename_i hp
        have hp' : isPair (r.take k) = false := by
          match r, k, hp with
          | [], k, hp => simp [isPair]
          | [x], 0, hp => simp [isPair]
          | [x], k + 1, hp => simp [isPair]
          | x :: y :: q, 0, hp => simp [isPair]
          | x :: y :: q, 1, hp => simp [isPair]
          | x :: y :: q, k + 2, hp => simpa [isPair] using hp
        rw [if_neg (by rw [hp']; simp)]
        split at h4
        · rename_i hm
          rw [if_pos hm, List.take_take, Nat.min_eq_left hk]
          exact h4
        · cases h4
/-- A token's own text is cut into it. -/
theorem step_self {r : L} {t : Tok} (hr : r ≠ []) (h : step r = .tok t) : step t.t = .tok t := by
  have g := step_good hr
  rw [h] at g
  have := step_cut hr h (Nat.le_refl _) (tok_bd h)
  rwa [← g.2.1] at this
theorem step_gap {r : L} {t : Tok} (hr : r ≠ []) (h : step r = .tok t) (q : L) : step (t.t ++ 32 :: q) = .tok t := by
  have g := step_good hr
  rw [h] at g
  have hs := step_self hr h
  rw [step_sep 32 q rfl (by intro e; have := g.1; rw [e] at this; simp at this) (.inr fun n => by rw [hs]; simp), hs]
/-- Where the tokens end. -/
def endOf (at_ : Nat) : List Tok → Nat
  | [] => at_
  | t :: ts => endOf (t.a.toNat + t.t.length) ts
theorem endOf_any (x y : Nat) (t : Tok) (ts : List Tok) : endOf x (t :: ts) = endOf y (t :: ts) := rfl
/-- The text up to where the tokens end is cut into just these. -/
theorem Sc.cut {r : L} {at_ : Nat} {ts : List Tok} {p : Nat} {e : Int} (h : Sc r at_ ts p e) :
    ∃ k, k ≤ r.length ∧ (ts ≠ [] → 0 < k ∧ Bd r k) ∧ endOf at_ ts = at_ + (if ts = [] then 0 else k) ∧ Sc (r.take (if ts = [] then 0 else k)) at_ ts 0 0 ∧ (e ≠ 0 → at_ + (if ts = [] then 0 else k) ≤ p ∧ p < at_ + r.length) := by
  induction h with
  | done a => exact ⟨0, by simp, fun h => absurd rfl h, by simp [endOf], by simpa using Sc.done a, fun h => absurd rfl h⟩
  | @skip r at_ n ts p e hr h k ih =>
    have g := step_good hr
    rw [h] at g
    obtain ⟨j, h1, h2, h3, h4, h5⟩ := ih
    rw [List.length_drop] at h1 h5
    by_cases ht : ts = []
    · subst ht
      refine ⟨0, by simp, fun h => absurd rfl h, by simp [endOf], by simpa using Sc.done at_, fun he => ?_⟩
      obtain ⟨q1, q2⟩ := h5 he
      simp only [if_true] at q1 ⊢
      have := g.2
      omega
    · obtain ⟨q1, q2⟩ := h2 ht
      rw [if_neg ht] at h3 h4 h5
      have hn := g.2
      have hn0 := g.1
      refine ⟨n + j, by omega, fun _ => ⟨by omega, q2.drop q1⟩, ?_, ?_, fun he => by have := h5 he; rw [if_neg ht]; omega⟩
      · rw [if_neg ht]
        cases ts with
        | nil => exact absurd rfl ht
        | cons t ts => rw [endOf_any at_ (at_ + n), h3]; omega
      · rw [if_neg ht]
        have hs : step (r.take (n + j)) = .skip n := by
          unfold step at h ⊢
          rw [head_take (by omega)]
          split at h
          · rename_i hb; rw [if_pos hb]; exact h
          · rename_i hb
            rw [if_neg hb]
            split at h
            · rename_i hc
              rw [if_pos hc]
              injection h with h
              unfold com at h ⊢
              rw [takeW_take, List.length_take, h, Nat.min_eq_right (by omega)]
            · exfalso
              rename_i hc
              have : step r = .skip n := by unfold step; rw [if_neg hb, if_neg hc]; exact h
              split at h
              · unfold datT at h; split at h <;> cases h
              · split at h
                · unfold digT at h
                  split at h
                  · cases h
                  · split at h
                    · cases h
                    · split at h <;> cases h
                · split at h
                  · unfold namT at h; split at h <;> cases h
                  · split at h
                    · unfold namT at h; split at h <;> cases h
                    · unfold marT at h
                      split at h
                      · cases h
                      · split at h <;> cases h
        refine Sc.skip (by intro e; have := congrArg List.length e; simp at this; rcases this with q | q; omega; exact hr q) hs ?_
        rw [List.drop_take, show n + j - n = j by omega]
        exact h4
  | @tok r at_ t ts p e hr h k ih =>
    have g := step_good hr
    rw [h] at g
    have hl : t.t.length ≤ r.length := by have := congrArg List.length g.2.1; simp at this; omega
    have h0 := g.1
    obtain ⟨j, h1, h2, h3, h4, h5⟩ := ih
    rw [List.length_drop] at h1 h5
    by_cases ht : ts = []
    · subst ht
      simp only [if_true] at h3 h4 h5
      refine ⟨t.t.length, hl, fun _ => ⟨h0, tok_bd h⟩, by simp [endOf], ?_, fun he => by have := h5 he; rw [if_neg (by simp)]; omega⟩
      rw [if_neg (by simp), ← g.2.1]
      refine Sc.tok (by intro e; rw [e] at h0; simp at h0) (step_self hr h) ?_
      simpa using Sc.done _
    · obtain ⟨q1, q2⟩ := h2 ht
      rw [if_neg ht] at h3 h4 h5
      have hb := q2.drop q1
      refine ⟨t.t.length + j, by omega, fun _ => ⟨by omega, hb⟩, ?_, ?_, fun he => by have := h5 he; rw [if_neg (by simp)]; omega⟩
      · rw [if_neg (by simp)]
        show endOf ((at_ : Int).toNat + t.t.length) ts = _
        rw [Int.toNat_natCast, h3]; omega
      · rw [if_neg (by simp)]
        refine Sc.tok (by intro e; have := congrArg List.length e; simp at this; rcases this with q | q; omega; exact hr q) (step_cut hr h (by omega) hb) ?_
        rw [List.drop_take, show t.t.length + j - t.t.length = j by omega]
        exact h4
  | @err r at_ s e hr h =>
    have g := step_good hr
    rw [h] at g
    exact ⟨0, by simp, fun h => absurd rfl h, by simp [endOf], by simpa using Sc.done at_, fun _ => by simp; exact g.1⟩
end Lx
end Go.Proofs.YtpfjnnkjoabgbaaGreatDoor

namespace Go.Proofs.YtpfjnnkjoabgbaaGreatDoor
open Go.RowKit Lx
set_option linter.unusedVariables false
set_option linter.unusedSimpArgs false

def lst (s : ByteArray) : L := s.data.toList
def bs (l : L) : ByteArray := ⟨l.toArray⟩
theorem lst_bs (l : L) : lst (bs l) = l := by simp [lst, bs]
theorem bs_lst (s : ByteArray) : bs (lst s) = s := by obtain ⟨⟨l⟩⟩ := s; rfl
theorem bs_size (l : L) : (bs l).size = l.length := by simp [bs, ByteArray.size]
theorem lst_len (s : ByteArray) : (lst s).length = s.size := by
  show s.data.toList.length = s.size
  rw [Array.length_toList]; rfl
theorem nth_lst {s : ByteArray} {k : Nat} (h : k < s.size) : nthN (lst s) k = s[k].toNat := by
  have h' : k < s.data.toList.length := by rw [Array.length_toList]; exact h
  have : (lst s).getD k 0 = s[k] := by
    unfold lst
    rw [List.getD_eq_getElem?_getD, List.getElem?_eq_getElem h', Option.getD_some]
    rfl
  unfold nthN; rw [this]
theorem cutTo (s : ByteArray) (k : Int) (h0 : 0 ≤ k) (hk : k ≤ s.size) (W : World) : (Instr.slice 9 (.string s) none (some (.int .i64 k)) none).run Tryz.prog W = .ok (.string (bs ((lst s).take k.toNat))) W := by
  rw [run_slice_string_h W 9 _ (by kernel_rfl) .i64 k h0 hk]
  have : s.extract 0 k.toNat = bs ((lst s).take k.toNat) := by
    obtain ⟨⟨l⟩⟩ := s
    apply ByteArray.ext
    rw [ByteArray.data_extract]
    simp [bs, lst]
  rw [this]
theorem cutFrom (s : ByteArray) (k : Int) (h0 : 0 ≤ k) (hk : k ≤ s.size) (W : World) : (Instr.slice 9 (.string s) (some (.int .i64 k)) none none).run Tryz.prog W = .ok (.string (bs ((lst s).drop k.toNat))) W := by
  rw [run_slice_string_l W 9 _ (by kernel_rfl) .i64 k h0 hk]
  have : s.extract k.toNat s.size = bs ((lst s).drop k.toNat) := by
    obtain ⟨⟨l⟩⟩ := s
    apply ByteArray.ext
    rw [ByteArray.data_extract]
    simp [bs, lst, ByteArray.size]
    try exact List.take_of_length_le (by simp)
  rw [this]
theorem takeW_at (p : UInt8 → Bool) : ∀ (l : L) (k : Nat), (∀ i, i < k → p (l.getD i 0) = true) → k ≤ l.length → (k < l.length → p (l.getD k 0) = false) → l.takeWhile p = l.take k
  | [], k, _, _, _ => by simp
  | c :: l, 0, _, _, h => by have := h (by simp); simp at this; simp [this]
  | c :: l, k + 1, h1, h2, h3 => by
    have h0 := h1 0 (by omega)
    simp at h0
    simp only [List.takeWhile_cons, h0, if_true, List.take_succ_cons]
    rw [takeW_at p l k (fun i hi => by simpa using h1 (i + 1) (by omega)) (by simpa using h2) (fun hk => by simpa using h3 (by simpa using hk))]
theorem run_at {l : L} {k : Nat} (h : ∀ i, i < k → rnN (nthN l i) = true) (hk : k ≤ l.length) (he : k < l.length → rnN (nthN l k) = false) : run l = l.take k := takeW_at _ l k h hk he
theorem nameI_at {p : Nat → Bool} {l : L} {k : Nat} (h : ∀ i, i < k → nmN p (nthN l i) = true) (hk : k ≤ l.length) (he : k < l.length → nmN p (nthN l k) = false) : nameI p l = k := by
  unfold nameI
  rw [takeW_at (fun c => nmN p c.toNat) l k h hk he, List.length_take]
  omega
def intV (t : Value) : Nat := match t with | .int _ z => z.toNat | _ => 0

set_option maxHeartbeats 1000000 in
theorem nameError_capital (s : ByteArray) (w : World) (hs : s.size ≤ 9223372036854775806) :
    Calls Tryz.prog 152 #[.string s, .func (.func 145) #[] #[]] w fun e w' => e = .returned (.tuple #[.int .i64 ((nameE cpN (lst s)).1 : Nat), .int .i64 (nameE cpN (lst s)).2]) ∧ w' = w := by
  obtain ⟨A, hA⟩ : ∃ A, nameE cpN (lst s) = A := ⟨_, rfl⟩
  have HO := Lib.hid (p := ∀ k, (∀ i, i < k → nmN cpN (nthN (lst s) i) = true) → k < s.size → nmN cpN (nthN (lst s) k) = false → A = (k, 61)) (fun k a b c => by
    rw [← hA]; unfold nameE
    rw [nameI_at a (by rw [lst_len]; omega) (fun _ => c), if_pos (by rw [lst_len]; exact b)])
  have HE := Lib.hid (p := (∀ i, i < s.size → nmN cpN (nthN (lst s) i) = true) → A = if 31 < s.size then (0, 6) else (0, 0)) (fun a => by
    rw [← hA]; unfold nameE
    rw [nameI_at a (by rw [lst_len]; omega) (fun h => by rw [lst_len] at h; omega), if_neg (by rw [lst_len]; omega), lst_len])
  rw [hA]
  clear hA
  go_enter Tryz.func152, Tryz.ntmps152
  go_wp2
  go_loop [10] (fun t => ∃ k : Nat, k ≤ s.size ∧ t = .int .i64 k ∧ RowKit.Hid (∀ i, i < k → nmN cpN (nthN (lst s) i) = true)) (fun t => s.size - intV t)
  case atStart => exact ⟨0, by omega, rfl, fun i hi => absurd hi (by omega)⟩
  case round =>
    obtain ⟨k, hk, rfl, hN⟩ := hrel
    by_cases hlt : k < s.size
    · have kc : (k : Int) < (s.size : Int) := by omega
      have E := nth_lst hlt
      have KL := Lib.hid (fun W => isCapital_any (s[k].toNat) W)
      have KD := Lib.hid (fun W => isDigit_any (s[k].toNat) W)
      have kw : IntKind.i64.wrap ((k : Int) + 1) = (k : Int) + 1 := by simp [IntKind.wrap, IntKind.bits, IntKind.signed]; omega
      have ME := Lib.hid (p := s.size - intV (.int .i64 ((k : Int) + 1)) < s.size - intV (.int .i64 (k : Int))) (by simp only [intV]; omega)
      have NX := Lib.hid (p := nmN cpN (s[k].toNat) = true → ∀ i, i < k + 1 → nmN cpN (nthN (lst s) i) = true) (fun g i hi => by
        rcases (show i < k ∨ i = k by omega) with q | q
        · exact hN.out i q
        · rw [q, E]; exact g)
      have NO := Lib.hid (p := nmN cpN (s[k].toNat) = false → A = (k, 61)) (fun g => HO.out k hN.out hlt (by rw [E]; exact g))
      clear hN E
      cases h1 : cpN (s[k].toNat) with
      | true =>
        rw [h1] at KL
        have Y := Lib.hid (NX.out (by unfold nmN; rw [h1]; rfl))
        clear h1
        go_wp2_with (go_at_call 145; refine (KL.out _).mono ?_; rintro e w1 ⟨rfl, rfl⟩)
        go_round
        case rel => exact ⟨k + 1, by omega, by simp, Y.out⟩
        case measure => exact ME.out
      | false =>
        rw [h1] at KL
        cases h2 : dgN (s[k].toNat) with
        | true =>
          rw [h2] at KD
          have Y := Lib.hid (NX.out (by unfold nmN; rw [h1, h2]; rfl))
          clear h1 h2
          go_wp2_with (first
            | (go_at_call 145; refine (KL.out _).mono ?_; rintro e w1 ⟨rfl, rfl⟩)
            | (go_at_call 157; refine (KD.out _).mono ?_; rintro e w1 ⟨rfl, rfl⟩))
          go_round
          case rel => exact ⟨k + 1, by omega, by simp, Y.out⟩
          case measure => exact ME.out
        | false =>
          rw [h2] at KD
          by_cases h3 : s[k].toNat = 95
          · have Y := Lib.hid (NX.out (by unfold nmN; rw [h1, h2, decide_eq_true h3]; rfl))
            have h3' : ((s[k].toNat : Int) != 95) = false := by rw [h3]; rfl
            clear h1 h2 h3
            go_wp2_with (first
              | (go_at_call 145; refine (KL.out _).mono ?_; rintro e w1 ⟨rfl, rfl⟩)
              | (go_at_call 157; refine (KD.out _).mono ?_; rintro e w1 ⟨rfl, rfl⟩))
            go_round
            case rel => exact ⟨k + 1, by omega, by simp, Y.out⟩
            case measure => exact ME.out
          · have Y := Lib.hid (NO.out (by unfold nmN; rw [h1, h2, decide_eq_false h3]; rfl))
            have h3' : ((s[k].toNat : Int) != 95) = true := by rw [bne_iff_ne]; omega
            clear h1 h2 h3
            go_wp2_with (first
              | (go_at_call 145; refine (KL.out _).mono ?_; rintro e w1 ⟨rfl, rfl⟩)
              | (go_at_call 157; refine (KD.out _).mono ?_; rintro e w1 ⟨rfl, rfl⟩))
            go_ret2
            rw [Y.out]
            exact ⟨rfl, rfl⟩
    · obtain rfl : k = s.size := by omega
      have Y := Lib.hid (HE.out hN.out)
      clear hN
      by_cases h31 : 31 < s.size
      · have h31' : (31 : Int) < (s.size : Int) := by omega
        rw [if_pos h31] at Y
        go_wp2
        go_ret2
        rw [Y.out]
        exact ⟨rfl, rfl⟩
      · have h31' : ¬ (31 : Int) < (s.size : Int) := by omega
        rw [if_neg h31] at Y
        go_wp2
        go_ret2
        rw [Y.out]
        exact ⟨rfl, rfl⟩
end Go.Proofs.YtpfjnnkjoabgbaaGreatDoor

namespace Go.Proofs.YtpfjnnkjoabgbaaGreatDoor
open Go.RowKit Lx
set_option linter.unusedVariables false
set_option linter.unusedSimpArgs false

theorem cutMidR (s : ByteArray) (a b : Int) (h0 : 0 ≤ a) (h1 : a ≤ b) (hb : b ≤ s.size) (W : World) : (Instr.slice 9 (.string s) (some (.int .i64 a)) (some (.int .i64 b)) none).run Tryz.prog W = .ok (.string (bs (((lst s).take b.toNat).drop a.toNat))) W := by
  rw [run_slice_string W 9 s .i64 .i64 a b (by kernel_rfl) h0 h1 hb]
  have : s.extract a.toNat b.toNat = bs (((lst s).take b.toNat).drop a.toNat) := by
    obtain ⟨⟨l⟩⟩ := s
    apply ByteArray.ext
    rw [ByteArray.data_extract]
    simp [bs, lst, List.drop_take]
  rw [this]
theorem run_mid {l : L} {at_ k : Nat} (hk : at_ ≤ k) (hl : k ≤ l.length) (h : ∀ i, at_ ≤ i → i < k → rnN (nthN l i) = true) (he : k < l.length → rnN (nthN l k) = false) : run (l.drop at_) = (l.take k).drop at_ := by
  have e : ∀ i, nthN (l.drop at_) i = nthN l (at_ + i) := fun i => by simp [nthN, List.getD]
  rw [run_at (l := l.drop at_) (k := k - at_) (fun i hi => by rw [e]; exact h _ (by omega) (by omega)) (by rw [List.length_drop]; omega) (fun hk' => by rw [List.length_drop] at hk'; rw [e, show at_ + (k - at_) = k by omega]; exact he (by omega)), List.drop_take]
/-- Among a run's bytes: no name's byte is a letter of the other kind. -/
theorem sm_other {c : Nat} (h : rnN c = true) : nmN smN c = !cpN c := by
  unfold rnN at h; unfold nmN
  cases h1 : cpN c with
  | true =>
    obtain ⟨_, _, a, b⟩ : blN c = false ∧ c ≠ 35 ∧ dgN c = false ∧ smN c = false := by
      simp only [cpN, Bool.and_eq_true, decide_eq_true_eq] at h1
      refine ⟨by unfold blN; simp; omega, by omega, by unfold dgN; simp; omega, by unfold smN; simp; omega⟩
    rw [a, b]
    simp only [cpN, Bool.and_eq_true, decide_eq_true_eq] at h1
    simp; omega
  | false => rw [h1] at h; simp only [Bool.or_false] at h; rw [h]; rfl
theorem cp_other {c : Nat} (h : rnN c = true) : nmN cpN c = !smN c := by
  unfold rnN at h; unfold nmN
  cases h1 : smN c with
  | true =>
    obtain ⟨a, b⟩ : dgN c = false ∧ cpN c = false := by
      simp only [smN, Bool.and_eq_true, decide_eq_true_eq] at h1
      refine ⟨by unfold dgN; simp; omega, by unfold cpN; simp; omega⟩
    rw [a, b]
    simp only [smN, Bool.and_eq_true, decide_eq_true_eq] at h1
    simp; omega
  | false => rw [h1] at h; simp only [Bool.false_or] at h; rw [h]; rfl
theorem belowR9 {B : Nat} {w0 w : World} {g : Nat} (h : Below B w0 w) (hg : B ≤ g) (a0 a1 a2 a3 a4 a5 a6 a7 a8 : Value) :
    Below B w0 (((((((((w.setCell ⟨g, 0, none⟩ a0).setCell ⟨g, 1, none⟩ a1).setCell ⟨g, 2, none⟩ a2).setCell ⟨g, 3, none⟩ a3).setCell ⟨g, 4, none⟩ a4).setCell ⟨g, 5, none⟩ a5).setCell ⟨g, 6, none⟩ a6).setCell ⟨g, 7, none⟩ a7).setCell ⟨g, 8, none⟩ a8) :=
  ((((((((h.setCell (p := ⟨g, 0, none⟩) hg _).setCell (p := ⟨g, 1, none⟩) hg _).setCell (p := ⟨g, 2, none⟩) hg _).setCell (p := ⟨g, 3, none⟩) hg _).setCell (p := ⟨g, 4, none⟩) hg _).setCell (p := ⟨g, 5, none⟩) hg _).setCell (p := ⟨g, 6, none⟩) hg _).setCell (p := ⟨g, 7, none⟩) hg _).setCell (p := ⟨g, 8, none⟩) hg _
def tokR (t : Tok) : Value := .agg #[.int .i64 t.k, .string (bs t.t), .int .i64 t.a, .int .i64 t.num, .int .i64 t.y, .int .i64 t.m, .int .i64 t.d, .int .i64 t.n, .int .i64 t.u]
def tokR0 : Tok := ⟨0, [], 0, 0, 0, 0, 0, 0, 0⟩
/-- What names answers. -/
def namV (p : Nat → Bool) (k : Int) (l : L) (at_ : Nat) : Tok × Int × Int := if (nameE p l).2 = 0 then (⟨k, l, at_, 0, 0, 0, 0, 0, 0⟩, 0, 0) else (tokR0, (at_ : Int) + ((nameE p l).1 : Nat), (nameE p l).2)
abbrev trEnd (v : Tok × Int × Int) : Ending := .returned (.tuple #[tokR v.1, .int .i64 v.2.1, .int .i64 v.2.2])
end Go.Proofs.YtpfjnnkjoabgbaaGreatDoor

namespace Go.Proofs.YtpfjnnkjoabgbaaGreatDoor
namespace Lx
set_option linter.unusedVariables false
set_option linter.unusedSimpArgs false

/-- Of blanks and comments? none: no; else whether a comment stands open. -/
def looseF (o : Bool) : L → Option Bool
  | [] => some o
  | c :: r => if c.toNat = 10 then looseF false r else if c.toNat = 35 then looseF true r else if o = false ∧ c.toNat ≠ 32 ∧ c.toNat ≠ 9 ∧ c.toNat ≠ 13 then none else looseF o r
theorem loose_app : ∀ (x y : L) (o : Bool), looseF o (x ++ y) = (looseF o x).bind (fun o' => looseF o' y)
  | [], y, o => rfl
  | c :: x, y, o => by
    simp only [List.cons_append, looseF]
    split
    · exact loose_app x y false
    · split
      · exact loose_app x y true
      · split
        · rfl
        · exact loose_app x y o
theorem loose_com : ∀ (x : L), (∀ c ∈ x, c.toNat ≠ 10) → looseF true x = some true
  | [], _ => rfl
  | c :: x, h => by
    have h1 := h c List.mem_cons_self
    have ih := loose_com x (fun d hd => h d (List.mem_cons_of_mem _ hd))
    simp only [looseF]
    rw [if_neg h1]
    split
    · exact ih
    · rw [if_neg (by simp)]; exact ih
/-- The tokens rise, each stands at its place, and between them are blanks and ended comments alone. -/
def Tell (l : L) : Nat → List Tok → Nat → Prop
  | at_, [], en => at_ ≤ en ∧ en ≤ l.length ∧ ∃ o, looseF false ((l.take en).drop at_) = some o
  | at_, t :: ts, en => ∃ a : Nat, t.a = (a : Int) ∧ at_ ≤ a ∧ 0 < t.t.length ∧ a + t.t.length ≤ l.length ∧ (l.take (a + t.t.length)).drop a = t.t ∧ looseF false ((l.take a).drop at_) = some false ∧ Tell l (a + t.t.length) ts en
theorem take_more (l : L) (at0 at_ n : Nat) (h0 : at0 ≤ at_) (h1 : at_ + n ≤ l.length) : (l.take (at_ + n)).drop at0 = (l.take at_).drop at0 ++ (l.drop at_).take n := by
  have : l.take (at_ + n) = l.take at_ ++ (l.drop at_).take n := by rw [← List.take_add]
  rw [this, List.drop_append_of_le_length (by rw [List.length_take]; omega)]
theorem step_bl {r : L} {n : Nat} (hr : r ≠ []) (h : step r = .skip n) : (∃ c q, r = c :: q ∧ blN c.toNat = true ∧ n = 1) ∨ (∃ c q, r = c :: q ∧ c.toNat = 35 ∧ n = com r) := by
  cases r with
  | nil => exact absurd rfl hr
  | cons c q =>
    unfold step at h
    rw [List.headD_cons] at h
    split at h
    · rename_i hb; injection h with h; exact .inl ⟨c, q, rfl, hb, h.symm⟩
    · split at h
      · rename_i hc; injection h with h; exact .inr ⟨c, q, rfl, hc, h.symm⟩
      · exfalso
        split at h
        · unfold datT at h; split at h <;> cases h
        · split at h
          · unfold digT at h
            split at h
            · cases h
            · split at h
              · cases h
              · split at h <;> cases h
          · split at h
            · unfold namT at h; split at h <;> cases h
            · split at h
              · unfold namT at h; split at h <;> cases h
              · unfold marT at h
                split at h
                · cases h
                · split at h <;> cases h
theorem com_take (r : L) : ∀ c ∈ r.take (com r), c.toNat ≠ 10 := by
  unfold com
  rw [← take_eq]
  intro c hc
  have : ∀ (p : UInt8 → Bool) (l : L) (x : UInt8), x ∈ l.takeWhile p → p x = true := by
    intro p l
    induction l with
    | nil => intro x hx; simp at hx
    | cons d l ih =>
      intro x hx
      rw [List.takeWhile_cons] at hx
      split at hx
      · rcases List.mem_cons.1 hx with rfl | hx
        · assumption
        · exact ih x hx
      · simp at hx
  have := this _ _ _ hc
  simpa using this
theorem com_end : ∀ (r : L) (c : UInt8) (q : L), r.drop (com r) = c :: q → c.toNat = 10
  | [], c, q, h => by simp [com] at h
  | d :: r, c, q, h => by
    unfold com at h
    by_cases hd : d.toNat = 10
    · simp [List.takeWhile_cons, hd] at h
      rw [← h.1]; exact hd
    · simp only [List.takeWhile_cons, hd, decide_false, Bool.not_false, if_true, List.length_cons, List.drop_succ_cons] at h
      exact com_end r c q h
theorem Sc.tell (l : L) {r : L} {at_ : Nat} {ts : List Tok} {p : Nat} {e : Int} (h : Sc r at_ ts p e) :
    ∀ (at0 : Nat) (o : Bool), r = l.drop at_ → at_ ≤ l.length → at0 ≤ at_ → looseF false ((l.take at_).drop at0) = some o → (o = true → ∀ c q, r = c :: q → c.toNat = 10) → Tell l at0 ts (if e = 0 then l.length else endOf at0 ts) := by
  induction h with
  | done a =>
    intro at0 o hr hl h0 hg ho
    have : l.length ≤ a := by
      rcases Nat.lt_or_ge a l.length with q | q
      · have := congrArg List.length hr; simp at this; omega
      · exact q
    obtain rfl : a = l.length := by omega
    rw [if_pos rfl]
    exact ⟨h0, Nat.le_refl _, o, hg⟩
  | @skip r at_ n ts p e hr h k ih =>
    intro at0 o hl hlen h0 hg ho
    have g := step_good hr
    rw [h] at g
    have hn := g.2
    rw [hl, List.length_drop] at hn
    have hpos := g.1
    have hm := take_more l at0 at_ n h0 (by omega)
    rcases step_bl hr h with ⟨c, q, hc, hb, rfl⟩ | ⟨c, q, hc, hb, hcom⟩
    · refine ih at0 false (by rw [hl, List.drop_drop]) (by omega) (by omega) ?_ (fun h => by cases h)
      rw [hm, loose_app, hg]
      rw [← hl, hc]
      show looseF o [c] = some false
      simp only [blN, Bool.or_eq_true, decide_eq_true_eq] at hb
      simp only [looseF]
      by_cases h10 : c.toNat = 10
      · rw [if_pos h10]
      · have hof : o = false := by
          cases o with
          | false => rfl
          | true => exact absurd (ho rfl c q hc) h10
        subst hof
        rw [if_neg h10, if_neg (by omega), if_neg (by omega)]
    · have hof : o = false := by
        cases o with
        | false => rfl
        | true => have := ho rfl c q hc; omega
      subst hof
      refine ih at0 true (by rw [hl, List.drop_drop]) (by omega) (by omega) ?_ (fun _ c' q' hq => com_end r c' q' (by rw [← hcom]; exact hq))
      rw [hm, loose_app, hg, ← hl, hcom]
      show looseF false (r.take (com r)) = some true
      have hall := com_take r
      have hpos' : 0 < com r := by rw [← hcom]; exact hpos
      rw [hc] at hall hpos' ⊢
      obtain ⟨m, hmm⟩ : ∃ m, com (c :: q) = m + 1 := ⟨com (c :: q) - 1, by omega⟩
      rw [hmm] at hall ⊢
      rw [List.take_succ_cons] at hall ⊢
      simp only [looseF]
      rw [if_neg (by omega), if_pos hb]
      exact loose_com _ (fun d hd => hall d (List.mem_cons_of_mem _ hd))
  | @tok r at_ t ts p e hr h k ih =>
    intro at0 o hl hlen h0 hg ho
    have g := step_good hr
    rw [h] at g
    have hlt : t.t.length ≤ r.length := by have := congrArg List.length g.2.1; simp at this; omega
    have hlr : r.length = l.length - at_ := by rw [hl, List.length_drop]
    have hof : o = false := by
      cases o with
      | false => rfl
      | true =>
        cases hrc : r with
        | nil => exact absurd hrc hr
        | cons c q =>
          have h10 := ho rfl c q hrc
          rw [hrc] at h
          have hs : step (c :: q) = .skip 1 := by
            unfold step; rw [List.headD_cons, if_pos (by rw [h10]; rfl)]
          rw [hs] at h; cases h
    subst hof
    have htx : (l.take (at_ + t.t.length)).drop at_ = t.t := by
      rw [List.drop_take, show at_ + t.t.length - at_ = t.t.length by omega, ← hl]; exact g.2.1.symm
    have hI := ih (at_ + t.t.length) false (by rw [hl, List.drop_drop]) (by omega) (Nat.le_refl _) (by rw [List.drop_take, Nat.sub_self]; rfl) (fun h => by cases h)
    refine ⟨at_, rfl, h0, g.1, by show at_ + t.t.length ≤ l.length; omega, htx, hg, ?_⟩
    have e1 : endOf at0 ({ t with a := (at_ : Int) } :: ts) = endOf (at_ + t.t.length) ts := by show endOf ((at_ : Int).toNat + t.t.length) ts = _; rw [Int.toNat_natCast]
    rw [e1]
    exact hI
  | @err r at_ s e hr h =>
    intro at0 o hl hlen h0 hg ho
    have g := step_good hr
    rw [h] at g
    rw [if_neg g.2.1]
    exact ⟨Nat.le_refl _, Nat.le_trans h0 hlen, false, by show looseF false ((l.take at0).drop at0) = _; rw [List.drop_take, Nat.sub_self]; rfl⟩
theorem Sc.tells {l : L} {ts : List Tok} {p : Nat} {e : Int} (h : Sc l 0 ts p e) : Tell l 0 ts (if e = 0 then l.length else endOf 0 ts) :=
  h.tell l 0 false rfl (Nat.zero_le _) (Nat.le_refl _) rfl (fun h => by cases h)
theorem Tell.ends {l : L} : ∀ {ts : List Tok} {at_ en : Nat}, Tell l at_ ts en → ∀ t, ts.getLast? = some t → ∃ a : Nat, t.a = (a : Int) ∧ a + t.t.length ≤ l.length ∧ endOf at_ ts = a + t.t.length
  | [], at_, en, h, t, ht => by simp at ht
  | [t], at_, en, h, u, ht => by
    simp at ht; subst ht
    obtain ⟨a, h1, h2, h3, h4, h5, h6, h7⟩ := h
    exact ⟨a, h1, h4, by show t.a.toNat + t.t.length = _; rw [h1, Int.toNat_natCast]⟩
  | t :: v :: ts, at_, en, h, u, ht => by
    obtain ⟨a, h1, h2, h3, h4, h5, h6, h7⟩ := h
    obtain ⟨b, k1, k2, k3⟩ := Tell.ends h7 u (by simpa using ht)
    exact ⟨b, k1, k2, k3⟩
end Lx
end Go.Proofs.YtpfjnnkjoabgbaaGreatDoor

namespace Go.Proofs.YtpfjnnkjoabgbaaGreatDoor
namespace Lx
set_option linter.unusedVariables false
set_option linter.unusedSimpArgs false

def kwL : List L := [[100, 101, 97, 108],
  [115, 116, 97, 114, 116],
  [104, 111, 108, 105, 100, 97, 121, 115],
  [111, 98, 115, 101, 114, 118, 101],
  [100, 101, 102],
  [99, 111, 110, 116, 114, 97, 99, 116],
  [122, 101, 114, 111],
  [112, 97, 121],
  [103, 105, 118, 101],
  [115, 99, 97, 108, 101],
  [100, 101, 108, 97, 121],
  [97, 116],
  [105, 102],
  [101, 108, 115, 101],
  [108, 101, 116],
  [105, 110],
  [102, 111, 114],
  [101, 118, 101, 114, 121],
  [102, 114, 111, 109],
  [116, 111],
  [115, 116, 101, 112],
  [102, 111, 108, 108, 111, 119, 105, 110, 103],
  [109, 111, 100, 105, 102, 105, 101, 100],
  [112, 114, 101, 99, 101, 100, 105, 110, 103],
  [97, 99, 99, 117, 109, 117, 108, 97, 116, 101],
  [98, 121],
  [116, 104, 101, 110],
  [119, 104, 101, 110],
  [119, 105, 116, 104, 105, 110],
  [97, 110, 100],
  [116, 114, 117, 101],
  [102, 97, 108, 115, 101],
  [100, 97, 121],
  [109, 105, 110],
  [109, 97, 120],
  [97, 98, 115],
  [114, 97, 116, 105, 111],
  [116, 104, 105, 114, 116, 121],
  [100, 111, 119, 110],
  [102, 108, 111, 111, 114],
  [99, 101, 105, 108],
  [104, 97, 108, 102, 95, 117, 112],
  [104, 97, 108, 102, 95, 101, 118, 101, 110]]
def kwB (l : L) : Bool := decide (l ∈ kwL)
def nameB (p : Nat → Bool) (l : L) : Bool := !l.isEmpty && p (l.headD 0).toNat && decide ((nameE p l).2 = 0)
def curB : L → Bool
  | [a, b, c] => cpN a.toNat && cpN b.toNat && cpN c.toNat
  | _ => false
theorem kw_all : kwL.all (fun l => nameB smN l) = true := by decide
theorem kw_name {l : L} (h : kwB l = true) : nameB smN l = true := by
  have := List.all_eq_true.1 kw_all l (of_decide_eq_true h)
  exact this
theorem nameB_parts {p : Nat → Bool} {l : L} (h : nameB p l = true) : l ≠ [] ∧ p (l.headD 0).toNat = true ∧ (nameE p l).2 = 0 := by
  unfold nameB at h
  simp only [Bool.and_eq_true, decide_eq_true_eq, Bool.not_eq_true', List.isEmpty_eq_false_iff] at h
  exact ⟨h.1.1, h.1.2, h.2⟩
theorem nameE_ok {p : Nat → Bool} {l : L} (h : (nameE p l).2 = 0) : nameI p l = l.length ∧ l.length ≤ 31 ∧ nameE p l = (0, 0) := by
  have hl : nameI p l ≤ l.length := take_len _ l
  unfold nameE at h ⊢
  by_cases h1 : nameI p l < l.length
  · rw [if_pos h1] at h; cases h
  · rw [if_neg h1] at h ⊢
    by_cases h2 : 31 < l.length
    · rw [if_pos h2] at h; cases h
    · rw [if_neg h2]; exact ⟨by omega, by omega, rfl⟩
theorem takeW_all {p : UInt8 → Bool} {l : L} (h : (l.takeWhile p).length = l.length) : ∀ c ∈ l, p c = true := by
  have e : l.takeWhile p = l := by rw [take_eq, h, List.take_length]
  intro c hc
  rw [← e] at hc
  have key : ∀ (l : L) (x : UInt8), x ∈ l.takeWhile p → p x = true := by
    intro l
    induction l with
    | nil => intro x hx; simp at hx
    | cons d l ih =>
      intro x hx
      rw [List.takeWhile_cons] at hx
      split at hx
      · rcases List.mem_cons.1 hx with rfl | hx
        · assumption
        · exact ih x hx
      · simp at hx
  exact key l c hc
theorem takeW_self {p : UInt8 → Bool} : ∀ {l : L}, (∀ c ∈ l, p c = true) → l.takeWhile p = l
  | [], _ => rfl
  | c :: l, h => by
    rw [List.takeWhile_cons, if_pos (h c List.mem_cons_self), takeW_self (fun d hd => h d (List.mem_cons_of_mem _ hd))]
theorem nm_rn {p : Nat → Bool} (hp : ∀ c, p c = true → rnN c = true) {c : Nat} (h : nmN p c = true) : rnN c = true := by
  unfold nmN at h
  simp only [Bool.or_eq_true, decide_eq_true_eq] at h
  rcases h with (h | h) | h
  · exact hp c h
  · exact rn_dg h
  · subst h; rfl
theorem run_name {p : Nat → Bool} (hp : ∀ c, p c = true → rnN c = true) {l : L} (h : (nameE p l).2 = 0) : run l = l := by
  have hall := takeW_all (nameE_ok h).1
  exact takeW_self (fun c hc => nm_rn hp (hall c hc))
theorem fits_dg {c : UInt8} {q : L} (h : dgN c.toNat = false) : fits form (c :: q) = false := by
  show (fitN c.toNat 48 && _) = false
  rw [show fitN c.toNat 48 = dgN c.toNat from rfl, h]; rfl
theorem sm_not {c : Nat} (h : smN c = true) : blN c = false ∧ c ≠ 35 ∧ dgN c = false ∧ cpN c = false := by
  simp only [smN, Bool.and_eq_true, decide_eq_true_eq] at h
  refine ⟨by unfold blN; simp; omega, by omega, by unfold dgN; simp; omega, by unfold cpN; simp; omega⟩
theorem cp_not {c : Nat} (h : cpN c = true) : blN c = false ∧ c ≠ 35 ∧ dgN c = false ∧ smN c = false := by
  simp only [cpN, Bool.and_eq_true, decide_eq_true_eq] at h
  refine ⟨by unfold blN; simp; omega, by omega, by unfold dgN; simp; omega, by unfold smN; simp; omega⟩
theorem sc_small {l : L} (h : nameB smN l = true) : Sc l 0 [⟨1, l, 0, 0, 0, 0, 0, 0, 0⟩] 0 0 := by
  obtain ⟨h1, h2, h3⟩ := nameB_parts h
  obtain ⟨k1, k2, k3, k4⟩ := sm_not h2
  cases l with
  | nil => exact absurd rfl h1
  | cons c q =>
    rw [List.headD_cons] at h2 k1 k2 k3
    have hs : step (c :: q) = .tok ⟨1, c :: q, 0, 0, 0, 0, 0, 0, 0⟩ := by
      unfold step
      rw [List.headD_cons, if_neg (by rw [k1]; simp), if_neg k2, if_neg (by rw [fits_dg k3]; simp), if_neg (by rw [k3]; simp), if_pos h2, run_name (fun c => rn_sm) h3]
      unfold namT
      rw [if_pos h3]
    have := Sc.tok (at_ := 0) (ts := []) (p := 0) (e := 0) (by simp) hs (by simpa using Sc.done _)
    exact this
theorem sc_capital {l : L} (h : nameB cpN l = true) : Sc l 0 [⟨2, l, 0, 0, 0, 0, 0, 0, 0⟩] 0 0 := by
  obtain ⟨h1, h2, h3⟩ := nameB_parts h
  obtain ⟨k1, k2, k3, k4⟩ := cp_not h2
  cases l with
  | nil => exact absurd rfl h1
  | cons c q =>
    rw [List.headD_cons] at h2 k1 k2 k3 k4
    have hs : step (c :: q) = .tok ⟨2, c :: q, 0, 0, 0, 0, 0, 0, 0⟩ := by
      unfold step
      rw [List.headD_cons, if_neg (by rw [k1]; simp), if_neg k2, if_neg (by rw [fits_dg k3]; simp), if_neg (by rw [k3]; simp), if_neg (by rw [k4]; simp), if_pos h2, run_name (fun c => rn_cp) h3]
      unfold namT
      rw [if_pos h3]
    have := Sc.tok (at_ := 0) (ts := []) (p := 0) (e := 0) (by simp) hs (by simpa using Sc.done _)
    exact this
def z1 (t : Tok) : Tok := { t with a := 0 }
theorem Sc.low {r : L} {at_ : Nat} {ts : List Tok} {p : Nat} {e : Int} (h : Sc r at_ ts p e) : ∀ t ∈ ts, (at_ : Int) ≤ t.a := by
  induction h with
  | done a => intro t ht; simp at ht
  | skip hr h k ih => intro t ht; have := ih t ht; omega
  | tok hr h k ih =>
    intro t ht
    rcases List.mem_cons.1 ht with rfl | ht
    · exact Int.le_refl _
    · have := ih t ht; omega
  | err hr h => intro t ht; simp at ht
/-- One token that is the whole text comes about at once. -/
theorem whole_step {l : L} {t : Tok} {p : Nat} (h : Sc l 0 [t] p 0) (ht : t.t = l) : step l = .tok (z1 t) := by
  have hT := h.tells
  rw [if_pos rfl] at hT
  obtain ⟨a, e1, e2, e3, e4, e5, e6, e7⟩ := hT
  rw [ht] at e3 e4
  obtain rfl : a = 0 := by omega
  cases h with
  | skip hr hs k =>
    exfalso
    have g := step_good hr
    rw [hs] at g
    have := Sc.low k t (by simp)
    rw [e1] at this
    have := g.1
    omega
  | tok hr hs k =>
    have g := step_good hr
    rw [hs] at g
    rw [hs]
    rename_i t0
    have : t0.a = 0 := g.2.2
    cases t0
    simp only at this
    subst this
    rfl
theorem whole_kind {l : L} {t : Tok} {p : Nat} (h : Sc l 0 [t] p 0) (ht : t.t = l) : (t.k = 1 → nameB smN l = true) ∧ (t.k = 2 → nameB cpN l = true) := by
  have hs := whole_step h ht
  have hne : l ≠ [] := by
    intro e; subst e
    cases h with
    | skip hr _ _ => exact hr rfl
    | tok hr _ _ => exact hr rfl
  have hk : (z1 t).k = t.k := rfl
  obtain ⟨_, _, ⟨h1, h2⟩ | ⟨h1, h2⟩⟩ := step_tok hs
  · have : t.k = 4 := by
      unfold datT at h2
      split at h2
      · injection h2 with h2; rw [← hk, ← h2]
      · cases h2
    exact ⟨fun q => by omega, fun q => by omega⟩
  · rcases h2 with ⟨_, h2⟩ | ⟨_, hsm, h2⟩ | ⟨_, _, hcp, h2⟩ | ⟨_, _, _, h2⟩
    · have : t.k = 3 ∨ t.k = 5 := by
        unfold digT at h2
        split at h2
        · cases h2
        · split at h2
          · injection h2 with h2; left; rw [← hk, ← h2]
          · split at h2
            · cases h2
            · injection h2 with h2; right; rw [← hk, ← h2]
      exact ⟨fun q => by omega, fun q => by omega⟩
    · have h3 := namT_text h2
      rw [show (z1 t).t = t.t from rfl, ht] at h3
      rw [← h3] at h2
      have h4 : (nameE smN l).2 = 0 ∧ t.k = 1 := by
        unfold namT at h2
        split at h2
        · rename_i hq; injection h2 with h2; exact ⟨hq, by rw [← hk, ← h2]⟩
        · cases h2
      refine ⟨fun _ => ?_, fun q => by omega⟩
      unfold nameB
      rw [hsm, decide_eq_true h4.1]
      cases l with
      | nil => exact absurd rfl hne
      | cons c q => rfl
    · have h3 := namT_text h2
      rw [show (z1 t).t = t.t from rfl, ht] at h3
      rw [← h3] at h2
      have h4 : (nameE cpN l).2 = 0 ∧ t.k = 2 := by
        unfold namT at h2
        split at h2
        · rename_i hq; injection h2 with h2; exact ⟨hq, by rw [← hk, ← h2]⟩
        · cases h2
      refine ⟨fun q => by omega, fun _ => ?_⟩
      unfold nameB
      rw [hcp, decide_eq_true h4.1]
      cases l with
      | nil => exact absurd rfl hne
      | cons c q => rfl
    · have : t.k = 6 := by
        unfold marT at h2
        split at h2
        · injection h2 with h2; rw [← hk, ← h2]
        · split at h2
          · injection h2 with h2; rw [← hk, ← h2]
          · cases h2
      exact ⟨fun q => by omega, fun q => by omega⟩
theorem small_not_capital {l : L} (h : nameB smN l = true) : nameB cpN l = false := by
  cases hq : nameB cpN l with
  | false => rfl
  | true =>
    have a := (nameB_parts h).2.1
    have b := (sm_not a).2.2.2
    rw [(nameB_parts hq).2.1] at b; cases b
theorem cur_name {l : L} (h : curB l = true) : nameB cpN l = true ∧ l.length = 3 := by
  match l, h with
  | [a, b, c], h =>
    simp only [curB, Bool.and_eq_true] at h
    refine ⟨?_, rfl⟩
    unfold nameB nameE nameI
    simp [nmN, h.1.1, h.1.2, h.2]
/-- A capital name of three bytes that is no currency has a digit or a bar. -/
theorem cap_three {a b c : UInt8} (h : nameB cpN [a, b, c] = true) (h' : curB [a, b, c] = false) : b.toNat < 65 ∨ b.toNat = 95 ∨ c.toNat < 65 ∨ c.toNat = 95 := by
  obtain ⟨_, h2, h3⟩ := nameB_parts h
  have hall := takeW_all (nameE_ok h3).1
  have hb := hall b (by simp)
  have hc := hall c (by simp)
  rw [List.headD_cons] at h2
  simp only [curB] at h'
  simp only [nmN, Bool.or_eq_true, decide_eq_true_eq] at hb hc
  rcases hb with (hb | hb) | hb
  · rcases hc with (hc | hc) | hc
    · rw [h2, hb, hc] at h'; cases h'
    · simp only [dgN, Bool.and_eq_true, decide_eq_true_eq] at hc; omega
    · omega
  · simp only [dgN, Bool.and_eq_true, decide_eq_true_eq] at hb; omega
  · omega
end Lx
end Go.Proofs.YtpfjnnkjoabgbaaGreatDoor
