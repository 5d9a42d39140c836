/-
  WALKS: sameTokens (of lists with the same contents), Scan of a text of any length, takes.
-/
import Derived.Test.YtlihkmhhfnkkoaaDoorWLex10
namespace Go.Proofs.YtlihkmhhfnkkoaaDoor
open Go.RowKit Lx
set_option linter.unusedVariables false
set_option linter.unusedSimpArgs false

theorem TL.two {w : World} {a b : Option Addr} {n : Nat} {ts : List Tok} (h : TL w a n ts) (h' : TL w b n ts) : 0 < n → ∃ x o y p, a = some ⟨x, o, none⟩ ∧ b = some ⟨y, p, none⟩ ∧ ∀ i, i < n → TK w x (o + i * 9) (ts.getD i default) ∧ TK w y (p + i * 9) (ts.getD i default) := by
  obtain ⟨_, _, h3⟩ := h
  obtain ⟨_, _, h3'⟩ := h'
  intro h0
  rcases h3 with h3 | ⟨x, o, e1, _, h3⟩
  · omega
  · rcases h3' with h3' | ⟨y, p, e2, _, h3'⟩
    · omega
    · exact ⟨x, o, y, p, e1, e2, fun i hi => ⟨h3 i hi, h3' i hi⟩⟩
theorem TK.drewN {w : World} {b o : Nat} {t : Tok} (h : TK w b o t) (q : Nat) : TK (w.drewN q) b o t := ⟨h.c0, h.c1, h.c2, h.c3, h.c4, h.c5, h.c6, h.c7, h.c8⟩
set_option maxHeartbeats 2000000 in
theorem sameTok_any (a b : Option Addr) (n c1 c2 : Nat) (ts : List Tok) (w : World) (h : TL w a n ts) (h' : TL w b n ts) :
    Calls Tryd.prog 6 #[.slice a n c1, .slice b n c2] w fun e w' => e = .returned (.bool true) ∧ ∃ q, w' = w.drewN q := by
  have HA := Lib.hid (h.two h')
  have hn := h.2.1
  clear h h'
  go_enter Tryd.func6, Tryd.ntmps6
  go_wp2
  go_loopw [5] (fun t wr => ∃ k : Nat, k ≤ n ∧ t = .int .i64 k ∧ ∃ q, wr = w.drewN q) (fun t _ => n - intV t)
  case atStart => exact ⟨0, by omega, rfl, 0, rfl⟩
  case round =>
    obtain ⟨k, hk, rfl, q, rfl⟩ := hrel
    by_cases hlt : k < n
    · obtain ⟨x, o, y, p, rfl, rfl, hc⟩ := HA.out (by omega)
      obtain ⟨hx, hy⟩ := hc k hlt
      have hx' := hx.drewN q
      have hy' := hy.drewN q
      have kc : (k : Int) < (n : Int) := by omega
      have kw : IntKind.i64.wrap ((k : Int) + 1) = (k : Int) + 1 := by simp [IntKind.wrap, IntKind.bits, IntKind.signed]; omega
      have ME := Lib.hid (p := n - intV (.int .i64 ((k : Int) + 1)) < n - intV (.int .i64 (k : Int))) (by simp only [intV]; omega)
      generalize ts.getD k default = f at *
      obtain ⟨x0, x1, x2, x3, x4, x5, x6, x7, x8⟩ := hx'
      obtain ⟨y0, y1, y2, y3, y4, y5, y6, y7, y8⟩ := hy'
      obtain ⟨tk, tt, ta, tn, ty, tm, td, tnn, tu⟩ := f
      simp only at x0 x1 x2 x3 x4 x5 x6 x7 x8 y0 y1 y2 y3 y4 y5 y6 y7 y8
      generalize bs tt = st at *
      obtain ⟨wq, hwq⟩ : ∃ wq, w.drewN q = wq := ⟨_, rfl⟩
      rw [hwq] at x0 x1 x2 x3 x4 x5 x6 x7 x8 y0 y1 y2 y3 y4 y5 y6 y7 y8
      have HW := Lib.hid hwq
      rw [hwq]
      clear hc hx hy hwq
      go_wp2
      go_quiet (fail)
      go_wp2
      go_roundw
      case rel => exact ⟨k + 1, by omega, by simp, by rw [← HW.out]; exact drew_drew _ _ _⟩
      case measure => exact ME.out
    · obtain rfl : k = n := by omega
      go_wp2
      go_ret
      exact ⟨rfl, _, rfl⟩
/-- What Scan answers of a text of any length. -/
def Scn (l : L) (ts : List Tok) (p : Nat) (e : Int) : Prop := (65536 < l.length ∧ ts = [] ∧ p = 0 ∧ e = 6) ∨ (l.length ≤ 65536 ∧ Sc l 0 ts p e)
theorem Scn.total (l : L) : ∃ ts p e, Scn l ts p e := by
  rcases Nat.lt_or_ge 65536 l.length with h | h
  · exact ⟨_, _, _, .inl ⟨h, rfl, rfl, rfl⟩⟩
  · obtain ⟨ts, p, e, hs⟩ := Sc.total l.length l 0 (Nat.le_refl _)
    exact ⟨_, _, _, .inr ⟨h, hs⟩⟩
theorem Scn.only {l : L} {ts ts' : List Tok} {p p' : Nat} {e e' : Int} (h : Scn l ts p e) (h' : Scn l ts' p' e') : ts' = ts ∧ p' = p ∧ e' = e := by
  rcases h with ⟨h1, rfl, rfl, rfl⟩ | ⟨h1, h2⟩ <;> rcases h' with ⟨k1, rfl, rfl, rfl⟩ | ⟨k1, k2⟩
  · exact ⟨rfl, rfl, rfl⟩
  · omega
  · omega
  · exact h2.only k2
theorem Lx.Sc.few {r : L} {at_ : Nat} {ts : List Tok} {p : Nat} {e : Int} (h : Sc r at_ ts p e) : ts.length ≤ r.length := by
  induction h with
  | done a => simp
  | skip hr h k ih => rw [List.length_drop] at ih; omega
  | @tok r at_ t ts p e hr h k ih =>
    have g := step_good hr
    rw [h] at g
    have := g.1
    have : 0 < r.length := List.length_pos_iff.2 hr
    rw [List.length_drop] at ih
    simp only [List.length_cons]; omega
  | err hr h => simp
theorem Scn.few {l : L} {ts : List Tok} {p : Nat} {e : Int} (h : Scn l ts p e) : ts.length ≤ 65536 := by
  rcases h with ⟨h1, rfl, rfl, rfl⟩ | ⟨h1, h2⟩
  · simp
  · exact Nat.le_trans h2.few h1
/-- What Scan leaves: a list of tokens, new. -/
structure SL (w w' : World) (v : Value) (a : Option Addr) (cap : Nat) (ts : List Tok) : Prop where
  ow : OwT w' w.heap.size v ts
  tl : TL w' a ts.length ts
  bel : Below w.heap.size w w'
  cp : ts.length ≤ cap
theorem own_cap {w : World} {B : Nat} {a : Option Addr} {n cap : Nat} {ts : List Tok} (h : OwT w B (.slice a n cap) ts) : ts.length ≤ cap := by
  rcases h.2 with ⟨h1, h2⟩ | ⟨g, c, cur, h1, hB, hg, hn, hm, hs, ht⟩
  · omega
  · injection h1 with h3 h4 h5
    subst h5
    omega
theorem scan_is (s : ByteArray) (hs : s.size ≤ 9223372036854775806) (ts : List Tok) (p : Nat) (er : Int) (hS : Scn (lst s) ts p er) (w : World) (hM : Mon w) (hE : Ev w) :
    Calls Tryd.prog 4 #[.string s] w fun e w' => ∃ a cap, e = .returned (.tuple #[.slice a ts.length cap, .int .i64 (p : Int), .int .i64 er]) ∧ SL w w' (.slice a ts.length cap) a cap ts := by
  rcases Nat.lt_or_ge 65536 s.size with h | h
  · obtain ⟨rfl, rfl, rfl⟩ : ts = [] ∧ p = 0 ∧ er = 6 := by
      rcases hS with ⟨_, h1, h2, h3⟩ | ⟨h1, _⟩
      · exact ⟨h1, h2, h3⟩
      · rw [lst_len] at h1; omega
    have h' : (65536 : Int) < (s.size : Int) := by omega
    have FIN := Lib.hid (p := SL w w (.slice none 0 0) none 0 []) ⟨World.ownsRow_nil _ _ _ _, ⟨rfl, by decide, .inl rfl⟩, Below.refl _ _, Nat.le_refl _⟩
    clear hS hM hE
    go_enter Tryd.func4, Tryd.ntmps4
    go_wp2
    go_step3
    go_wp2
    try rw [Exit.noGoto_ret]
    exact bodyPost_ret (v := .tuple #[.slice none 0 0, .int .i64 0, .int .i64 6]) (by simp [results, Tryd.results4, go_sem]) rfl ⟨none, 0, rfl, FIN.out⟩
  · refine (scan_any s w hM hE h).mono ?_
    rintro e w' ⟨v, ts', p', er', rfl, ho, hl, hC, hb⟩
    obtain ⟨rfl, rfl, rfl⟩ := hS.only (.inr ⟨by rw [lst_len]; exact h, hC⟩)
    obtain ⟨a, cap, rfl, hT⟩ := tl_of_own ho (by omega)
    exact ⟨a, cap, rfl, ho, hT, hb, own_cap ho⟩
end Go.Proofs.YtlihkmhhfnkkoaaDoor
