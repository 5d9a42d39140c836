/-
  WALK: the document's Net; twin, FlowNets.
-/
import Derived.Test.YtmdgfcldohmjdaaWSumsN
import Derived.Test.YtmdgfcldohmjdaaWFNet
import Derived.Test.YtmdgfcldohmjdaaWSortF
import Derived.Test.YtmdgfcldohmjdaaWRoomy
import Derived.Test.YtmdgfcldohmjdaaWUntil
import Derived.Test.YtmdgfcldohmjdaaWHold
namespace Go.Proofs.Ytmdgfcldohmjdaa
open Go.RowKit
set_option linter.unusedVariables false
set_option linter.unusedSimpArgs false

theorem fl_of_isT {w : World} {a : Option Addr} {len cap : Nat} {fs : List Fl} (hb : len * 32 ≤ 140737488351232) (h : IsFls w a len cap fs) : FL w a len fs := by
  rcases h with ⟨rfl, rfl, rfl, rfl⟩ | ⟨x, rfl, h1, h2, h3, h4, h5⟩
  · exact ⟨rfl, by omega, .inl rfl⟩
  · refine ⟨h3, by omega, ?_⟩
    by_cases h0 : len = 0
    · exact .inl h0
    · obtain ⟨b, o, s⟩ := x
      have hc := (h5 0 (by omega)).1
      have hs : s = none := by simpa [Addr.add] using World.cell?_spot hc
      subst hs
      refine .inr ⟨b, o, rfl, ?_, fun i hi => ?_⟩
      · have e : (⟨b, o, none⟩ : Addr).add (0 * 3) = ⟨b, o, none⟩ := by simp [Addr.add]
        rw [e] at hc
        by_cases hlt : b < w.heap.size
        · exact hlt
        · exfalso
          have hn : w.heap[b]? = none := by simp; omega
          simp [World.cell?, hn] at hc
      · have := h5 i hi
        rw [Go.Addr.add_lit, Go.Addr.add_lit, Go.Addr.add_lit] at this
        exact this
theorem rf_flT {w : World} {g n : Nat} {fs : List Fl} {x y z : Fl} (h : Rf w g (fs ++ [x, y, z])) (hl : fs.length = n) (hn : n ≤ 4398046511000) : FL w (some ⟨g, 0, none⟩) n fs := by
  refine ⟨hl, hn, .inr ⟨g, 0, rfl, h.lt, fun i hi => ?_⟩⟩
  have := h.fc i (by simp; omega)
  rw [Nat.zero_add]
  rwa [show (fs ++ [x, y, z]).getD i default = fs.getD i default by simp only [List.getD]; rw [List.getElem?_append_left (by omega)]] at this
/-- The cells of a row of flows, each in its place. -/
theorem fl_news {w : World} {b o n : Nat} {fs : List Fl} (hl : fs.length = n) (hc : ∀ i, i < n → FC w b (o + i * 3) (fs.getD i default)) : ∀ j u, (fcs fs)[j]? = some u → w.cell? ((⟨b, o, none⟩ : Addr).add j) = some u := by
  intro j u hu
  have hj : j < fs.length * 3 := by
    have := (List.getElem?_eq_some_iff.1 hu).1
    rwa [fcs_len] at this
  have e : j = j / 3 * 3 + j % 3 := by omega
  have hi : j / 3 < fs.length := by omega
  have h3 : j % 3 < 3 := by omega
  obtain ⟨c0, c1, c2⟩ := hc (j / 3) (by omega)
  rw [Go.Addr.add_lit]
  generalize j / 3 = q at *
  generalize j % 3 = r at *
  subst e
  rw [fcs_at fs q hi r h3] at hu
  rw [← hu, ← Nat.add_assoc]
  match r, h3 with
  | 0, _ => exact c0
  | 1, _ => exact c1
  | 2, _ => exact c2
theorem fcs_one (fs : List Fl) : ∀ u ∈ fcs fs, u.oneCell' = true := by
  intro u hu
  obtain ⟨f, _, hf⟩ := List.mem_flatMap.1 hu
  simp [Fl.cells] at hf
  rcases hf with rfl | rfl | rfl <;> rfl
theorem wp_twin {ops : Array Oper} {rest : List Oper} {o : Oper} {a : Act} {Q : Exit → Act → World → Prop} (w : World) (B : Nat) (hB : B ≤ w.heap.size) (ad : Option Addr) (n cap : Nat) (fs : List Fl) (hf : FL w ad n fs) (hcap : ad = none → cap = 0) (hgd : o.guard = none) (s x : Operand)
    (ho : o.op = .call { callee := .builtin .append, args := #[s, x], argTypes := #[23, 23] }) (v : Value) (hs : a.eval s = v) (hown : w.ownsRow B 50 3 v 0 []) (hx : a.eval x = .slice ad n cap)
    (h : ∀ v' w', OwnF w' B v' fs → w.grownBy w' v.ownBlock → wpList Try.prog ops Q rest (a.put o.dst v') w') : wpList Try.prog ops Q (o :: rest) a w := by
  obtain ⟨i0, hi, hz0, hz1, hz2⟩ := info_parts infoF
  obtain ⟨hl, h43, h3⟩ := hf
  have go : ∀ x1, ad = some x1 → (∀ j u, (fcs fs)[j]? = some u → w.cell? (x1.add j) = some u) → wpList Try.prog ops Q (o :: rest) a w := by
    rintro x1 rfl hn
    refine wpList_append_own _ hgd s x 23 ho B 50 i0 (.agg #[.int .i64 0, .string ⟨#[]⟩, .int .i64 0]) 3 32 Try.underlying23 hi hz0 hz1 hz2 rfl (by decide) v _ _ hs hown x1 n cap (fcs fs) hx (by rw [fcs_len, hl]) hn (fcs_one fs) (by unfold maxLen; omega) (by omega) hB ?_
    intro v' w' h1 h2 _
    refine h v' w' ?_ h2
    rw [OwnF, hl]
    simpa using h1
  rcases h3 with h0 | ⟨b, q, rfl, _, hc⟩
  · subst h0
    have hz : fs = [] := List.length_eq_zero_iff.1 hl
    subst hz
    cases ad with
    | none =>
      rw [hcap rfl] at hx
      exact wpList_append_own_none hgd s x 23 ho B 50 i0 3 Try.underlying23 hi v 0 [] hs hown hx (h v w hown ⟨rfl, rfl, rfl, Nat.le_refl _, fun _ _ _ => rfl⟩)
    | some x1 => exact go x1 rfl (fun j u hu => by simp [fcs] at hu)
  · exact go _ rfl (fl_news hl hc)
set_option maxHeartbeats 2000000 in
theorem twin_any (a : Option Addr) (n cap : Nat) (fs : List Fl) (w : World) (h : FL w a n fs) (hcap : a = none → cap = 0) :
    Calls Try.prog 14 #[.slice a n cap] w fun e w' => ∃ v, e = .returned v ∧ Below w.heap.size w w' ∧ OwnF w' w.heap.size v fs := by
  have A0 := Lib.hid ((Below.refl w.heap.size w).alloc (Nat.le_refl _) (.cells #[] 50))
  have H0 := Lib.hid (h.later A0.out)
  have W0 := Lib.hid (World.ownsRow_made (e := 50) (size := 3) (base := w.heap.size) w #[] 0 (Nat.le_refl _) (by unfold maxLen; omega) rfl)
  clear h
  go_enter Try.func14, Try.ntmps14
  go_wp2_with (at_builtin; refine wp_twin _ w.heap.size A0.out.size a n cap fs H0.out hcap rfl _ _ rfl _ rfl W0.out rfl ?_; intro v1 w1 h1 h2; have O1 := Lib.hid h1; have B1 := Lib.hid (A0.out.grown h2 A0.out.size (fun k e => (W0.out.lt k e).1)); clear h1 h2)
  go_ret
  exact ⟨_, rfl, B1.out, O1.out⟩
theorem setAt_short {κ : Type} [DecidableEq κ] (k : κ) (v : Int) : ∀ l : List (κ × Int), (setAt k v l).length ≤ l.length + 1
  | [] => by simp [setAt]
  | e :: l => by
    have := setAt_short k v l
    unfold setAt
    split <;> simp <;> omega
theorem tally_short {κ : Type} [DecidableEq κ] {fits : Int → Bool} : ∀ {l acc out : List (κ × Int)}, tally fits acc l = some out → out.length ≤ acc.length + l.length
  | [], acc, out, h => by cases h; simp
  | x :: l, acc, out, h => by
    unfold tally at h
    split at h
    · have h1 := tally_short h
      have h2 := setAt_short x.1 ((sumAt x.1 acc).getD 0 + x.2) acc
      simp at h1 ⊢
      omega
    · cases h
theorem nets_short {fs : List Fl} {A : List (DC × Int)} (h : nets fs = some A) : A.length ≤ fs.length := by
  have := tally_short h
  simpa using this
/-- The sums of a list, ordered, and what is told with them. -/
def canN (fs : List Fl) : List Fl := match nets fs with
  | none => []
  | some A => exsort fLt (A.map fzN)
def canNQ (fs : List Fl) : Int := match nets fs with
  | none => 1
  | some _ => 0
theorem canN_len {fs : List Fl} {n : Nat} (hl : fs.length = n) : (canN fs).length ≤ n := by
  unfold canN
  split
  · simp
  · rename_i A hA
    rw [(exsort_perm fLt _ _ rfl).length_eq, List.length_map, ← hl]
    exact nets_short hA
theorem netA_can {fs : List Fl} {B : Nat} {v : Value} {q : Int} {w : World} (h : NetA fs B v q w) : q = canNQ fs ∧ OwnF w B v (canN fs) := by
  unfold canN canNQ
  rcases h with ⟨h1, rfl, rfl⟩ | ⟨A, ts, h1, rfl, hp, hs, ho⟩
  · rw [h1]; exact ⟨rfl, ⟨rfl, .inl ⟨rfl, rfl⟩⟩⟩
  · rw [h1]
    have e : ts = exsort fLt (A.map fzN) := exsort_only fLt (fun a b c h1 h2 => fLt_ntrans h2 h1) (fun a b h => fLt_asymm h) hp hs (fun a b _ _ h1 h2 => fLt_anti h1 h2)
    subst e
    exact ⟨rfl, ho⟩
set_option maxHeartbeats 1000000 in
theorem netR_any (a : Option Addr) (n cap : Nat) (fs : List Fl) (w : World) (h : FL w a n fs) (hw : ∀ i, i < n → inR (fs.getD i default).a ∧ (fs.getD i default).c.size ≤ maxLen) :
    Calls Try.prog 13 #[.slice a n cap] w fun e w' => ∃ v, e = .returned (.tuple #[v, .int .i64 (canNQ fs)]) ∧ Below w.heap.size w w' ∧ OwnF w' w.heap.size v (canN fs) := by
  have K := Lib.hid (sumsN_any a n cap fs w h hw)
  unfold canN canNQ
  clear h hw
  cases hN : nets fs with
  | none =>
    have K2 := Lib.hid (p := Calls Try.prog 26 #[.slice a n cap, .bool true] w fun e w' => e = .returned (.tuple #[.slice none 0 0, .bool false]) ∧ Below w.heap.size w w') (K.out.mono (by
      rintro e w' ⟨h1, h2⟩
      rcases h1 with ⟨_, rfl⟩ | ⟨A, v, h3, _⟩
      · exact ⟨rfl, h2⟩
      · rw [hN] at h3; cases h3))
    clear K hN
    go_enter Try.func13, Try.ntmps13
    go_wp2_with (go_at_call 26; refine K2.out.mono ?_; rintro e w' ⟨rfl, h1⟩; have B1 := Lib.hid h1; clear h1)
    go_ret2
    exact ⟨_, rfl, B1.out, ⟨rfl, .inl ⟨rfl, rfl⟩⟩⟩
  | some A =>
    have K2 := Lib.hid (p := Calls Try.prog 26 #[.slice a n cap, .bool true] w fun e w' => ∃ v, e = .returned (.tuple #[v, .bool true]) ∧ Below w.heap.size w w' ∧ OwnF w' w.heap.size v (exsort fLt (A.map fzN))) (K.out.mono (by
      rintro e w' ⟨h1, h2⟩
      rcases h1 with ⟨h3, _⟩ | ⟨A', v, h3, rfl, h4⟩
      · rw [hN] at h3; cases h3
      · rw [hN] at h3; injection h3 with h3; subst h3; exact ⟨v, rfl, h2, h4⟩))
    clear K hN
    simp only
    generalize exsort fLt (A.map fzN) = ls at *
    go_enter Try.func13, Try.ntmps13
    go_wp2_with (go_at_call 26; refine K2.out.mono ?_; rintro e w' ⟨v, rfl, h1, h2⟩; have B1 := Lib.hid h1; have O1 := Lib.hid h2; clear h1 h2)
    go_ret2
    exact ⟨_, rfl, B1.out, O1.out⟩
theorem ownF_later {w w' : World} {B : Nat} {v : Value} {fs : List Fl} (h : OwnF w B v fs) (hb : Below w.heap.size w w') : OwnF w' B v fs := World.ownsRow.kept h (below_gr0F hb) (Classical.em _)
set_option maxHeartbeats 2000000 in
theorem flowNets_walk (a : Option Addr) (n cap : Nat) (fs : List Fl) (w : World) (h : FL w a n fs) (hcap : a = none → cap = 0) (hw : ∀ i, i < n → inR (fs.getD i default).a ∧ (fs.getD i default).c.size ≤ maxLen ∧ inR (fs.getD i default).d) :
    Calls Try.prog 4 #[.slice a n cap] w fun e w' => e = .returned (.bool true) ∧ Below w.heap.size w w' := by
  have hl := h.1
  have hn := h.2.1
  have H := Lib.hid h
  have K1 := Lib.hid (roomy_any a n cap fs w h)
  have KT := Lib.hid (fun A C W (h : FL W A n fs) => (net_any A n C fs W h hw sortsN).mono (fun e w' (h : ∃ v q, e = .returned (.tuple #[v, .int .i64 q]) ∧ Below W.heap.size W w' ∧ NetA fs W.heap.size v q w') => show ∃ v, e = .returned (.tuple #[v, .int .i64 (canNQ fs)]) ∧ Below W.heap.size W w' ∧ OwnF w' W.heap.size v (canN fs) from by
    obtain ⟨v, q, rfl, h1, h2⟩ := h
    obtain ⟨rfl, h3⟩ := netA_can h2
    exact ⟨v, rfl, h1, h3⟩))
  have KW := Lib.hid (fun W (h : FL W a n fs) => twin_any a n cap fs W h hcap)
  have KR := Lib.hid (fun A C W (h : FL W A n fs) => netR_any A n C fs W h (fun i hi => ⟨(hw i hi).1, (hw i hi).2.1⟩))
  have TL := canN_len hl
  generalize canN fs = ts at *
  generalize canNQ fs = Q at *
  have T43 : ts.length ≤ 4398046511000 := by omega
  have KS := Lib.hid (fun A B C D W (h : FL W A ts.length ts) (h' : FL W B ts.length ts) => same_fl A B ts.length C D ts W h h')
  have KH := Lib.hid (fun v B xs W (h : W.ownsRow B 50 3 v ts.length xs) (hB : B ≤ W.heap.size) => hold_any v _ B xs (-9) W h T43 hB)
  have KU := Lib.hid (fun W g (h : FL W a n fs) hg hR => untouched_any a n cap g fs W h hg hR)
  have FO := Lib.hid (fun W B v (o : OwnF W B v fs) => fl_of_own o (by omega))
  have FT := Lib.hid (fun W B v (o : OwnF W B v ts) => fl_of_own o T43)
  rw [hl] at FO
  clear h hw
  go_enter Try.func4, Try.ntmps4
  go_wp2_with (first
    | (go_at_call 6; refine K1.out.mono ?_; rintro e w1 ⟨rfl, h1, h2⟩; have B1 := Lib.hid h1; have R1 := Lib.hid h2; clear h1 h2)
    | (go_at_call 12; refine (KT.out _ _ _ (rf_flT R1.out hl hn)).mono ?_; rintro e w2 ⟨v, rfl, h1, h2⟩; obtain ⟨A2, C2, rfl, h3⟩ := FT.out _ _ _ h2; have B2 := Lib.hid h1; have O2 := Lib.hid h2; have F2 := Lib.hid h3; clear h1 h2 h3)
    | (go_at_call 14; refine (KW.out _ (H.out.later (B1.out.trans (B2.out.mono B1.out.size)))).mono ?_; rintro e w3 ⟨v3, rfl, h1, h2⟩; obtain ⟨A3, C3, rfl, h3⟩ := FO.out _ _ _ h2; have B3 := Lib.hid h1; have F3 := Lib.hid h3; clear h1 h2 h3)
    | (go_at_call 13; refine (KR.out _ _ _ F3.out).mono ?_; rintro e w4 ⟨v4, rfl, h1, h2⟩; obtain ⟨A4, C4, rfl, h3⟩ := FT.out _ _ _ h2; have B4 := Lib.hid (B3.out.trans (h1.mono B3.out.size)); have F4 := Lib.hid h3; clear h1 h2 h3)
    | (go_at_call 9; refine (KS.out _ _ _ _ _ (F2.out.later B4.out) F4.out).mono ?_; rintro e w5 ⟨rfl, h1⟩; have B5 := Lib.hid (B4.out.trans (h1.mono B4.out.size)); clear h1)
    | (go_at_call 10; refine (KH.out _ _ _ _ (ownF_later O2.out B5.out) (Nat.le_trans B2.out.size B5.out.size)).mono ?_; rintro e w6 ⟨r, rfl, h1⟩; have B6 := Lib.hid (show Below w1.heap.size w1 w6 from (B2.out.trans (B5.out.mono B2.out.size)).trans h1); clear h1)
    | (go_at_call 11; refine (KU.out _ _ (H.out.later (B1.out.trans (B6.out.mono B1.out.size))) (Nat.lt_of_lt_of_le R1.out.lt B6.out.size) (fun i hi => (R1.out.fc i (by simp; omega)).later B6.out R1.out.lt)).mono ?_; rintro e w7 ⟨rfl, h1⟩; have B7 := Lib.hid (B6.out.trans (h1.mono B6.out.size)); clear h1))
  all_goals go_ret
  all_goals exact ⟨rfl, B1.out.trans (B7.out.mono B1.out.size)⟩
theorem flowNets_go (a : Option Addr) (n cap : Nat) (fs : List Fl) (w : World) (h : IsFls w a n cap fs) (hb : n * 32 ≤ 140737488351232) :
    Calls Try.prog 4 #[.slice a n cap] w fun e w' => e = .returned (.bool true) ∧ Below w.heap.size w w' := by
  refine flowNets_walk a n cap fs w (fl_of_isT hb h) ?_ ?_
  · rintro rfl
    rcases h with ⟨_, _, h, _⟩ | ⟨x, h, _⟩
    · exact h
    · cases h
  · intro i hi
    rcases h with ⟨_, h0, _⟩ | ⟨x, _, _, _, h3, h4, _⟩
    · omega
    · have := h4 (fs.getD i default) (by
        have hi' : i < fs.length := by omega
        rw [show fs.getD i default = fs[i] by simp [List.getD, hi']]
        exact List.getElem_mem hi')
      exact ⟨wf_inR this.2.2, this.2.1, wf_inR this.1⟩
end Go.Proofs.Ytmdgfcldohmjdaa
