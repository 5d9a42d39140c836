/-
  WALK: Between: its iterator gives the business days of its span, rising.
-/
import Derived.Test.YtpeglcnenagkbaaDoorWUpSt
namespace Go.Proofs.YtpeglcnenagkbaaDoor
open Go.RowKit Go.Shelf
attribute [local go_sem] Oper.semAt_some
set_option linter.unusedVariables false
set_option linter.unusedSimpArgs false

/-- The business days of a span, rising. -/
def BL (from_ to_ : Int) (zs : List Int) (L : List Int) : Prop := L.Pairwise (· < ·) ∧ ∀ x, x ∈ L ↔ (from_ ≤ x ∧ x < to_ ∧ busB x zs = true)
theorem rising_one : ∀ {L M : List Int}, L.Pairwise (· < ·) → M.Pairwise (· < ·) → (∀ x, x ∈ L ↔ x ∈ M) → L = M
  | [], [], _, _, _ => rfl
  | [], y :: M, _, _, h => by have := (h y).2 (by simp); cases this
  | x :: L, [], _, _, h => by have := (h x).1 (by simp); cases this
  | x :: L, y :: M, hl, hm, h => by
    rw [List.pairwise_cons] at hl hm
    have e : x = y := by
      have h1 := (h x).1 (by simp)
      have h2 := (h y).2 (by simp)
      rcases List.mem_cons.1 h1 with e | e
      · exact e
      · rcases List.mem_cons.1 h2 with f | f
        · exact f.symm
        · have := hl.1 _ f; have := hm.1 _ e; omega
    subst e
    rw [rising_one hl.2 hm.2 (fun z => ⟨fun hz => by
      rcases List.mem_cons.1 ((h z).1 (List.mem_cons_of_mem _ hz)) with e | e
      · subst e; have := hl.1 _ hz; omega
      · exact e, fun hz => by
      rcases List.mem_cons.1 ((h z).2 (List.mem_cons_of_mem _ hz)) with e | e
      · subst e; have := hm.1 _ hz; omega
      · exact e⟩)]
theorem BL.one {a b : Int} {zs L M : List Int} (h : BL a b zs L) (k : BL a b zs M) : L = M := rising_one h.1 k.1 (fun x => (h.2 x).trans (k.2 x).symm)
theorem BL.join {a b c : Int} {zs L M : List Int} (h : BL a b zs L) (k : BL b c zs M) (h1 : a ≤ b) (h2 : b ≤ c) : BL a c zs (L ++ M) := by
  refine ⟨List.pairwise_append.2 ⟨h.1, k.1, fun x hx y hy => ?_⟩, fun x => ?_⟩
  · have := (h.2 x).1 hx; have := (k.2 y).1 hy; omega
  · rw [List.mem_append, h.2, k.2]
    constructor
    · rintro (⟨q1, q2, q3⟩ | ⟨q1, q2, q3⟩)
      · exact ⟨q1, by omega, q3⟩
      · exact ⟨by omega, q2, q3⟩
    · rintro ⟨q1, q2, q3⟩
      by_cases e : x < b
      · exact .inl ⟨q1, e, q3⟩
      · exact .inr ⟨by omega, q2, q3⟩
theorem rising_len : ∀ {L : List Int} {lo : Int} {n : Nat}, L.Pairwise (· < ·) → (∀ x ∈ L, lo ≤ x ∧ x < lo + n) → L.length ≤ n
  | [], _, _, _, _ => by simp
  | x :: L, lo, n, h, hx => by
    rw [List.pairwise_cons] at h
    have h0 := hx x (by simp)
    have := rising_len (lo := x + 1) (n := n - 1) h.2 (fun y hy => by have := h.1 y hy; have := hx y (List.mem_cons_of_mem _ hy); omega)
    simp; omega
theorem busB_in {x : Int} {zs : List Int} (h : busB x zs = true) : 0 ≤ x ∧ x < 109573 := by
  unfold busB at h; simp at h; omega
theorem BL.len {a b : Int} {zs L : List Int} (h : BL a b zs L) : L.length ≤ 109573 :=
  rising_len (lo := 0) h.1 (fun x hx => by have := busB_in ((h.2 x).1 hx).2.2; omega)
theorem BL.none {a b : Int} {zs : List Int} (h : ∀ x, a ≤ x → x < b → ¬ (0 ≤ x ∧ x < 109573)) : BL a b zs [] :=
  ⟨List.Pairwise.nil, fun x => ⟨fun hx => (by cases hx), fun ⟨h1, h2, h3⟩ => absurd (busB_in h3) (h x h1 h2)⟩⟩
theorem ups_bl {ws : List Nat} {from_ to_ A B : Int} {n : Nat} {hs : List Int} (hA : (if from_ < 0 then (0 : Int) else from_) = A) (hB : (if 109573 < to_ then (109573 : Int) else to_) = B) (h : ¬ B ≤ A) (hn : B ≤ A + 64 * n)
    (hb : ∀ m : Nat, m < 64 * n → Bit ws m = decide ((A + m) % 7 < 5 ∧ A + m < B ∧ ¬ (A + m) ∈ hs)) : BL from_ to_ hs (ups ws A 0 (64 * n)) := by
  have a0 : 0 ≤ A := by split at hA <;> omega
  have a1 : from_ ≤ A := by split at hA <;> omega
  have a2 : ∀ x, 0 ≤ x → from_ ≤ x → A ≤ x := fun x p q => by split at hA <;> omega
  have b1 : B ≤ to_ ∧ B ≤ 109573 := by split at hB <;> omega
  have b2 : ∀ x, x < to_ → x < 109573 → x < B := fun x p q => by split at hB <;> omega
  refine ⟨?_, fun x => ?_⟩
  · unfold ups
    rw [List.pairwise_map]
    exact ((List.pairwise_lt_range).filter _).imp (fun q => by omega)
  · rw [ups_mem]
    constructor
    · rintro ⟨m, h1, _, h3, rfl⟩
      rw [hb m h1] at h3
      simp only [decide_eq_true_eq] at h3
      obtain ⟨q1, q2, q3⟩ := h3
      refine ⟨by omega, by omega, ?_⟩
      unfold busB
      simp only [decide_eq_true_eq]
      exact ⟨by omega, by omega, q1, q3⟩
    · rintro ⟨h1, h2, h3⟩
      unfold busB at h3
      simp only [decide_eq_true_eq] at h3
      obtain ⟨p1, p2, p3, p4⟩ := h3
      have q1 := a2 x p1 h1
      have q2 := b2 x h2 p2
      have e : A + ((x - A).toNat : Int) = x := by omega
      refine ⟨(x - A).toNat, by omega, by omega, ?_, e.symm⟩
      rw [hb _ (by omega), e]
      simp only [decide_eq_true_eq]
      exact ⟨p3, q2, p4⟩

/-- The iterator as a contract over the days of its own list. -/
def ItC (W : World) (st sb : Nat) (L : List Int) : Prop := ∀ m, 1 ≤ m → SeqStopsK Fence.wide m Tryd.prog 48 #[.pointer (some ⟨st, 0, none⟩), .pointer (some ⟨sb, 0, none⟩)] (fun x : { x : Int // x ∈ L } => #[Value.int .i64 x.1]) (Below W.heap.size)
      (fun ys => ys.map (·.1) = L) (fun pre => pre.map (·.1) <+: L) L.length W

theorem up_it (sb st g n cap s0 : Nat) (A : Int) (ws : List Nat) (a0 : 0 ≤ A) (a1 : A < 1000000) (hn : n ≤ 100000) (hs0 : s0 < 64 * n) (hl : ws.length = n) (h64 : ∀ i, ws.getD i 0 < 18446744073709551616)
    (w : World) (hst : st < w.heap.size) (hsb : sb < w.heap.size) (hg : g < w.heap.size)
    (c0 : w.cell? ⟨st, 0, none⟩ = some (.int .i64 (s0 : Int))) (c1 : w.cell? ⟨sb, 0, none⟩ = some (.int .i64 A)) (c2 : w.cell? ⟨sb, 1, none⟩ = some (.slice (some ⟨g, 0, none⟩) n cap)) (hw : Wd w g ws) (hT : Tz w) : ItC w st sb (ups ws A s0 (64 * n)) := by
  intro m hm l J Jx W hW hJ hJx hY h0
  have b := hW.size
  refine (up1_in m hm l sb st g w.heap.size n cap s0 A ws a0 a1 hn hs0 hl h64 (fun pre W => ∃ q : List { x : Int // x ∈ ups ws A s0 (64 * n) }, q.map (·.1) = pre ∧ J q W) (fun pre W => ∃ q : List { x : Int // x ∈ ups ws A s0 (64 * n) }, q.map (·.1) = pre ∧ Jx q W) hsb hg hT.1 ?_ W ?_
    ((hW.cell (p := ⟨st, 0, none⟩) hst).trans c0) ((hW.cell (p := ⟨sb, 0, none⟩) hsb).trans c1) ((hW.cell (p := ⟨sb, 1, none⟩) hsb).trans c2) (wd_below hW (by omega) b hw) (tz_below (Nat.le_refl _) hW hT) ⟨[], rfl, h0⟩).mono ?_
  · rintro pre x W1 ⟨q, rfl, hq⟩ hp
    have hx : x ∈ ups ws A s0 (64 * n) := hp.subset (by simp)
    have hlen : q.length < (ups ws A s0 (64 * n)).length := by have := hp.length_le; simp at this; omega
    refine (hY q ⟨x, hx⟩ W1 hq hlen).mono ?_
    rintro e W' (⟨rfl, h1, h2⟩ | ⟨rfl, h1⟩)
    · exact .inl ⟨rfl, ⟨_, by simp, h1⟩, h2⟩
    · exact .inr ⟨rfl, ⟨_, by simp, h1⟩⟩
  · rintro s A B row ⟨q, hq, hj⟩ hg' hr
    exact ⟨q, hq, hJ q A B row hj hg' hr⟩
  · rintro e W' ⟨hv, h⟩
    refine ⟨hv, ?_⟩
    rcases h with ⟨ys, h1, q, h2, h3⟩ | ⟨pre, h1, q, h2, h3⟩
    · exact .inl ⟨q, h2.trans h1, h3⟩
    · subst h2; exact .inr ⟨q, h1, h3⟩

set_option maxHeartbeats 1000000 in
theorem up_empty (sb st s0 : Nat) (A : Int) (hs : s0 ≤ 9223372036854775807) (w : World) (hst : st < w.heap.size) (hsb : sb < w.heap.size)
    (c0 : w.cell? ⟨st, 0, none⟩ = some (.int .i64 (s0 : Int))) (c1 : w.cell? ⟨sb, 0, none⟩ = some (.int .i64 A)) (c2 : w.cell? ⟨sb, 1, none⟩ = some (.slice none 0 0)) : ItC w st sb [] := by
  intro m hm l J Jx W hW hJ hJx hY h0
  have d0 := (hW.cell (p := ⟨st, 0, none⟩) hst).trans c0
  have d1 := (hW.cell (p := ⟨sb, 0, none⟩) hsb).trans c1
  have d2 := (hW.cell (p := ⟨sb, 1, none⟩) hsb).trans c2
  obtain ⟨j, ej⟩ : ∃ j : Nat, (s0 : Int) / 64 = j := ⟨s0 / 64, by omega⟩
  obtain ⟨t, et⟩ : ∃ t : Nat, (s0 : Int) % 64 = t := ⟨s0 % 64, by omega⟩
  have t64 : t < 64 := by omega
  have JJ := Lib.hid h0
  clear hW hJ hJx hY h0 c0 c1 c2
  refine callsIn_of_wp Tryd.func48 rfl trivial ?_ rfl
  simp only [Tryd.ntmps48, List.size_toArray, List.length_cons, List.length_nil, Nat.reduceAdd, Nat.reduceSub, Array.replicate_succ, Array.replicate_zero, List.push_toArray, List.append_toArray, List.nil_append, List.cons_append]
  gi_wp2
  simp only [et]
  gi_loopw [5] (fun i wr => i = .int .i64 (j : Int) ∧ wr = W) (fun _ _ => 0)
  case atStart => exact ⟨by first | rfl | rw [ej], rfl⟩
  case round =>
    obtain ⟨rfl, rfl⟩ := hrel
    have kj : ¬ (j : Int) < 0 := by omega
    gi_wp2
    go_end0
    exact ⟨⟨_, rfl⟩, .inl JJ.out⟩

set_option maxHeartbeats 1000000 in
theorem upFrom_hi (first day : Int) (a : Option Addr) (c cap : Nat) (w : World) (h0 : 0 ≤ first) (h1 : first ≤ day) (h2 : day ≤ 9223372036854775807) :
    Calls Tryd.prog 27 #[.agg #[.int .i64 first, .slice a c cap], .int .i64 day] w fun e w' =>
      e = .returned (.func (.func 48) #[] #[.pointer (some ⟨w.heap.size + 1, 0, none⟩), .pointer (some ⟨w.heap.size, 0, none⟩)]) ∧
      w' = (w.alloc (.cells #[.int .i64 first, .slice a c cap] 58)).alloc (.cells #[.int .i64 (day - first)] 3) := by
  go_enter Tryd.func27, Tryd.ntmps27
  go_wp2
  go_ret
  exact ⟨rfl, rfl⟩
set_option maxHeartbeats 1000000 in
theorem upFrom_lo (first day : Int) (a : Option Addr) (c cap : Nat) (w : World) (h0 : 0 ≤ first) (h1 : day < first) (h2 : first ≤ 9223372036854775807) :
    Calls Tryd.prog 27 #[.agg #[.int .i64 first, .slice a c cap], .int .i64 day] w fun e w' =>
      e = .returned (.func (.func 48) #[] #[.pointer (some ⟨w.heap.size + 1, 0, none⟩), .pointer (some ⟨w.heap.size, 0, none⟩)]) ∧
      w' = (w.alloc (.cells #[.int .i64 first, .slice a c cap] 58)).alloc (.cells #[.int .i64 0] 3) := by
  go_enter Tryd.func27, Tryd.ntmps27
  go_wp2
  go_ret
  exact ⟨rfl, rfl⟩
/-- upFrom at the stretch's own beginning, or ahead of it. -/
theorem upFrom_start (first day : Int) (s : Nat) (a : Option Addr) (c cap : Nat) (w : World) (h0 : 0 ≤ first) (h2 : day ≤ 9223372036854775807) (h3 : first ≤ 9223372036854775807) (hs : (s : Int) = if day < first then 0 else day - first) :
    Calls Tryd.prog 27 #[.agg #[.int .i64 first, .slice a c cap], .int .i64 day] w fun e w' =>
      e = .returned (.func (.func 48) #[] #[.pointer (some ⟨w.heap.size + 1, 0, none⟩), .pointer (some ⟨w.heap.size, 0, none⟩)]) ∧ Below w.heap.size w w' ∧ w'.heap.size = w.heap.size + 1 + 1 ∧
      w'.cell? ⟨w.heap.size + 1, 0, none⟩ = some (.int .i64 (s : Int)) ∧ w'.cell? ⟨w.heap.size, 0, none⟩ = some (.int .i64 first) ∧ w'.cell? ⟨w.heap.size, 1, none⟩ = some (.slice a c cap) := by
  by_cases h : day < first
  · rw [if_pos h] at hs
    refine (upFrom_lo first day a c cap w h0 h h3).mono ?_
    rintro e w' ⟨rfl, rfl⟩
    exact ⟨rfl, (((Below.refl _ _).alloc (Nat.le_refl _) _).alloc (by simp) _), by simp, by rw [hs]; go_simp, by go_simp, by go_simp⟩
  · rw [if_neg h] at hs
    refine (upFrom_hi first day a c cap w h0 (by omega) h2).mono ?_
    rintro e w' ⟨rfl, rfl⟩
    exact ⟨rfl, (((Below.refl _ _).alloc (Nat.le_refl _) _).alloc (by simp) _), by simp, by rw [hs]; go_simp, by go_simp, by go_simp⟩

/-- Between. -/
theorem between_any (from_ to_ : Int) (a : Option Addr) (c cap : Nat) (hs : List Int) (w : World) (f0 : -9223372036854775808 ≤ from_) (f1 : from_ ≤ 9223372036854775807) (hL : Ls w a c hs) (hT : Tz w) :
    Calls Tryd.prog 7 #[.int .i64 from_, .int .i64 to_, .slice a c cap] w fun e w' => ∃ (st sb : Nat) (L : List Int), e = .returned (.func (.func 48) #[] #[.pointer (some ⟨st, 0, none⟩), .pointer (some ⟨sb, 0, none⟩)]) ∧ Below w.heap.size w w' ∧ BL from_ to_ hs L ∧ RowKit.Hid (ItC w' st sb L) := by
  obtain ⟨A, hA⟩ : ∃ A, (if from_ < 0 then (0 : Int) else from_) = A := ⟨_, rfl⟩
  obtain ⟨B, hB⟩ : ∃ B, (if 109573 < to_ then (109573 : Int) else to_) = B := ⟨_, rfl⟩
  have a0 : 0 ≤ A := by split at hA <;> omega
  have b1 : B ≤ 109573 := by split at hB <;> omega
  by_cases h : B ≤ A
  · have HZ := Lib.hid (open_zero from_ to_ A B a c cap w hA hB h)
    obtain ⟨s, hs'⟩ : ∃ s : Nat, (s : Int) = if from_ < 0 then 0 else from_ - 0 := ⟨(if from_ < 0 then 0 else from_ - 0 : Int).toNat, by split <;> omega⟩
    have HU := Lib.hid (fun W => upFrom_start 0 from_ s none 0 0 W (by omega) f1 (by omega) hs')
    have HE := Lib.hid (p := BL from_ to_ hs []) (BL.none (fun x p q r => by
      have : A ≤ x := by split at hA <;> omega
      have : x < B := by split at hB <;> omega
      omega))
    have s1 : s ≤ 9223372036854775807 := by split at hs' <;> omega
    clear hL hA hB h hs'
    go_enter Tryd.func7, Tryd.ntmps7
    go_wp2_with fail
    go_at_call 26
    refine HZ.out.mono ?_
    rintro e w1 ⟨rfl, b1⟩
    have B1 := Lib.hid b1
    clear b1
    go_wp2_with fail
    go_at_call 27
    refine (HU.out w1).mono ?_
    rintro e w2 ⟨rfl, b2, z2, c0, c1, c2⟩
    have K := Lib.hid (p := ItC w2 (w1.heap.size + 1) w1.heap.size []) (up_empty _ _ s 0 s1 w2 (by omega) (by omega) c0 c1 c2)
    have B2 := Lib.hid (B1.out.trans (b2.mono B1.out.size))
    clear b2 z2 c0 c1 c2
    go_wp2
    go_ret
    exact ⟨_, _, [], rfl, B2.out, HE.out, K.out⟩
  · obtain ⟨n, hn⟩ : ∃ n : Nat, (B - A + 63) / 64 = n := ⟨((B - A + 63) / 64).toNat, by omega⟩
    have HO := Lib.hid (open_yes from_ to_ a c cap w A B hA hB a0 b1 h n hn hs hL)
    have HU := Lib.hid (fun W g => upFrom_start A from_ 0 (some ⟨g, 0, none⟩) n n W a0 f1 (by omega) (by split at hA <;> (split <;> omega)))
    have HT := Lib.hid hT
    have HB := Lib.hid (fun (ws : List Nat) hb => ups_bl (ws := ws) (n := n) (hs := hs) hA hB h (by omega) hb)
    have n1 : 1 ≤ n := by omega
    have n2 : n ≤ 1713 := by omega
    have a2 : A < 1000000 := by omega
    clear hL hA hB h hn
    go_enter Tryd.func7, Tryd.ntmps7
    go_wp2_with fail
    go_at_call 26
    refine HO.out.mono ?_
    rintro e w1 ⟨ws, rfl, hw, hl, h64, hb, b1⟩
    have HW := Lib.hid hw
    have H6 := Lib.hid (And.intro hl h64)
    have L1 := Lib.hid (HB.out ws hb)
    have B1 := Lib.hid b1
    clear b1 hw hl h64 hb
    go_wp2_with fail
    go_at_call 27
    refine (HU.out w1 _).mono ?_
    rintro e w2 ⟨rfl, b2, z2, c0, c1, c2⟩
    have K := Lib.hid (p := ItC w2 (w1.heap.size + 1) w1.heap.size (ups ws A 0 (64 * n))) (up_it _ _ (w.heap.size + 1) n n 0 A ws a0 a2 (by omega) (by omega) H6.out.1 H6.out.2 w2 (by omega) (by omega) (by have := HW.out.1; omega) c0 c1 c2 (wd_below b2 HW.out.1 (by omega) HW.out) (tz_below (Nat.le_refl _) b2 (tz_below (Nat.le_refl _) B1.out HT.out)))
    have B2 := Lib.hid (B1.out.trans (b2.mono B1.out.size))
    clear b2 z2 c0 c1 c2
    go_wp2
    go_ret
    exact ⟨_, _, _, rfl, B2.out, L1.out, K.out⟩
end Go.Proofs.YtpeglcnenagkbaaDoor
