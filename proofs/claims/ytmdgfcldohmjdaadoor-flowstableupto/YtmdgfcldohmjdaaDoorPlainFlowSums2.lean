/-
  PLAIN: what Net and Totals tell of a list of which nothing overflows.
-/
import Derived.Test.YtmdgfcldohmjdaaDoorPlainFlowSums
import Derived.Test.YtmdgfcldohmjdaaDoorWFNet
import Derived.Test.YtmdgfcldohmjdaaDoorWFTotals
namespace Go.Proofs.YtmdgfcldohmjdaaDoor
open Go.RowKit
set_option linter.unusedVariables false
set_option linter.unusedSimpArgs false

def kpF (f : Fl) : DC × Int := ((f.d, f.c), f.a)
def ctF (f : Fl) : ByteArray × Int := (f.c, f.a)
theorem prj_kp (ms : List Fl) : prj (ms.map kpF) = ms.map ctF := by unfold prj; rw [List.map_map]; rfl
theorem asum_ct (ms : List Fl) : asum (ms.map ctF) = asum (ms.map kpF) := by
  induction ms with
  | nil => rfl
  | cons f l ih => simp only [List.map_cons, asum, kpF, ctF] at ih ⊢; omega
theorem asum_fz (A : List (DC × Int)) : asum ((A.map fzN).map ctF) = asum A := by
  induction A with
  | nil => rfl
  | cons f l ih => simp only [List.map_cons, asum, fzN, ctF] at ih ⊢; omega
theorem fz_ct (A : List (DC × Int)) : (A.map fzN).map ctF = prj A := by unfold prj; rw [List.map_map]; rfl
structure NetF (ms ns : List Fl) : Prop where
  sum : ∀ f ∈ ns, khas (f.d, f.c) (ms.map kpF) ∧ f.a = ksum (f.d, f.c) (ms.map kpF)
  ord : ns.Pairwise (fun x y => fLt x y = true ∧ ¬ (x.d = y.d ∧ x.c = y.c))
  all : ∀ m ∈ ms, ∃ f ∈ ns, f.d = m.d ∧ f.c = m.c
  abs : asum (ns.map ctF) ≤ asum (ms.map kpF)
  tot : ∀ c, ksum c (ns.map ctF) = ksum c (ms.map ctF)
  has : ∀ c, khas c (ns.map ctF) ↔ khas c (ms.map ctF)
  len : ns.length ≤ ms.length
theorem setAt_shortN (k : DC) (v : Int) : ∀ l : List (DC × Int), (setAt k v l).length ≤ l.length + 1
  | [] => by simp [setAt]
  | e :: l => by
    have := setAt_shortN k v l
    unfold setAt
    split <;> simp <;> omega
theorem tally_shortN {fits : Int → Bool} : ∀ {l acc out : List (DC × Int)}, tally fits acc l = some out → out.length ≤ acc.length + l.length
  | [], acc, out, h => by cases h; simp
  | x :: l, acc, out, h => by
    unfold tally at h
    split at h
    · have h1 := tally_shortN h
      have h2 := setAt_shortN x.1 ((sumAt x.1 acc).getD 0 + x.2) acc
      simp at h1 ⊢
      omega
    · cases h
theorem net_facts {ms ns : List Fl} {A : List (DC × Int)} (hA : nets ms = some A) (hb : asum (ms.map kpF) ≤ 4611686018427387904) (hp : ns.Perm (A.map fzN)) (hs : ns.Pairwise (fun x y => fLt y x = false)) : NetF ms ns := by
  have hA' : tally fitB [] (ms.map kpF) = some A := hA
  obtain ⟨A', h1, h2, h3⟩ := tally_all (ms.map kpF) hb
  rw [hA'] at h1; injection h1 with h1; subst h1
  have nd := tally_apart (acc := []) (by simp) hA'
  have nk : (ns.map (fun f => (f.d, f.c))).Nodup := by
    have p1 : (ns.map (fun f => (f.d, f.c))).Perm ((A.map fzN).map (fun f => (f.d, f.c))) := hp.map _
    refine (p1.nodup_iff).2 ?_
    rw [List.map_map]
    exact nd
  refine ⟨fun f hf => ?_, ?_, fun m hm => ?_, ?_, fun c => ?_, fun c => ?_, ?_⟩
  · obtain ⟨e, he, rfl⟩ := List.mem_map.1 (hp.mem_iff.1 hf)
    obtain ⟨⟨d, c⟩, v⟩ := e
    have sm := (sumAt_mem nd).2 he
    by_cases q : khas (d, c) (ms.map kpF)
    · refine ⟨q, ?_⟩
      rw [(h2 (d, c)).1 q] at sm
      injection sm with sm
      exact sm.symm
    · rw [(h2 (d, c)).2 q] at sm; cases sm
  · have np : ns.Pairwise (fun x y => (x.d, x.c) ≠ (y.d, y.c)) := List.pairwise_map.1 nk
    refine (hs.and np).imp ?_
    rintro x y ⟨q1, q2⟩
    have q3 : ¬ (x.d = y.d ∧ x.c = y.c) := fun r => q2 (by rw [r.1, r.2])
    refine ⟨?_, q3⟩
    rcases fLt_whole x y with r | r | r
    · exact r
    · rw [q1] at r; cases r
    · exact absurd ⟨by rw [r], by rw [r]⟩ q3
  · have q : khas (m.d, m.c) (ms.map kpF) := ⟨kpF m, List.mem_map.2 ⟨m, hm, rfl⟩, rfl⟩
    have sm := (sumAt_mem nd).1 ((h2 (m.d, m.c)).1 q)
    exact ⟨fzN _, hp.mem_iff.2 (List.mem_map.2 ⟨_, sm, rfl⟩), rfl, rfl⟩
  · rw [asum_perm (hp.map ctF), asum_fz]; exact h3
  · rw [ksum_perm (hp.map ctF), fz_ct, prj_sum c _ _ _ hA', prj_kp]; simp [prj, ksum]
  · rw [khas_perm (hp.map ctF), fz_ct, prj_has c _ _ _ hA', prj_kp]
    constructor
    · rintro (⟨e, he, _⟩ | q)
      · cases he
      · exact q
    · exact .inr
  · rw [hp.length_eq, List.length_map]
    have := tally_shortN hA'
    simpa using this
/-- Turned about it is the same. -/
theorem net_same {ms t ns us : List Fl} {A B : List (DC × Int)} (hp : ms.Perm t) (hb : asum (ms.map kpF) ≤ 4611686018427387904) (hA : nets ms = some A) (hB : nets t = some B) (n1 : ns.Perm (A.map fzN)) (n2 : ns.Pairwise (fun x y => fLt y x = false)) (u1 : us.Perm (B.map fzN)) (u2 : us.Pairwise (fun x y => fLt y x = false)) : us = ns := by
  have ab : A.Perm B := tally_perm (hp.map kpF) hb hA hB
  have p : us.Perm ns := u1.trans ((ab.map fzN).symm.trans n1.symm)
  exact List.Perm.eq_of_pairwise (le := fun x y => fLt y x = false) (fun a b _ _ q1 q2 => fLt_anti q2 q1) u2 n2 p
theorem tot_same {ms ns : List Fl} (hF : NetF ms ns) (hb : asum (ms.map kpF) ≤ 4611686018427387904) {A B : List (ByteArray × Int)} (hA : tots ms = some A) (hB : tots ns = some B) {ts us : List (ByteArray × Int)} (t1 : ts.Perm A) (t2 : ts.Pairwise (fun x y => sLt y.1 x.1 = false)) (u1 : us.Perm B) (u2 : us.Pairwise (fun x y => sLt y.1 x.1 = false)) : us = ts := by
  have hA' : tally fitB [] (ms.map ctF) = some A := hA
  have hB' : tally fitB [] (ns.map ctF) = some B := hB
  obtain ⟨A', h1, h2, _⟩ := tally_all (ms.map ctF) (by rw [asum_ct]; exact hb)
  rw [hA'] at h1; injection h1 with h1; subst h1
  obtain ⟨B', k1, k2, _⟩ := tally_all (ns.map ctF) (Nat.le_trans hF.abs hb)
  rw [hB'] at k1; injection k1 with k1; subst k1
  have na := tally_apart (acc := []) (by simp) hA'
  have nb := tally_apart (acc := []) (by simp) hB'
  have ab : A.Perm B := perm_of_sums na nb (fun c => by
    by_cases q : khas c (ms.map ctF)
    · rw [(h2 c).1 q, (k2 c).1 ((hF.has c).2 q), hF.tot c]
    · rw [(h2 c).2 q, (k2 c).2 (fun r => q ((hF.has c).1 r))])
  have p : us.Perm ts := u1.trans (ab.symm.trans t1.symm)
  exact List.Perm.eq_of_pairwise (le := fun x y => sLt y.1 x.1 = false) (fun a b ha hb' q1 q2 => apart_one nb (u1.mem_iff.1 ha) (u1.mem_iff.1 (p.mem_iff.2 hb')) (sLt_anti q2 q1)) u2 t2 p
theorem nets_yes {ms : List Fl} (hb : asum (ms.map kpF) ≤ 4611686018427387904) : ∃ A, nets ms = some A := by
  obtain ⟨A, h, _⟩ := tally_all (ms.map kpF) hb
  exact ⟨A, h⟩
theorem tots_yes {ms : List Fl} (hb : asum (ms.map ctF) ≤ 4611686018427387904) : ∃ A, tots ms = some A := by
  obtain ⟨A, h, _⟩ := tally_all (ms.map ctF) hb
  exact ⟨A, h⟩
/-- The amounts made small. -/
def smF (f : Fl) : Fl := ⟨f.d, f.c, f.a.tmod 1099511627776⟩
theorem smF_abs (f : Fl) : (smF f).a.natAbs < 1099511627776 := by
  unfold smF
  simp only
  have := Int.natAbs_tmod f.a 1099511627776
  rw [this]
  exact Nat.mod_lt _ (by decide)
theorem asum_small : ∀ (l : List Fl), asum ((l.map smF).map kpF) ≤ 1099511627776 * l.length
  | [] => by simp [asum]
  | f :: l => by
    have := asum_small l
    have h := smF_abs f
    simp only [List.map_cons, asum, kpF, List.length_cons] at this ⊢
    omega
end Go.Proofs.YtmdgfcldohmjdaaDoor
