/-
  WALKS: what an expression may read: the document's Reads; wellShaped.
-/
import Derived.Test.YtjlnbhmiahegmaaWX2
import Derived.Test.YtjlnbhmiahegmaaWX47
namespace Go.Proofs.Ytjlnbhmiahegmaa
open Go.RowKit
set_option linter.unusedVariables false
set_option linter.unusedSimpArgs false

mutual
/-- The observations that an expression may read. -/
def Xt.rds : Xt → List (Int × Int)
  | .mk op num day ks => if shp op = (ks.length : Int) then (if op = 5 then [(num, day)] else Xt.rdss ks) else []
def Xt.rdss : List Xt → List (Int × Int)
  | [] => []
  | e :: r => e.rds ++ Xt.rdss r
end
theorem Xt.rdss_take : ∀ (l : List Xt) (k : Nat), k < l.length → Xt.rdss (l.take (k + 1)) = Xt.rdss (l.take k) ++ (l.getD k default).rds
  | e :: r, 0, _ => by simp [Xt.rdss]
  | e :: r, k + 1, h => by
    have := Xt.rdss_take r k (by simpa using h)
    simp only [List.take_succ_cons, Xt.rdss, List.getD_cons_succ] at this ⊢
    rw [this, List.append_assoc]
theorem Xt.rds_len (e : Xt) : e.rds.length ≤ e.n := by
  refine Xt.ind (p := fun e => e.rds.length ≤ e.n) (fun e ih => ?_) e
  cases e with
  | mk op num day ks =>
    have key : ∀ l : List Xt, (∀ k ∈ l, k.rds.length ≤ k.n) → (Xt.rdss l).length ≤ Xt.ns l := by
      intro l
      induction l with
      | nil => intro _; simp [Xt.rdss]
      | cons a r ihr => intro h; have h1 := h a (by simp); have h2 := ihr (fun k hk => h k (by simp [hk])); simp only [Xt.rdss, Xt.ns, List.length_append]; omega
    have := key ks ih
    simp only [Xt.rds, Xt.n]
    split
    · split
      · simp
      · omega
    · simp
theorem Xt.rdss_len (l : List Xt) : (Xt.rdss l).length ≤ Xt.ns l := by
  induction l with
  | nil => simp [Xt.rdss]
  | cons a r ih => have := a.rds_len; simp only [Xt.rdss, Xt.ns, List.length_append]; omega
theorem Xt.rdss_pre : ∀ (l : List Xt) (k : Nat), Xt.rdss (l.take k) <+: Xt.rdss l
  | [], k => by simp [Xt.rdss]
  | e :: r, 0 => by simp [Xt.rdss]
  | e :: r, k + 1 => by
    obtain ⟨t, ht⟩ := Xt.rdss_pre r k
    exact ⟨t, by simp only [List.take_succ_cons, Xt.rdss, List.append_assoc, ht]⟩
def SyP (b : Bool) (w : World) (e : Ending) (w' : World) : Prop := e = .returned (.bool b) ∧ ∃ n, w' = w.drewN n
/-- Is it well shaped? -/
theorem wellShaped_any (p q : Nat) (op : Int) (ka : Option Addr) (n kc : Nat) (w : World) (c0 : w.cell? ⟨p, q, none⟩ = some (.int .i64 op)) (c3 : w.cell? ⟨p, q + 3, none⟩ = some (.slice ka n kc)) :
    Calls Try.prog 51 #[.pointer (some ⟨p, q, none⟩)] w fun e w' => e = .returned (.bool (decide ((n : Int) = shp op))) ∧ w' = w.drew := by
  go_enter Try.func51, Try.ntmps51
  go_wp2
  go_region_held3 (fun w' => w'.cell? ⟨p, q, none⟩ = some (.int .i64 op) ∧ w'.cell? ⟨p, q + 3, none⟩ = some (.slice ka n kc)) (refine ⟨?_, ?_⟩ <;> first | assumption | (go_simp; done))
    (first | (go_at_call 68; refine (kidsOf_any _ _).mono ?_; rintro e w' ⟨rfl, rfl⟩))
  all_goals go_wp2
  all_goals go_ret
  all_goals exact ⟨rfl, rfl⟩
/-- The cells of a list of reads. -/
def rcs (l : List (Int × Int)) : List Value := l.flatMap (fun p => [.int .i64 p.1, .int .i64 p.2])
theorem rcs_len (l : List (Int × Int)) : (rcs l).length = l.length * 2 := by
  induction l with
  | nil => rfl
  | cons p r ih => simp [rcs] at ih ⊢; omega
theorem rcs_append (a b : List (Int × Int)) : rcs (a ++ b) = rcs a ++ rcs b := by simp [rcs]
theorem rcs_one (l : List (Int × Int)) : ∀ u ∈ rcs l, u.oneCell' = true := by
  intro u hu
  simp only [rcs, List.mem_flatMap] at hu
  obtain ⟨p, _, hp⟩ := hu
  simp at hp
  rcases hp with rfl | rfl <;> rfl
end Go.Proofs.Ytjlnbhmiahegmaa
