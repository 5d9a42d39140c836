import Derived.Test.YtccjeipkljdhdaaGreatDoorXBD
import Derived.Test.YtccjeipkljdhdaaGreatDoorXBG
import Derived.Test.YtccjeipkljdhdaaGreatDoorXAE
import Derived.Test.YtccjeipkljdhdaaGreatDoorXAC
import Derived.Lib.Strings
import Derived.Lib.Builder
import Derived.Lib.AppendStr
import Derived.Lib.OthersKept
import Derived.Lib.FrozenHead
import Derived.Test.YtccjeipkljdhdaaGreatDoorXAB
import Derived.Test.YtccjeipkljdhdaaGreatDoorXAK
import Derived.Test.YtccjeipkljdhdaaGreatDoorXAL
import Derived.Test.YtccjeipkljdhdaaGreatDoorXAY
namespace Go.Proofs.YtccjeipkljdhdaaGreatDoor
open Go.RowKit
set_option linter.unusedVariables false
set_option linter.unusedSimpArgs false

theorem own_apT {w : World} {B B' s s' n n' : Nat} {e e' : TypeId} {v v' : Value} {xs xs' : List Value} (h : w.ownsRow B e s v n xs) (h' : w.ownsRow B' e' s' v' n' xs') (he : e ≠ e') : v.ownBlock = none ∨ v.ownBlock ≠ v'.ownBlock := by
  rcases h.2 with ⟨rfl, _⟩ | ⟨g, c, cur, rfl, _, hg, _⟩
  · exact .inl rfl
  · right
    intro q
    rcases h'.2 with ⟨rfl, _⟩ | ⟨g', c', cur', rfl, _, hg', _⟩
    · cases q
    · simp only [Value.ownBlock, Option.some.injEq] at q
      subst q
      rw [hg] at hg'
      injection hg' with q
      injection q with _ q
      exact he q
theorem set_namesT (l : List ByteArray) (k : Nat) (x : ByteArray) : (l.map Value.string).set k (.string x) = (l.set k x).map Value.string := by rw [List.map_set]
theorem set_intsT (l : List Int) (k : Nat) (x : Int) : (intsP l).set k (.int .i64 x) = intsP (l.set k x) := by unfold intsP; rw [List.map_set]
theorem set_sgsT : ∀ (D : List Sg) (i : Nat) (x : Int), i < D.length → (sgsP D).set (i * 2) (.int .i64 x) = sgsP (D.set i { D.getD i default with day := x })
  | [], i, x, h => by simp at h
  | s :: D, 0, x, h => rfl
  | s :: D, i + 1, x, h => by
    have ih := set_sgsT D i x (by simpa using h)
    show (s.cs ++ sgsP D).set ((i + 1) * 2) _ = s.cs ++ sgsP (D.set i _)
    have e : s.cs.length = 2 := rfl
    rw [List.set_append_right _ _ (by omega), e, show (i + 1) * 2 - 2 = i * 2 by omega, ih]
    rfl
theorem set_icsT : ∀ (l : List In) (k : Nat) (f : In), k < l.length → (((icsP l).set (k * 3) (.int .i64 f.o)).set (k * 3 + 1) (.int .i64 f.a)).set (k * 3 + 2) (.int .i64 f.b) = icsP (l.set k f)
  | [], i, x, h => by simp at h
  | s :: D, 0, x, h => rfl
  | s :: D, i + 1, x, h => by
    have ih := set_icsT D i x (by simpa using h)
    show (((icell s ++ icsP D).set ((i + 1) * 3) _).set ((i + 1) * 3 + 1) _).set ((i + 1) * 3 + 2) _ = icell s ++ icsP (D.set i x)
    have e : (icell s).length = 3 := rfl
    rw [List.set_append_right _ _ (by omega), List.set_append_right _ _ (by omega), List.set_append_right _ _ (by omega), e, show (i + 1) * 3 - 3 = i * 3 by omega, show (i + 1) * 3 + 1 - 3 = i * 3 + 1 by omega, show (i + 1) * 3 + 2 - 3 = i * 3 + 2 by omega, ih]
/-- The day's code, one instruction written. -/
theorem sgs_codeT : ∀ (D : List Sg) (i : Nat) (c : List In), i < D.length → c.length = (D.getD i default).code.length → sgsP (D.set i { D.getD i default with code := c }) = sgsP D
  | [], i, c, h, _ => by simp at h
  | s :: D, 0, c, h, hc => by
    have hc : c.length = s.code.length := hc
    show Sg.cs _ ++ sgsP D = s.cs ++ sgsP D
    congr 1
    show [Value.int .i64 s.day, Value.slice s.ca c.length s.cc] = [Value.int .i64 s.day, Value.slice s.ca s.code.length s.cc]
    rw [hc]
  | s :: D, i + 1, c, h, hc => by
    have ih := sgs_codeT D i c (by simpa using h) hc
    show s.cs ++ sgsP (D.set i _) = s.cs ++ sgsP D
    rw [← ih]
    rfl
section
variable {W : World} {B U : Nat} {P : Pg}
theorem PO.setN (h : PO W B U P) {g k : Nat} (hg : P.na = some ⟨g, 0, none⟩) (x : ByteArray) : PO (W.setCell ⟨g, k, none⟩ (.string x)) B U { P with names := P.names.set k x } := by
  have on := h.on
  have ob : (Value.slice P.na P.names.length P.nc).ownBlock = some g := by rw [hg]; rfl
  have gr := setCell_gr W g k (.string x)
  have oth : ∀ {e s n : Nat} {v : Value} {xs : List Value}, W.ownsRow B e s v n xs → (v.ownBlock = none ∨ v.ownBlock ≠ (Value.slice P.na P.names.length P.nc).ownBlock) → (W.setCell ⟨g, k, none⟩ (.string x)).ownsRow B e s v n xs := fun o q => o.kept gr (by rwa [ob] at q)
  refine ⟨?_, oth h.ou ?_, oth h.op (own_apT h.op h.on (by decide)), oth h.od (own_apT h.od h.on (by decide)), fun i hi => oth (h.oc i hi) (own_apT (h.oc i hi) h.on (by decide)), h.ap, ?_, ?_, h.uu, h.up, h.ud, h.uc, ?_, h.lu, h.lp, h.ld, h.lc⟩
  · rw [hg] at on
    have := (on.stored k (.string x)).1
    rw [set_namesT] at this
    simpa [OwQ, hg] using this
  · rcases h.nu with q | q
    · rw [ob] at q; cases q
    · exact .inr (fun e => q e.symm)
  · simpa using h.nu
  · simpa using h.un
  · simpa using h.ln
theorem PO.setU (h : PO W B U P) {g k : Nat} (hg : P.ua = some ⟨g, 0, none⟩) (x : ByteArray) : PO (W.setCell ⟨g, k, none⟩ (.string x)) B U { P with curs := P.curs.set k x } := by
  have on := h.ou
  have ob : (Value.slice P.ua P.curs.length P.uc).ownBlock = some g := by rw [hg]; rfl
  have gr := setCell_gr W g k (.string x)
  have oth : ∀ {e s n : Nat} {v : Value} {xs : List Value}, W.ownsRow B e s v n xs → (v.ownBlock = none ∨ v.ownBlock ≠ (Value.slice P.ua P.curs.length P.uc).ownBlock) → (W.setCell ⟨g, k, none⟩ (.string x)).ownsRow B e s v n xs := fun o q => o.kept gr (by rwa [ob] at q)
  refine ⟨oth h.on h.nu, ?_, oth h.op (own_apT h.op h.ou (by decide)), oth h.od (own_apT h.od h.ou (by decide)), fun i hi => oth (h.oc i hi) (own_apT (h.oc i hi) h.ou (by decide)), h.ap, ?_, h.un, ?_, h.up, h.ud, h.uc, h.ln, ?_, h.lp, h.ld, h.lc⟩
  · rw [hg] at on
    have := (on.stored k (.string x)).1
    rw [set_namesT] at this
    simpa [OwQ, hg] using this
  · simpa using h.nu
  · simpa using h.uu
  · simpa using h.lu
theorem PO.setP (h : PO W B U P) {g k : Nat} (hg : P.pa = some ⟨g, 0, none⟩) (x : Int) : PO (W.setCell ⟨g, k, none⟩ (.int .i64 x)) B U { P with pool := P.pool.set k x } := by
  have on := h.op
  have ob : (Value.slice P.pa P.pool.length P.pc).ownBlock = some g := by rw [hg]; rfl
  have gr := setCell_gr W g k (.int .i64 x)
  have oth : ∀ {e s n : Nat} {v : Value} {xs : List Value}, W.ownsRow B e s v n xs → (v.ownBlock = none ∨ v.ownBlock ≠ (Value.slice P.pa P.pool.length P.pc).ownBlock) → (W.setCell ⟨g, k, none⟩ (.int .i64 x)).ownsRow B e s v n xs := fun o q => o.kept gr (by rwa [ob] at q)
  refine ⟨oth h.on (own_apT h.on h.op (by decide)), oth h.ou (own_apT h.ou h.op (by decide)), ?_, oth h.od (own_apT h.od h.op (by decide)), fun i hi => oth (h.oc i hi) (own_apT (h.oc i hi) h.op (by decide)), h.ap, h.nu, h.un, h.uu, ?_, h.ud, h.uc, h.ln, h.lu, ?_, h.ld, h.lc⟩
  · unfold OwZs at on
    rw [hg] at on
    have := (on.stored k (.int .i64 x)).1
    rw [set_intsT] at this
    simpa [OwZs, hg] using this
  · simpa using h.up
  · simpa using h.lp
theorem getD_setT {α : Type} [Inhabited α] (l : List α) (i j : Nat) (x : α) (hi : i < l.length) : (l.set i x).getD j default = if j = i then x else l.getD j default := by
  by_cases e : j = i
  · subst e; rw [if_pos rfl]; simp [List.getD, hi]
  · rw [if_neg e]; simp only [List.getD]; rw [List.getElem?_set_ne (by omega)]
theorem PO.setD (h : PO W B U P) {g i : Nat} (hg : P.da = some ⟨g, 0, none⟩) (hi : i < P.days.length) (x : Int) : PO (W.setCell ⟨g, i * 2, none⟩ (.int .i64 x)) B U { P with days := P.days.set i { P.days.getD i default with day := x } } := by
  have on := h.od
  have ob : (Value.slice P.da P.days.length P.dc).ownBlock = some g := by rw [hg]; rfl
  have gr := setCell_gr W g (i * 2) (.int .i64 x)
  have oth : ∀ {e s n : Nat} {v : Value} {xs : List Value}, W.ownsRow B e s v n xs → (v.ownBlock = none ∨ v.ownBlock ≠ (Value.slice P.da P.days.length P.dc).ownBlock) → (W.setCell ⟨g, i * 2, none⟩ (.int .i64 x)).ownsRow B e s v n xs := fun o q => o.kept gr (by rwa [ob] at q)
  have cv : ∀ j, ((P.days.set i { P.days.getD i default with day := x }).getD j default).cv = (P.days.getD j default).cv ∧ ((P.days.set i { P.days.getD i default with day := x }).getD j default).code = (P.days.getD j default).code := by
    intro j
    rw [getD_setT _ _ _ _ hi]
    by_cases e : j = i
    · subst e; rw [if_pos rfl]; exact ⟨rfl, rfl⟩
    · rw [if_neg e]; exact ⟨rfl, rfl⟩
  refine ⟨oth h.on (own_apT h.on h.od (by decide)), oth h.ou (own_apT h.ou h.od (by decide)), oth h.op (own_apT h.op h.od (by decide)), ?_, fun j hj => ?_, fun a b hab hb => ?_, h.nu, h.un, h.uu, h.up, ?_, fun j hj => ?_, h.ln, h.lu, h.lp, ?_, fun j hj => ?_⟩
  · rw [hg] at on
    have := (on.stored (i * 2) (.int .i64 x)).1
    rw [set_sgsT _ _ _ hi] at this
    simpa [hg] using this
  · have hj : j < P.days.length := by simpa using hj
    simp only [(cv j).1, (cv j).2]
    exact oth (h.oc j hj) (own_apT (h.oc j hj) h.od (by decide))
  · have hb : b < P.days.length := by simpa using hb
    simp only [(cv a).1, (cv b).1]
    exact h.ap a b hab hb
  · simpa using h.ud
  · have hj : j < P.days.length := by simpa using hj
    simp only [(cv j).1]
    exact h.uc j hj
  · simpa using h.ld
  · have hj : j < P.days.length := by simpa using hj
    simp only [(cv j).2]
    exact h.lc j hj
theorem PO.setC (h : PO W B U P) {g i k : Nat} (hi : i < P.days.length) (hk : k < (P.days.getD i default).code.length) (hg : (P.days.getD i default).ca = some ⟨g, 0, none⟩) (f : In) :
    PO (((W.setCell ⟨g, k * 3, none⟩ (.int .i64 f.o)).setCell ⟨g, k * 3 + 1, none⟩ (.int .i64 f.a)).setCell ⟨g, k * 3 + 2, none⟩ (.int .i64 f.b)) B U { P with days := P.days.set i { P.days.getD i default with code := (P.days.getD i default).code.set k f } } := by
  have on := h.oc i hi
  have ob : (P.days.getD i default).cv.ownBlock = some g := by unfold Sg.cv; rw [hg]; rfl
  obtain ⟨W', hW'⟩ : ∃ y, (((W.setCell ⟨g, k * 3, none⟩ (.int .i64 f.o)).setCell ⟨g, k * 3 + 1, none⟩ (.int .i64 f.a)).setCell ⟨g, k * 3 + 2, none⟩ (.int .i64 f.b)) = y := ⟨_, rfl⟩
  have sN : W'.ownsRow B 42 3 (.slice (some ⟨g, 0, none⟩) (P.days.getD i default).code.length (P.days.getD i default).cc) (P.days.getD i default).code.length (icsP ((P.days.getD i default).code.set k f)) := by
    unfold Sg.cv at on
    rw [hg] at on
    have s1 := (on.stored (k * 3) (.int .i64 f.o)).1
    have s2 := (s1.stored (k * 3 + 1) (.int .i64 f.a)).1
    have s3 := (s2.stored (k * 3 + 2) (.int .i64 f.b)).1
    rw [set_icsT _ _ _ hk, hW'] at s3
    exact s3
  have oth : ∀ {e s n : Nat} {v : Value} {xs : List Value}, W.ownsRow B e s v n xs → (v.ownBlock = none ∨ v.ownBlock ≠ (P.days.getD i default).cv.ownBlock) → W'.ownsRow B e s v n xs := fun o q => by
    rw [ob] at q
    rw [← hW']
    exact ((o.kept (setCell_gr _ _ _ _) q).kept (setCell_gr _ _ _ _) q).kept (setCell_gr _ _ _ _) q
  rw [hW']
  have gd : ∀ j, (P.days.set i { P.days.getD i default with code := (P.days.getD i default).code.set k f }).getD j default = if j = i then { P.days.getD i default with code := (P.days.getD i default).code.set k f } else P.days.getD j default := fun j => getD_setT _ _ _ _ hi
  have cv : ∀ j, ((P.days.set i { P.days.getD i default with code := (P.days.getD i default).code.set k f }).getD j default).cv = (P.days.getD j default).cv ∧ ((P.days.set i { P.days.getD i default with code := (P.days.getD i default).code.set k f }).getD j default).code.length = (P.days.getD j default).code.length := by
    intro j
    rw [gd]
    by_cases e : j = i
    · subst e; rw [if_pos rfl]; simp [Sg.cv]
    · rw [if_neg e]; exact ⟨rfl, rfl⟩
  refine ⟨oth h.on (own_apT h.on on (by decide)), oth h.ou (own_apT h.ou on (by decide)), oth h.op (own_apT h.op on (by decide)), ?_, fun j hj => ?_, fun a b hab hb => ?_, h.nu, h.un, h.uu, h.up, ?_, fun j hj => ?_, h.ln, h.lu, h.lp, ?_, fun j hj => ?_⟩
  · have := oth h.od (own_apT h.od on (by decide))
    simp only [List.length_set]
    rw [sgs_codeT _ _ _ hi (by simp)]
    exact this
  · have hj : j < P.days.length := by simpa using hj
    simp only [(cv j).1, (cv j).2]
    by_cases e : j = i
    · subst e
      have : ((P.days.set j { P.days.getD j default with code := (P.days.getD j default).code.set k f }).getD j default).code = (P.days.getD j default).code.set k f := by rw [gd, if_pos rfl]
      simp only [this]
      have := sN
      rw [← hg] at this
      exact this
    · have e2 : ((P.days.set i { P.days.getD i default with code := (P.days.getD i default).code.set k f }).getD j default).code = (P.days.getD j default).code := by rw [gd, if_neg e]
      simp only [e2]
      refine oth (h.oc j hj) ?_
      rcases Nat.lt_or_gt_of_ne e with q | q
      · exact h.ap j i q hi
      · rcases h.ap i j q hj with r | r
        · rw [ob] at r; cases r
        · exact .inr (fun z => r z.symm)
  · have hb : b < P.days.length := by simpa using hb
    simp only [(cv a).1, (cv b).1]
    exact h.ap a b hab hb
  · simpa using h.ud
  · have hj : j < P.days.length := by simpa using hj
    simp only [(cv j).1]
    exact h.uc j hj
  · simpa using h.ld
  · have hj : j < P.days.length := by simpa using hj
    simp only [(cv j).2]
    exact h.lc j hj
end
end Go.Proofs.YtccjeipkljdhdaaGreatDoor

namespace Go.Proofs.YtccjeipkljdhdaaGreatDoor
open Go.RowKit
set_option linter.unusedVariables false
set_option linter.unusedSimpArgs false

/-- All blocks stay but those of D. -/
structure FrDX (D : Nat → Prop) (w w' : World) : Prop where
  os : w'.os = w.os
  tape : w'.tape = w.tape
  out : w'.output = w.output
  size : w.heap.size ≤ w'.heap.size
  blk : ∀ k, k < w.heap.size → ¬ D k → w'.heap[k]? = w.heap[k]?
theorem FrDX.refl (D : Nat → Prop) (w : World) : FrDX D w w := ⟨rfl, rfl, rfl, Nat.le_refl _, fun _ _ _ => rfl⟩
theorem FrDX.trans {D : Nat → Prop} {a b c : World} (h : FrDX D a b) (k : FrDX D b c) : FrDX D a c := ⟨k.os.trans h.os, k.tape.trans h.tape, k.out.trans h.out, Nat.le_trans h.size k.size, fun x h1 h2 => (k.blk x (Nat.lt_of_lt_of_le h1 h.size) h2).trans (h.blk x h1 h2)⟩
theorem FrDX.below {D : Nat → Prop} {a b : World} (h : Below a.heap.size a b) : FrDX D a b := ⟨h.os, h.tape, h.output, h.size, fun x h1 _ => h.block x h1⟩
theorem FrDX.wide {D D' : Nat → Prop} {a b : World} (h : FrDX D a b) (k : ∀ x, x < a.heap.size → D x → D' x) : FrDX D' a b := ⟨h.os, h.tape, h.out, h.size, fun x h1 h2 => h.blk x h1 (fun q => h2 (k x h1 q))⟩
theorem FrDX.alloc {D : Nat → Prop} {a b : World} (h : FrDX D a b) (o : Obj) : FrDX D a (b.alloc o) := h.trans (FrDX.below (allocBP b o))
theorem FrDX.grown {D : Nat → Prop} {a b c : World} {r : Option Nat} (h : FrDX D a b) (g : b.grownBy c r) (hr : ∀ z, r = some z → z < a.heap.size → D z) : FrDX D a c :=
  ⟨g.os.trans h.os, g.tape.trans h.tape, g.output.trans h.out, Nat.le_trans h.size g.size, fun x h1 h2 => (g.block x (Nat.lt_of_lt_of_le h1 h.size) (fun e => h2 (hr x e.symm h1))).trans (h.blk x h1 h2)⟩
theorem gr_setX (w : World) (p o : Nat) (v : Value) : w.grownBy (w.setCell ⟨p, o, none⟩ v) (some p) := by
  refine ⟨rfl, rfl, rfl, by simp, fun k _ hk => ?_⟩
  have : ¬ p = k := fun e => hk (by rw [e])
  simp [World.setCell, Array.getElem?_modify, this]
theorem FrDX.set {D : Nat → Prop} {a b : World} (h : FrDX D a b) (p o : Nat) (v : Value) (hp : p < a.heap.size → D p) : FrDX D a (b.setCell ⟨p, o, none⟩ v) := h.grown (gr_setX b p o v) (fun z e q => by injection e with e; subst e; exact hp q)
theorem FrDX.own {D : Nat → Prop} {a b : World} {B s n : Nat} {E : TypeId} {v : Value} {xs : List Value} (h : FrDX D a b) (o : a.ownsRow B E s v n xs) (k : ∀ z, v.ownBlock = some z → ¬ D z) : b.ownsRow B E s v n xs := by
  obtain ⟨h1, h2⟩ := o
  refine ⟨h1, ?_⟩
  rcases h2 with h2 | ⟨g, cap, cur, rfl, hb, hg, r⟩
  · exact .inl h2
  · exact .inr ⟨g, cap, cur, rfl, hb, (h.blk g (Array.getElem?_eq_some_iff.1 hg).1 (k g rfl)).trans hg, r⟩
theorem append_staysX {w : World} (base : Nat) (t ty e : TypeId) (i : TypeInfo) (z : Value) (size bytes : Nat) (ht : Tryz.prog.underlying t = some (.slice e)) (hi : Tryz.prog.info? e = some i) (hz : i.zero = some z)
    (hsize : i.size = size) (hby : i.bytes = bytes) (hzs : z.cells.size = size) (hsz : 0 < size)
    (v : Value) (n : Nat) (xs : List Value) (hown : w.ownsRow base e size v n xs)
    (a : Addr) (m c : Nat) (news : List Value) (hl : news.length = m * size) (hnews : ∀ j u, news[j]? = some u → w.cell? (a.add j) = some u) (h1 : ∀ u ∈ news, u.oneCell' = true)
    (h63 : n + m ≤ maxLen) (hbytes : (n + m) * bytes ≤ 140737488355328) (hbase : base ≤ w.heap.size) (v' : Value) (w' : World)
    (hr : (Builtin.append_ #[t, t] ty #[v, .slice (some a) m c]).run Tryz.prog w = .ok v' w') (h' : w'.ownsRow base e size v' (n + m) (xs ++ news)) (hg' : w.grownBy w' v.ownBlock) : w'.ownsRow base e size v n xs := by
  subst hsize
  subst hby
  have hsmall : n + m ≤ 9223372036854775807 := by simp only [maxLen] at h63; omega
  have hown0 := hown
  rcases hown.2 with ⟨rfl, rfl⟩ | ⟨g', cap, cur, rfl, hbg, hgg, hnc, hcm, hcs, htake⟩
  · exact ⟨hown.1, .inl ⟨rfl, rfl⟩⟩
  · by_cases hroom : n + m ≤ cap
    · have hfit : n * i.size + news.length ≤ cur.size := by rw [hl, hcs, ← Nat.add_mul]; exact Nat.mul_le_mul_right _ hroom
      rw [run_append_room (P := Tryz.prog) w t ty e i ht hi g' n cap cur hgg a m c news hl hnews h1 hroom hfit] at hr
      injection hr with hr1 hr2
      subst hr1
      rcases h'.2 with ⟨q, _⟩ | ⟨g2, cap2, cur2, q, q1, q2, q3, q4, q5, q6⟩
      · cases q
      · injection q with q qn qc
        injection q with q
        injection q with q
        subst q qc
        refine ⟨hown.1, .inr ⟨g', cap, cur2, rfl, hbg, q2, hnc, hcm, q5, ?_⟩⟩
        have l := hown.1
        have : cur2.toList.take (n * i.size) = (cur2.toList.take ((n + m) * i.size)).take (n * i.size) := by rw [List.take_take, Nat.min_eq_left (Nat.mul_le_mul_right _ (by omega))]
        rw [this, q6, ← l]
        exact List.take_left
    · have holds : ∀ j u, xs[j]? = some u → w.cell? ((⟨g', 0, none⟩ : Addr).add j) = some u := hown.cells (g := g') rfl
      rw [run_append_grow (P := Tryz.prog) w t ty e i z ht hi hz ⟨g', 0, none⟩ n cap xs hown.1 holds a m c news hl hnews (by omega) (by omega) (growslice_fits (by omega) hbytes)] at hr
      injection hr with hr1 hr2
      subst hr2
      exact ⟨hown.1, .inr ⟨g', cap, cur, rfl, hbg, (Below.heap_alloc w.drew _ g' (Array.getElem?_eq_some_iff.1 hgg).1).trans hgg, hnc, hcm, hcs, htake⟩⟩
/-- An append of a literal row, whose answer is left: the list stays as it was. -/
theorem wp_appSX {T E : TypeId} {z : Value} {size bytes : Nat} (hT : Tryz.prog.underlying T = some (.slice E)) (hinfo : (Tryz.prog.info? E).map (fun i => (i.zero, i.size, i.bytes)) = some (some z, size, bytes)) (hzs : z.cells.size = size) (hsz : 0 < size)
    {ops : Array Oper} {rest : List Oper} {o : Oper} {a : Act} {Q : Exit → Act → World → Prop} (w : World) (B : Nat) (hB : B ≤ w.heap.size) (n : Nat) (cs : Array Value) (hl : cs.size = n * size) (one : cs.toList.all (fun u => u.oneCell') = true)
    (hgd : o.guard = none) (s x : Operand) (ho : o.op = .call { callee := .builtin .append, args := #[s, x], argTypes := #[T, T] }) (v : Value) (m : Nat) (xs : List Value) (hs : a.eval s = v) (hown : w.ownsRow B E size v m xs) (hx : a.eval x = .slice (some ⟨w.heap.size, 0, none⟩) n n) (h63 : m + n ≤ maxLen) (hby : (m + n) * bytes ≤ 140737488355328)
    (h : ∀ v' w', w'.ownsRow B E size v m xs → (w.alloc (.cells cs E)).grownBy w' v.ownBlock → wpList Tryz.prog ops Q rest (a.put o.dst v') w') : wpList Tryz.prog ops Q (o :: rest) a (w.alloc (.cells cs E)) := by
  obtain ⟨i0, hi, hz0, hz1, hz2⟩ := info_parts hinfo
  refine wpList_plain hgd fun K hK => ?_
  have hnews : ∀ j u, cs.toList[j]? = some u → (w.alloc (.cells cs E)).cell? ((⟨w.heap.size, 0, none⟩ : Addr).add j) = some u := by
    intro j u hj
    rw [Go.Addr.add_lit, Nat.zero_add, World.cell?_alloc_at _ _ _ _ rfl]
    simpa using hj
  have hl' : cs.toList.length = n * size := by simpa using hl
  obtain ⟨v', w', hr, h2, h3, h4, h5⟩ := run_append_own_at (P := Tryz.prog) (w.alloc (.cells cs E)) B T o.type E i0 z size bytes hT hi hz0 hz1 hz2 hzs hsz v m xs (hown.alloc _) ⟨w.heap.size, 0, none⟩ n n cs.toList hl' hnews (List.all_eq_true.1 one) h63 hby (by simp; omega)
  unfold Oper.wp execOp
  simp only [ho, resolve, invoke, builtin, Sem.run_bind, Sem.run_pure, Result.andThen_ok, List.map_toArray, List.map_cons, List.map_nil, hs, hx, hr]
  exact hK _ _ (h v' w' (append_staysX B T o.type E i0 z size bytes hT hi hz0 hz1 hz2 hzs hsz v m xs (hown.alloc _) ⟨w.heap.size, 0, none⟩ n n cs.toList hl' hnews (List.all_eq_true.1 one) h63 hby (by simp; omega) v' w' hr h2 h3) h3)
theorem own_neT {w : World} {B s n : Nat} {e : TypeId} {v : Value} {xs : List Value} {r : Option Nat} (h : w.ownsRow B e s v n xs) (q : r = none) : v.ownBlock = none ∨ v.ownBlock ≠ r := by
  subst q
  cases v.ownBlock with
  | none => exact .inl rfl
  | some z => exact .inr (fun e => by cases e)
section
variable {W W' : World} {B U : Nat} {P : Pg}
theorem PO.appN (h : PO W B U P) (o : OwQ W' B (.slice P.na P.names.length P.nc) P.names) (g : W.grownBy W' (Value.slice P.na P.names.length P.nc).ownBlock) : PO W' B U P :=
  ⟨o, h.ou.kept g (by rcases h.nu with q | q
                      · exact own_neT h.ou q
                      · exact .inr (fun e => q e.symm)), h.op.kept g (own_apT h.op h.on (by decide)), h.od.kept g (own_apT h.od h.on (by decide)), fun i hi => (h.oc i hi).kept g (own_apT (h.oc i hi) h.on (by decide)), h.ap, h.nu, h.un, h.uu, h.up, h.ud, h.uc, h.ln, h.lu, h.lp, h.ld, h.lc⟩
theorem PO.appU (h : PO W B U P) (o : OwQ W' B (.slice P.ua P.curs.length P.uc) P.curs) (g : W.grownBy W' (Value.slice P.ua P.curs.length P.uc).ownBlock) : PO W' B U P :=
  ⟨h.on.kept g h.nu, o, h.op.kept g (own_apT h.op h.ou (by decide)), h.od.kept g (own_apT h.od h.ou (by decide)), fun i hi => (h.oc i hi).kept g (own_apT (h.oc i hi) h.ou (by decide)), h.ap, h.nu, h.un, h.uu, h.up, h.ud, h.uc, h.ln, h.lu, h.lp, h.ld, h.lc⟩
theorem PO.appP (h : PO W B U P) (o : OwZs W' B (.slice P.pa P.pool.length P.pc) P.pool) (g : W.grownBy W' (Value.slice P.pa P.pool.length P.pc).ownBlock) : PO W' B U P :=
  ⟨h.on.kept g (own_apT h.on h.op (by decide)), h.ou.kept g (own_apT h.ou h.op (by decide)), o, h.od.kept g (own_apT h.od h.op (by decide)), fun i hi => (h.oc i hi).kept g (own_apT (h.oc i hi) h.op (by decide)), h.ap, h.nu, h.un, h.uu, h.up, h.ud, h.uc, h.ln, h.lu, h.lp, h.ld, h.lc⟩
theorem PO.appD (h : PO W B U P) (o : W'.ownsRow B 39 2 (.slice P.da P.days.length P.dc) P.days.length (sgsP P.days)) (g : W.grownBy W' (Value.slice P.da P.days.length P.dc).ownBlock) : PO W' B U P :=
  ⟨h.on.kept g (own_apT h.on h.od (by decide)), h.ou.kept g (own_apT h.ou h.od (by decide)), h.op.kept g (own_apT h.op h.od (by decide)), o, fun i hi => (h.oc i hi).kept g (own_apT (h.oc i hi) h.od (by decide)), h.ap, h.nu, h.un, h.uu, h.up, h.ud, h.uc, h.ln, h.lu, h.lp, h.ld, h.lc⟩
theorem PO.appC (h : PO W B U P) {i : Nat} (hi : i < P.days.length) (o : W'.ownsRow B 42 3 (P.days.getD i default).cv (P.days.getD i default).code.length (icsP (P.days.getD i default).code)) (g : W.grownBy W' (P.days.getD i default).cv.ownBlock) : PO W' B U P := by
  refine ⟨h.on.kept g (own_apT h.on (h.oc i hi) (by decide)), h.ou.kept g (own_apT h.ou (h.oc i hi) (by decide)), h.op.kept g (own_apT h.op (h.oc i hi) (by decide)), h.od.kept g (own_apT h.od (h.oc i hi) (by decide)), fun j hj => ?_, h.ap, h.nu, h.un, h.uu, h.up, h.ud, h.uc, h.ln, h.lu, h.lp, h.ld, h.lc⟩
  by_cases e : j = i
  · subst e; exact o
  · rcases Nat.lt_or_gt_of_ne e with q | q
    · exact (h.oc j hj).kept g (h.ap j i q hi)
    · rcases h.ap i j q hj with r | r
      · exact (h.oc j hj).kept g (own_neT (h.oc j hj) r)
      · exact (h.oc j hj).kept g (.inr (fun z => r z.symm))
end
end Go.Proofs.YtccjeipkljdhdaaGreatDoor

namespace Go.Proofs.YtccjeipkljdhdaaGreatDoor
open Go.RowKit
set_option linter.unusedVariables false
set_option linter.unusedSimpArgs false

/-- wipe at work. -/
structure WpS (w0 W : World) (B U : Nat) (P P' : Pg) : Prop where
  po : PO W B U P'
  bx : BkP W w0.heap.size P'.arr 27
  fr : FrDX (fun z => B ≤ z ∧ z < U) w0 W
  ub : U ≤ w0.heap.size
  e1 : P'.arr = P.arr
  l1 : P'.names.length = P.names.length
  l2 : P'.curs.length = P.curs.length
  l3 : P'.pool.length = P.pool.length
  l4 : P'.days.length = P.days.length
section
variable {w0 W W' : World} {B U : Nat} {P P' : Pg}
theorem WpS.nx (h : WpS w0 W B U P P') : w0.heap.size < W.heap.size := (Array.getElem?_eq_some_iff.1 h.bx).1
theorem WpS.later (h : WpS w0 W B U P P') (b : Below W.heap.size W W') : WpS w0 W' B U P P' :=
  ⟨h.po.later b, h.bx.laterP b, h.fr.trans (FrDX.below b), h.ub, h.e1, h.l1, h.l2, h.l3, h.l4⟩
theorem WpS.setN (h : WpS w0 W B U P P') {g k : Nat} (hg : P'.na = some ⟨g, 0, none⟩) (x : ByteArray) (hk : k < P'.names.length) : WpS w0 (W.setCell ⟨g, k, none⟩ (.string x)) B U P { P' with names := P'.names.set k x } := by
  have ob : (Value.slice P'.na P'.names.length P'.nc).ownBlock = some g := by rw [hg]; rfl
  have lt := (h.po.on.lt g ob).1
  have ut := h.po.un g ob
  have ar : ({ P' with names := P'.names.set k x } : Pg).arr = P'.arr := by unfold Pg.arr; simp only [List.length_set]
  refine ⟨h.po.setN hg x, ?_, h.fr.set g k _ (fun _ => ⟨lt, ut⟩), h.ub, ar.trans h.e1, by simpa using h.l1, h.l2, h.l3, h.l4⟩
  rw [ar]
  exact h.bx.grown (setCell_gr W g k _) (fun e => by injection e with e; have := h.ub; omega)
theorem WpS.setU (h : WpS w0 W B U P P') {g k : Nat} (hg : P'.ua = some ⟨g, 0, none⟩) (x : ByteArray) (hk : k < P'.curs.length) : WpS w0 (W.setCell ⟨g, k, none⟩ (.string x)) B U P { P' with curs := P'.curs.set k x } := by
  have ob : (Value.slice P'.ua P'.curs.length P'.uc).ownBlock = some g := by rw [hg]; rfl
  have lt := (h.po.ou.lt g ob).1
  have ut := h.po.uu g ob
  have ar : ({ P' with curs := P'.curs.set k x } : Pg).arr = P'.arr := by unfold Pg.arr; simp only [List.length_set]
  refine ⟨h.po.setU hg x, ?_, h.fr.set g k _ (fun _ => ⟨lt, ut⟩), h.ub, ar.trans h.e1, h.l1, by simpa using h.l2, h.l3, h.l4⟩
  rw [ar]
  exact h.bx.grown (setCell_gr W g k _) (fun e => by injection e with e; have := h.ub; omega)
theorem WpS.setP (h : WpS w0 W B U P P') {g k : Nat} (hg : P'.pa = some ⟨g, 0, none⟩) (x : Int) (hk : k < P'.pool.length) : WpS w0 (W.setCell ⟨g, k, none⟩ (.int .i64 x)) B U P { P' with pool := P'.pool.set k x } := by
  have ob : (Value.slice P'.pa P'.pool.length P'.pc).ownBlock = some g := by rw [hg]; rfl
  have lt := (h.po.op.lt g ob).1
  have ut := h.po.up g ob
  have ar : ({ P' with pool := P'.pool.set k x } : Pg).arr = P'.arr := by unfold Pg.arr; simp only [List.length_set]
  refine ⟨h.po.setP hg x, ?_, h.fr.set g k _ (fun _ => ⟨lt, ut⟩), h.ub, ar.trans h.e1, h.l1, h.l2, by simpa using h.l3, h.l4⟩
  rw [ar]
  exact h.bx.grown (setCell_gr W g k _) (fun e => by injection e with e; have := h.ub; omega)
theorem WpS.setD (h : WpS w0 W B U P P') {g i : Nat} (hg : P'.da = some ⟨g, 0, none⟩) (hi : i < P'.days.length) (x : Int) : WpS w0 (W.setCell ⟨g, i * 2, none⟩ (.int .i64 x)) B U P { P' with days := P'.days.set i { P'.days.getD i default with day := x } } := by
  have ob : (Value.slice P'.da P'.days.length P'.dc).ownBlock = some g := by rw [hg]; rfl
  have lt := (h.po.od.lt g ob).1
  have ut := h.po.ud g ob
  have ar : ({ P' with days := P'.days.set i { P'.days.getD i default with day := x } } : Pg).arr = P'.arr := by unfold Pg.arr; simp only [List.length_set]
  refine ⟨h.po.setD hg hi x, ?_, h.fr.set g _ _ (fun _ => ⟨lt, ut⟩), h.ub, ar.trans h.e1, h.l1, h.l2, h.l3, by simpa using h.l4⟩
  rw [ar]
  exact h.bx.grown (setCell_gr W g _ _) (fun e => by injection e with e; have := h.ub; omega)
theorem WpS.setC (h : WpS w0 W B U P P') {g i k : Nat} (hi : i < P'.days.length) (hk : k < (P'.days.getD i default).code.length) (hg : (P'.days.getD i default).ca = some ⟨g, 0, none⟩) (f : In) :
    WpS w0 (((W.setCell ⟨g, k * 3, none⟩ (.int .i64 f.o)).setCell ⟨g, k * 3 + 1, none⟩ (.int .i64 f.a)).setCell ⟨g, k * 3 + 2, none⟩ (.int .i64 f.b)) B U P { P' with days := P'.days.set i { P'.days.getD i default with code := (P'.days.getD i default).code.set k f } } := by
  have ob : (P'.days.getD i default).cv.ownBlock = some g := by unfold Sg.cv; rw [hg]; rfl
  have lt := ((h.po.oc i hi).lt g ob).1
  have ut := h.po.uc i hi g ob
  have ar : ({ P' with days := P'.days.set i { P'.days.getD i default with code := (P'.days.getD i default).code.set k f } } : Pg).arr = P'.arr := by unfold Pg.arr; simp only [List.length_set]
  refine ⟨h.po.setC hi hk hg f, ?_, ((h.fr.set g _ _ (fun _ => ⟨lt, ut⟩)).set g _ _ (fun _ => ⟨lt, ut⟩)).set g _ _ (fun _ => ⟨lt, ut⟩), h.ub, ar.trans h.e1, h.l1, h.l2, h.l3, by simpa using h.l4⟩
  rw [ar]
  have ne : some w0.heap.size ≠ some g := fun e => by injection e with e; have := h.ub; omega
  exact ((h.bx.grown (setCell_gr _ g _ _) ne).grown (setCell_gr _ g _ _) ne).grown (setCell_gr _ g _ _) ne
end
end Go.Proofs.YtccjeipkljdhdaaGreatDoor

namespace Go.Proofs.YtccjeipkljdhdaaGreatDoor
open Go.RowKit
set_option linter.unusedVariables false
set_option linter.unusedSimpArgs false
abbrev OK8 (b : Nat) (w w' : World) : Prop := Lib.OthersKept 5 (some b) w w'
/-- A builder that holds bytes. -/
abbrev Bd (B b : Nat) (l : List UInt8) (w : World) : Prop := Lib.IsBuilder 80 5 B b (Lib.byteCells l) w
end Go.Proofs.YtccjeipkljdhdaaGreatDoor

namespace Go.Proofs.YtccjeipkljdhdaaGreatDoor
open Go.RowKit
set_option linter.unusedVariables false
set_option linter.unusedSimpArgs false
theorem Bd.lt {B b : Nat} {l : List UInt8} {w : World} (h : Bd B b l w) : b < w.heap.size ∧ B ≤ b ∧ ∃ cs, w.heap[b]? = some (.cells cs 80 (0, 0)) := by
  rcases h with h | h
  · obtain ⟨h1, v, h2, _⟩ := h; exact ⟨(Array.getElem?_eq_some_iff.1 h2).1, h1, _, h2⟩
  · obtain ⟨h1, v, h2, _⟩ := h; exact ⟨(Array.getElem?_eq_some_iff.1 h2).1, h1, _, h2⟩
theorem Bd.later {B b : Nat} {l : List UInt8} {w w' : World} (h : Bd B b l w) (k : Below w.heap.size w w') : Bd B b l w' := by
  have go : ∀ p, Lib.BuilderAt 80 5 B b p (Lib.byteCells l) w → Lib.BuilderAt 80 5 B b p (Lib.byteCells l) w' := fun p h => by
    obtain ⟨h1, v, h2, h3, h4⟩ := h
    exact ⟨h1, v, (k.block b (Array.getElem?_eq_some_iff.1 h2).1).trans h2, row_farP h3 (gr_below k none) (fun k q e => by cases e), h4⟩
  exact h.imp (go _) (go _)
theorem ok8_bel {b : Nat} {w w' : World} (k : Below w.heap.size w w') : OK8 b w w' := fun j o ho _ _ => (k.block j (Array.getElem?_eq_some_iff.1 ho).1).trans ho
/-- What a call that writes into a builder leaves. -/
structure BdR (B b : Nat) (l : List UInt8) (w w' : World) : Prop where
  bd : Bd B b l w'
  bel : Below B w w'
  ok : OK8 b w w'
  sz : w.heap.size ≤ w'.heap.size
theorem BdR.trans {B b : Nat} {l l' : List UInt8} {w w' w'' : World} (h : BdR B b l w w') (k : BdR B b l' w' w'') : BdR B b l' w w'' := ⟨k.bd, h.bel.trans k.bel, h.ok.trans k.ok, Nat.le_trans h.sz k.sz⟩
theorem BdR.later {B b : Nat} {l : List UInt8} {w w' w'' : World} (h : BdR B b l w w') (hB : B ≤ w'.heap.size) (k : Below w'.heap.size w' w'') : BdR B b l w w'' := ⟨h.bd.later k, h.bel.trans (k.mono hB), h.ok.trans (ok8_bel k), Nat.le_trans h.sz k.size⟩
theorem BdR.hB {B b : Nat} {l : List UInt8} {w w' : World} (h : BdR B b l w w') : B ≤ w'.heap.size := by have := h.bd.lt; omega
/-- A list of words, where the world holds it: below B, or in a row of texts. -/
def WL (B : Nat) (W : World) (a : Option Addr) (n : Nat) (ws : List ByteArray) : Prop :=
  ws.length = n ∧ (n = 0 ∨ ∃ g o, a = some ⟨g, o, none⟩ ∧ g < W.heap.size ∧ (g < B ∨ ∃ cs fz, W.heap[g]? = some (.cells cs 9 fz)) ∧ ∀ j x, ws[j]? = some x → W.cell? ⟨g, o + j, none⟩ = some (.string x))
theorem cell_block {w w' : World} {g k : Nat} (h : w'.heap[g]? = w.heap[g]?) : w'.cell? ⟨g, k, none⟩ = w.cell? ⟨g, k, none⟩ := by unfold World.cell?; simp only [h]
theorem WL.later {B : Nat} {w w' : World} {a : Option Addr} {n : Nat} {ws : List ByteArray} (h : WL B w a n ws) (k : Below w.heap.size w w') : WL B w' a n ws := by
  refine ⟨h.1, h.2.imp id ?_⟩
  rintro ⟨g, o, e, h1, h2, h3⟩
  have hg := k.block g h1
  exact ⟨g, o, e, Nat.lt_of_lt_of_le h1 k.size, h2.imp id (fun ⟨cs, fz, q⟩ => ⟨cs, fz, hg.trans q⟩), fun j x hj => (cell_block hg).trans (h3 j x hj)⟩
theorem WL.size {B : Nat} {w : World} {a : Option Addr} {n : Nat} {ws : List ByteArray} (h : WL B w a n ws) : ws.length = n := h.1
end Go.Proofs.YtccjeipkljdhdaaGreatDoor

namespace Go.Proofs.YtccjeipkljdhdaaGreatDoor
open Go.RowKit
set_option linter.unusedVariables false
set_option linter.unusedSimpArgs false
def lnAL : List ByteArray := [⟨#[110, 97, 109, 101, 115]⟩, ⟨#[99, 117, 114, 115]⟩, ⟨#[112, 111, 111, 108]⟩, ⟨#[104, 111, 114, 105, 122, 111, 110]⟩, ⟨#[99, 101, 108, 108, 115]⟩, ⟨#[115, 108, 111, 116, 115]⟩, ⟨#[115, 116, 97, 99, 107]⟩, ⟨#[100, 97, 121]⟩]
/-- A line's first word. -/
def lnA (k : Nat) : ByteArray := lnAL.getD k ⟨#[]⟩
/-- The lines' words, where the program keeps them. -/
def LnG (w : World) : Prop := 2 < w.heap.size ∧ ∀ k, k < 8 → w.cell? ⟨2, k * 2, none⟩ = some (.string (lnA k))
theorem LnG.later {w w' : World} {B : Nat} (h : LnG w) (hB : w.heap.size ≤ B) (b : Below B w w') (hz : w.heap.size ≤ w'.heap.size) : LnG w' := ⟨Nat.lt_of_lt_of_le h.1 hz, fun k hk => (b.cell (p := ⟨2, k * 2, none⟩) (Nat.lt_of_lt_of_le h.1 hB)).trans (h.2 k hk)⟩
/-- A row of texts of one's own. -/
def OwT13 (W : World) (B : Nat) (v : Value) (ws : List ByteArray) : Prop := W.ownsRow B 9 1 v ws.length (strsP ws)
theorem OwT13.wl {W : World} {B B' : Nat} {v : Value} {ws : List ByteArray} (h : OwT13 W B' v ws) : ∃ a c, v = .slice a ws.length c ∧ ws.length ≤ c ∧ WL B W a ws.length ws := by
  have hh : W.ownsRow B' 9 1 v ws.length (strsP ws) := h
  rcases hh.2 with ⟨rfl, q⟩ | ⟨g, cap, cur, rfl, h1, h2, h3, h4, _⟩
  · exact ⟨none, 0, by rw [q], by omega, rfl, .inl q⟩
  · refine ⟨_, _, rfl, h3, rfl, .inr ⟨g, 0, rfl, (Array.getElem?_eq_some_iff.1 h2).1, .inr ⟨_, _, h2⟩, fun j x hj => ?_⟩⟩
    have := hh.cells (g := g) rfl j (.string x) (by simp [strsP, hj])
    rw [Go.Addr.add_lit] at this
    exact this
end Go.Proofs.YtccjeipkljdhdaaGreatDoor

namespace Go.Proofs.YtccjeipkljdhdaaGreatDoor
open Go.RowKit
set_option linter.unusedVariables false
set_option linter.unusedSimpArgs false

/-- The boxes of a program and an instruction. -/
structure PI (w W : World) (p : Pg) (i : In) : Prop where
  bel : Below w.heap.size w W
  p0 : BkP W w.heap.size p.arr 27
  i0 : BkP W (w.heap.size + 1) #[.int .i64 i.o, .int .i64 i.a, .int .i64 i.b] 42
theorem PI.later {w W W' : World} {p : Pg} {i : In} (h : PI w W p i) (b : Below W.heap.size W W') : PI w W' p i :=
  ⟨h.bel.trans (b.mono h.bel.size), h.p0.grown (gr_below b none) (fun e => by cases e), h.i0.grown (gr_below b none) (fun e => by cases e)⟩
structure PI.cells (w W : World) (p : Pg) (i : In) : Prop where
  c0 : W.cell? ⟨w.heap.size, 0, none⟩ = some (.slice p.na p.names.length p.nc)
  c1 : W.cell? ⟨w.heap.size, 1, none⟩ = some (.slice p.ua p.curs.length p.uc)
  c2 : W.cell? ⟨w.heap.size, 2, none⟩ = some (.slice p.pa p.pool.length p.pc)
  c3 : W.cell? ⟨w.heap.size, 3, none⟩ = some (.int .i64 p.hor)
  c4 : W.cell? ⟨w.heap.size, 4, none⟩ = some (.int .i64 p.cells)
  c5 : W.cell? ⟨w.heap.size, 5, none⟩ = some (.int .i64 p.slots)
  c6 : W.cell? ⟨w.heap.size, 6, none⟩ = some (.int .i64 p.stack)
  c7 : W.cell? ⟨w.heap.size, 7, none⟩ = some (.slice p.da p.days.length p.dc)
  d0 : W.cell? ⟨w.heap.size + 1, 0, none⟩ = some (.int .i64 i.o)
  d1 : W.cell? ⟨w.heap.size + 1, 1, none⟩ = some (.int .i64 i.a)
  d2 : W.cell? ⟨w.heap.size + 1, 2, none⟩ = some (.int .i64 i.b)
theorem PI.get {w W : World} {p : Pg} {i : In} (h : PI w W p i) : PI.cells w W p i :=
  ⟨h.p0.cell 0, h.p0.cell 1, h.p0.cell 2, h.p0.cell 3, h.p0.cell 4, h.p0.cell 5, h.p0.cell 6, h.p0.cell 7, h.i0.cell 0, h.i0.cell 1, h.i0.cell 2⟩
end Go.Proofs.YtccjeipkljdhdaaGreatDoor

namespace Go.Proofs.YtccjeipkljdhdaaGreatDoor
open Go.RowKit
set_option linter.unusedVariables false
set_option linter.unusedSimpArgs false
end Go.Proofs.YtccjeipkljdhdaaGreatDoor

namespace Go.Proofs.YtccjeipkljdhdaaGreatDoor
open Go.RowKit
set_option linter.unusedVariables false
set_option linter.unusedSimpArgs false
end Go.Proofs.YtccjeipkljdhdaaGreatDoor

namespace Go.Proofs.YtccjeipkljdhdaaGreatDoor
open Go.RowKit
set_option linter.unusedVariables false
set_option linter.unusedSimpArgs false
end Go.Proofs.YtccjeipkljdhdaaGreatDoor

namespace Go.Proofs.YtccjeipkljdhdaaGreatDoor
open Go.RowKit
set_option linter.unusedVariables false
set_option linter.unusedSimpArgs false
theorem pcells {W : World} {b : Nat} {p : Pg} (h : BkP W b p.arr 27) : W.cell? ⟨b, 0, none⟩ = some (.slice p.na p.names.length p.nc) ∧ W.cell? ⟨b, 1, none⟩ = some (.slice p.ua p.curs.length p.uc) ∧ W.cell? ⟨b, 2, none⟩ = some (.slice p.pa p.pool.length p.pc) ∧ W.cell? ⟨b, 3, none⟩ = some (.int .i64 p.hor) ∧ W.cell? ⟨b, 4, none⟩ = some (.int .i64 p.cells) ∧ W.cell? ⟨b, 5, none⟩ = some (.int .i64 p.slots) ∧ W.cell? ⟨b, 6, none⟩ = some (.int .i64 p.stack) ∧ W.cell? ⟨b, 7, none⟩ = some (.slice p.da p.days.length p.dc) := ⟨h.cell 0, h.cell 1, h.cell 2, h.cell 3, h.cell 4, h.cell 5, h.cell 6, h.cell 7⟩
end Go.Proofs.YtccjeipkljdhdaaGreatDoor
