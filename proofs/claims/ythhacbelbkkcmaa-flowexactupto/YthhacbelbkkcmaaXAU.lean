import Derived.Test.YthhacbelbkkcmaaXAJ
import Derived.Test.YthhacbelbkkcmaaXAT
namespace Go.Proofs.Ythhacbelbkkcmaa
open Go.RowKit
set_option linter.unusedVariables false
set_option linter.unusedSimpArgs false

/-- All blocks stay but those of D. -/
structure FrD (D : Nat → Prop) (w w' : World) : Prop where
  os : w'.os = w.os
  tape : w'.tape = w.tape
  out : w'.output = w.output
  size : w.heap.size ≤ w'.heap.size
  blk : ∀ k, k < w.heap.size → ¬ D k → w'.heap[k]? = w.heap[k]?
theorem FrD.refl (D : Nat → Prop) (w : World) : FrD D w w := ⟨rfl, rfl, rfl, Nat.le_refl _, fun _ _ _ => rfl⟩
theorem FrD.trans {D : Nat → Prop} {a b c : World} (h : FrD D a b) (k : FrD D b c) : FrD D a c := ⟨k.os.trans h.os, k.tape.trans h.tape, k.out.trans h.out, Nat.le_trans h.size k.size, fun x h1 h2 => (k.blk x (Nat.lt_of_lt_of_le h1 h.size) h2).trans (h.blk x h1 h2)⟩
theorem FrD.below {D : Nat → Prop} {a b : World} (h : Below a.heap.size a b) : FrD D a b := ⟨h.os, h.tape, h.output, h.size, fun x h1 _ => h.block x h1⟩
theorem FrD.wide {D D' : Nat → Prop} {a b : World} (h : FrD D a b) (k : ∀ x, x < a.heap.size → D x → D' x) : FrD D' a b := ⟨h.os, h.tape, h.out, h.size, fun x h1 h2 => h.blk x h1 (fun q => h2 (k x h1 q))⟩
theorem FrD.alloc {D : Nat → Prop} {a b : World} (h : FrD D a b) (o : Obj) : FrD D a (b.alloc o) := h.trans (FrD.below (al_bel b o))
theorem FrD.grown {D : Nat → Prop} {a b c : World} {r : Option Nat} (h : FrD D a b) (g : b.grownBy c r) (hr : ∀ z, r = some z → z < a.heap.size → D z) : FrD D a c :=
  ⟨g.os.trans h.os, g.tape.trans h.tape, g.output.trans h.out, Nat.le_trans h.size g.size, fun x h1 h2 => (g.block x (Nat.lt_of_lt_of_le h1 h.size) (fun e => h2 (hr x e.symm h1))).trans (h.blk x h1 h2)⟩
theorem gr_set (w : World) (p o : Nat) (v : Value) : w.grownBy (w.setCell ⟨p, o, none⟩ v) (some p) := by
  refine ⟨rfl, rfl, rfl, by simp, fun k _ hk => ?_⟩
  have : ¬ p = k := fun e => hk (by rw [e])
  simp [World.setCell, Array.getElem?_modify, this]
theorem FrD.set {D : Nat → Prop} {a b : World} (h : FrD D a b) (p o : Nat) (v : Value) (hp : p < a.heap.size → D p) : FrD D a (b.setCell ⟨p, o, none⟩ v) := h.grown (gr_set b p o v) (fun z e q => by injection e with e; subst e; exact hp q)
theorem FrD.own {D : Nat → Prop} {a b : World} {B s n : Nat} {E : TypeId} {v : Value} {xs : List Value} (h : FrD D a b) (o : a.ownsRow B E s v n xs) (k : ∀ z, v.ownBlock = some z → ¬ D z) : b.ownsRow B E s v n xs := by
  obtain ⟨h1, h2⟩ := o
  refine ⟨h1, ?_⟩
  rcases h2 with h2 | ⟨g, cap, cur, rfl, hb, hg, r⟩
  · exact .inl h2
  · exact .inr ⟨g, cap, cur, rfl, hb, (h.blk g (Array.getElem?_eq_some_iff.1 hg).1 (k g rfl)).trans hg, r⟩
theorem own_apE {w : World} {B B' s s' n n' : Nat} {e e' : TypeId} {v v' : Value} {xs xs' : List Value} (h : w.ownsRow B e s v n xs) (h' : w.ownsRow B' e' s' v' n' xs') (he : e ≠ e') : v.ownBlock = none ∨ v.ownBlock ≠ v'.ownBlock := by
  rcases h.2 with ⟨rfl, _⟩ | ⟨g, c, cur, rfl, _, hg, _⟩
  · exact .inl rfl
  · right
    intro q
    rcases h'.2 with ⟨rfl, _⟩ | ⟨g', c', cur', rfl, _, hg', _⟩
    · cases q
    · simp only [Value.ownBlock, Option.some.injEq] at q
      subst q
      rw [hg] at hg'
      injection hg' with q
      injection q with _ q
      exact he q
theorem append_stays {w : World} (base : Nat) (t ty e : TypeId) (i : TypeInfo) (z : Value) (size bytes : Nat) (ht : Try.prog.underlying t = some (.slice e)) (hi : Try.prog.info? e = some i) (hz : i.zero = some z)
    (hsize : i.size = size) (hby : i.bytes = bytes) (hzs : z.cells.size = size) (hsz : 0 < size)
    (v : Value) (n : Nat) (xs : List Value) (hown : w.ownsRow base e size v n xs)
    (a : Addr) (m c : Nat) (news : List Value) (hl : news.length = m * size) (hnews : ∀ j u, news[j]? = some u → w.cell? (a.add j) = some u) (h1 : ∀ u ∈ news, u.oneCell' = true)
    (h63 : n + m ≤ maxLen) (hbytes : (n + m) * bytes ≤ 140737488355328) (hbase : base ≤ w.heap.size) (v' : Value) (w' : World)
    (hr : (Builtin.append_ #[t, t] ty #[v, .slice (some a) m c]).run Try.prog w = .ok v' w') (h' : w'.ownsRow base e size v' (n + m) (xs ++ news)) (hg' : w.grownBy w' v.ownBlock) : w'.ownsRow base e size v n xs := by
  subst hsize
  subst hby
  have hsmall : n + m ≤ 9223372036854775807 := by simp only [maxLen] at h63; omega
  have hown0 := hown
  rcases hown.2 with ⟨rfl, rfl⟩ | ⟨g', cap, cur, rfl, hbg, hgg, hnc, hcm, hcs, htake⟩
  · exact ⟨hown.1, .inl ⟨rfl, rfl⟩⟩
  · by_cases hroom : n + m ≤ cap
    · have hfit : n * i.size + news.length ≤ cur.size := by rw [hl, hcs, ← Nat.add_mul]; exact Nat.mul_le_mul_right _ hroom
      rw [run_append_room (P := Try.prog) w t ty e i ht hi g' n cap cur hgg a m c news hl hnews h1 hroom hfit] at hr
      injection hr with hr1 hr2
      subst hr1
      rcases h'.2 with ⟨q, _⟩ | ⟨g2, cap2, cur2, q, q1, q2, q3, q4, q5, q6⟩
      · cases q
      · injection q with q qn qc
        injection q with q
        injection q with q
        subst q qc
        refine ⟨hown.1, .inr ⟨g', cap, cur2, rfl, hbg, q2, hnc, hcm, q5, ?_⟩⟩
        have l := hown.1
        have : cur2.toList.take (n * i.size) = (cur2.toList.take ((n + m) * i.size)).take (n * i.size) := by rw [List.take_take, Nat.min_eq_left (Nat.mul_le_mul_right _ (by omega))]
        rw [this, q6, ← l]
        exact List.take_left
    · have holds : ∀ j u, xs[j]? = some u → w.cell? ((⟨g', 0, none⟩ : Addr).add j) = some u := hown.cells (g := g') rfl
      rw [run_append_grow (P := Try.prog) w t ty e i z ht hi hz ⟨g', 0, none⟩ n cap xs hown.1 holds a m c news hl hnews (by omega) (by omega) (growslice_fits (by omega) hbytes)] at hr
      injection hr with hr1 hr2
      subst hr2
      exact ⟨hown.1, .inr ⟨g', cap, cur, rfl, hbg, (Below.heap_alloc w.drew _ g' (Array.getElem?_eq_some_iff.1 hgg).1).trans hgg, hnc, hcm, hcs, htake⟩⟩
/-- An append of a literal row, whose answer is left: the list stays as it was. -/
theorem wp_appS {T E : TypeId} {z : Value} {size bytes : Nat} (hT : Try.prog.underlying T = some (.slice E)) (hinfo : (Try.prog.info? E).map (fun i => (i.zero, i.size, i.bytes)) = some (some z, size, bytes)) (hzs : z.cells.size = size) (hsz : 0 < size)
    {ops : Array Oper} {rest : List Oper} {o : Oper} {a : Act} {Q : Exit → Act → World → Prop} (w : World) (B : Nat) (hB : B ≤ w.heap.size) (n : Nat) (cs : Array Value) (hl : cs.size = n * size) (one : cs.toList.all (fun u => u.oneCell') = true)
    (hgd : o.guard = none) (s x : Operand) (ho : o.op = .call { callee := .builtin .append, args := #[s, x], argTypes := #[T, T] }) (v : Value) (m : Nat) (xs : List Value) (hs : a.eval s = v) (hown : w.ownsRow B E size v m xs) (hx : a.eval x = .slice (some ⟨w.heap.size, 0, none⟩) n n) (h63 : m + n ≤ maxLen) (hby : (m + n) * bytes ≤ 140737488355328)
    (h : ∀ v' w', w'.ownsRow B E size v m xs → (w.alloc (.cells cs E)).grownBy w' v.ownBlock → wpList Try.prog ops Q rest (a.put o.dst v') w') : wpList Try.prog ops Q (o :: rest) a (w.alloc (.cells cs E)) := by
  obtain ⟨i0, hi, hz0, hz1, hz2⟩ := info_parts hinfo
  refine wpList_plain hgd fun K hK => ?_
  have hnews : ∀ j u, cs.toList[j]? = some u → (w.alloc (.cells cs E)).cell? ((⟨w.heap.size, 0, none⟩ : Addr).add j) = some u := by
    intro j u hj
    rw [Go.Addr.add_lit, Nat.zero_add, World.cell?_alloc_at _ _ _ _ rfl]
    simpa using hj
  have hl' : cs.toList.length = n * size := by simpa using hl
  obtain ⟨v', w', hr, h2, h3, h4, h5⟩ := run_append_own_at (P := Try.prog) (w.alloc (.cells cs E)) B T o.type E i0 z size bytes hT hi hz0 hz1 hz2 hzs hsz v m xs (hown.alloc _) ⟨w.heap.size, 0, none⟩ n n cs.toList hl' hnews (List.all_eq_true.1 one) h63 hby (by simp; omega)
  unfold Oper.wp execOp
  simp only [ho, resolve, invoke, builtin, Sem.run_bind, Sem.run_pure, Result.andThen_ok, List.map_toArray, List.map_cons, List.map_nil, hs, hx, hr]
  exact hK _ _ (h v' w' (append_stays B T o.type E i0 z size bytes hT hi hz0 hz1 hz2 hzs hsz v m xs (hown.alloc _) ⟨w.heap.size, 0, none⟩ n n cs.toList hl' hnews (List.all_eq_true.1 one) h63 hby (by simp; omega) v' w' hr h2 h3) h3)
/-- A flow, a total of a mark. -/
def mkH (mark : Int) : Fl := ⟨mark, ⟨#[72, 69, 76, 68]⟩, 0⟩
def mkTt (mark : Int) : ByteArray × Int := (⟨#[72, 69, 76, 68]⟩, mark)
theorem tcs_set : ∀ (gs : List (ByteArray × Int)) (i : Nat) (f : ByteArray × Int), i < gs.length → ((tcs gs).set (i * 2) (.string f.1)).set (i * 2 + 1) (.int .i64 f.2) = tcs (gs.set i f)
  | [], i, f, h => by simp at h
  | g :: gs, 0, f, h => rfl
  | g :: gs, i + 1, f, h => by
    have ih := tcs_set gs i f (by simpa using h)
    show ((tc g ++ tcs gs).set ((i + 1) * 2) _).set ((i + 1) * 2 + 1) _ = tc g ++ tcs (gs.set i f)
    have e : (tc g).length = 2 := rfl
    rw [List.set_append_right _ _ (by omega), List.set_append_right _ _ (by omega), e, show (i + 1) * 2 - 2 = i * 2 by omega, show (i + 1) * 2 + 1 - 2 = i * 2 + 1 by omega, ih]
theorem all_mk {α : Type} [Inhabited α] {l : List α} {n : Nat} {x : α} (hl : l.length = n) (h : ∀ i, i < n → l.getD i default = x) : l = List.replicate n x := by
  refine List.ext_getElem (by simp [hl]) (fun i h1 h2 => ?_)
  have := h i (by omega)
  simpa [List.getD, h1] using this
theorem set_mk {α : Type} [Inhabited α] {l : List α} {k : Nat} {x : α} (hk : k < l.length) (h : ∀ i, i < k → l.getD i default = x) : ∀ i, i < k + 1 → (l.set k x).getD i default = x := by
  intro i hi
  by_cases e : i = k
  · subst e; simp [List.getD, hk]
  · have := h i (by omega)
    simp only [List.getD] at this ⊢
    rw [List.getElem?_set_ne (by omega)]
    exact this
/-- hold at work. -/
structure HoI (w W : World) (B n m : Nat) (v t : Value) (gs : List Fl) (us : List (ByteArray × Int)) : Prop where
  fr : FrD (fun k => v.ownBlock = some k ∨ t.ownBlock = some k) w W
  f : W.ownsRow B 40 3 v n (fcs gs)
  t : W.ownsRow B 57 2 t m (tcs us)
  gl : gs.length = n
  ul : us.length = m
  bx : BoxH w W
theorem HoI.ap {w W : World} {B n m : Nat} {v t : Value} {gs : List Fl} {us : List (ByteArray × Int)} (h : HoI w W B n m v t gs us) : (v.ownBlock = none ∨ v.ownBlock ≠ t.ownBlock) ∧ (t.ownBlock = none ∨ t.ownBlock ≠ v.ownBlock) := ⟨own_apE h.f h.t (by decide), own_apE h.t h.f (by decide)⟩
theorem HoI.bx_ne {w W : World} {B n m : Nat} {v t : Value} {gs : List Fl} {us : List (ByteArray × Int)} (h : HoI w W B n m v t gs us) : v.ownBlock ≠ some w.heap.size ∧ t.ownBlock ≠ some w.heap.size := by
  have hb := h.bx
  unfold BoxH at hb
  constructor
  · intro q
    rcases h.f.2 with ⟨rfl, _⟩ | ⟨g, c, cur, rfl, _, hg, _⟩
    · cases q
    · simp only [Value.ownBlock, Option.some.injEq] at q
      rw [q, hb] at hg
      injection hg with hg
      injection hg with _ hg
      exact absurd hg (by decide)
  · intro q
    rcases h.t.2 with ⟨rfl, _⟩ | ⟨g, c, cur, rfl, _, hg, _⟩
    · cases q
    · simp only [Value.ownBlock, Option.some.injEq] at q
      rw [q, hb] at hg
      injection hg with hg
      injection hg with _ hg
      exact absurd hg (by decide)
theorem HoI.setF {w W : World} {B m g cap n : Nat} {t : Value} {gs : List Fl} {us : List (ByteArray × Int)} (h : HoI w W B n m (.slice (some ⟨g, 0, none⟩) n cap) t gs us) (i : Nat) (hi : i < n) (f : Fl) :
    HoI w (((W.setCell ⟨g, i * 3, none⟩ (.int .i64 f.d)).setCell ⟨g, i * 3 + 1, none⟩ (.string f.c)).setCell ⟨g, i * 3 + 2, none⟩ (.int .i64 f.a)) B n m (.slice (some ⟨g, 0, none⟩) n cap) t (gs.set i f) us := by
  have gb : g ≠ w.heap.size := fun e => h.bx_ne.1 (by simp [Value.ownBlock, e])
  have tn := h.ap.2
  refine ⟨((h.fr.set g _ _ (fun _ => .inl rfl)).set g _ _ (fun _ => .inl rfl)).set g _ _ (fun _ => .inl rfl), ?_, ?_, by simpa using h.gl, h.ul, boxH_set (boxH_set (boxH_set h.bx _ gb _) _ gb _) _ gb _⟩
  · have := (((World.ownsRow.stored h.f (i * 3) (.int .i64 f.d)).1.stored (i * 3 + 1) (.string f.c)).1.stored (i * 3 + 2) (.int .i64 f.a)).1
    rw [fcs_set gs i f (by rw [h.gl]; exact hi)] at this
    exact this
  · exact ((h.t.kept (gr_set _ g _ _) tn).kept (gr_set _ g _ _) tn).kept (gr_set _ g _ _) tn
theorem HoI.setT {w W : World} {B m g cap n : Nat} {v : Value} {gs : List Fl} {us : List (ByteArray × Int)} (h : HoI w W B n m v (.slice (some ⟨g, 0, none⟩) m cap) gs us) (i : Nat) (hi : i < m) (f : ByteArray × Int) :
    HoI w ((W.setCell ⟨g, i * 2, none⟩ (.string f.1)).setCell ⟨g, i * 2 + 1, none⟩ (.int .i64 f.2)) B n m v (.slice (some ⟨g, 0, none⟩) m cap) gs (us.set i f) := by
  have gb : g ≠ w.heap.size := fun e => h.bx_ne.2 (by simp [Value.ownBlock, e])
  have vn := h.ap.1
  refine ⟨(h.fr.set g _ _ (fun _ => .inr rfl)).set g _ _ (fun _ => .inr rfl), ?_, ?_, h.gl, by simpa using h.ul, boxH_set (boxH_set h.bx _ gb _) _ gb _⟩
  · exact (h.f.kept (gr_set _ g _ _) vn).kept (gr_set _ g _ _) vn
  · have := ((World.ownsRow.stored h.t (i * 2) (.string f.1)).1.stored (i * 2 + 1) (.int .i64 f.2)).1
    rw [tcs_set us i f (by rw [h.ul]; exact hi)] at this
    exact this
theorem HoI.appF {w W W' : World} {B m n : Nat} {v t : Value} {gs : List Fl} {us : List (ByteArray × Int)} (h : HoI w W B n m v t gs us) (o : Obj) (o' : W'.ownsRow B 40 3 v n (fcs gs)) (g : (W.alloc o).grownBy W' v.ownBlock) : HoI w W' B n m v t gs us :=
  ⟨(h.fr.alloc o).grown g (fun z e _ => .inl e), o', (h.t.alloc o).kept g h.ap.2, h.gl, h.ul, boxH_grown (boxH_alloc h.bx o) g h.bx_ne.1⟩
theorem HoI.appT {w W W' : World} {B m n : Nat} {v t : Value} {gs : List Fl} {us : List (ByteArray × Int)} (h : HoI w W B n m v t gs us) (o : Obj) (o' : W'.ownsRow B 57 2 t m (tcs us)) (g : (W.alloc o).grownBy W' t.ownBlock) : HoI w W' B n m v t gs us :=
  ⟨(h.fr.alloc o).grown g (fun z e _ => .inr e), (h.f.alloc o).kept g h.ap.1, o', h.gl, h.ul, boxH_grown (boxH_alloc h.bx o) g h.bx_ne.2⟩
theorem HoI.formF {w W : World} {B m n cap : Nat} {a : Option Addr} {t : Value} {gs : List Fl} {us : List (ByteArray × Int)} (h : HoI w W B n m (.slice a n cap) t gs us) (hn : 0 < n) : ∃ g, a = some ⟨g, 0, none⟩ := by
  rcases h.f.2 with ⟨q, q2⟩ | ⟨g, c, cur, q, _⟩
  · omega
  · injection q with q; exact ⟨g, q⟩
theorem HoI.formT {w W : World} {B m n cap : Nat} {b : Option Addr} {v : Value} {gs : List Fl} {us : List (ByteArray × Int)} (h : HoI w W B n m v (.slice b m cap) gs us) (hm : 0 < m) : ∃ g, b = some ⟨g, 0, none⟩ := by
  rcases h.t.2 with ⟨q, q2⟩ | ⟨g, c, cur, q, _⟩
  · omega
  · injection q with q; exact ⟨g, q⟩
def HoE (w : World) (B n m : Nat) (v t : Value) (mark : Int) (e : Ending) (w' : World) : Prop :=
  e = .returned (.agg #[v, t, .int .i64 mark]) ∧ FrD (fun k => v.ownBlock = some k ∨ t.ownBlock = some k) w w' ∧ w'.ownsRow B 40 3 v n (fcs (List.replicate n (mkH mark))) ∧ w'.ownsRow B 57 2 t m (tcs (List.replicate m (mkTt mark)))
set_option maxRecDepth 100000 in
set_option maxHeartbeats 4000000 in
theorem hold_both (a b : Option Addr) (n c m d B : Nat) (fs : List Fl) (ts : List (ByteArray × Int)) (mark : Int) (w : World) (h : w.ownsRow B 40 3 (.slice a n c) n (fcs fs)) (k : w.ownsRow B 57 2 (.slice b m d) m (tcs ts)) (hl : fs.length = n) (kl : ts.length = m) (hn : n ≤ 4398046511000) (hm : m ≤ 4398046511000) (hB : B ≤ w.heap.size) :
    Calls Try.prog 11 #[.slice a n c, .slice b m d, .int .i64 mark] w fun e w' => HoE w B n m (.slice a n c) (.slice b m d) mark e w' := by
  have HI := Lib.hid (p := HoI w (w.alloc (.cells #[.slice none 0 0, .slice none 0 0, .int .i64 0] 35)) B n m (.slice a n c) (.slice b m d) fs ts) ⟨(FrD.refl _ w).alloc _, h.alloc _, k.alloc _, hl, kl, boxH_new w⟩
  clear h k hl kl
  go_enter Try.func11, Try.ntmps11
  go_wp2
  go_loopw [7] (fun t wr => ∃ (k : Nat) (gs : List Fl), k ≤ n ∧ t = .int .i64 k ∧ (∀ i, i < k → gs.getD i default = mkH mark) ∧ HoI w wr B n m (.slice a n c) (.slice b m d) gs ts) (fun t _ => n - (intOf t).toNat)
  case atStart => exact ⟨0, fs, by omega, rfl, fun i hi => by omega, HI.out⟩
  case round =>
    obtain ⟨k, gs, hk, rfl, hg, hi⟩ := hrel
    have GG := Lib.hid hg
    have II := Lib.hid hi
    by_cases hlt : k < n
    · obtain ⟨g, rfl⟩ := hi.formF (by omega)
      have kc : (k : Int) < (n : Int) := by omega
      have len : (fcs gs).length = n * 3 := hi.f.1
      have c0 := hi.f.cellAt (k * 3) (by omega)
      have c1 := hi.f.cellAt (k * 3 + 1) (by omega)
      have c2 := hi.f.cellAt (k * 3 + 2) (by omega)
      rw [List.getElem?_eq_getElem (by omega)] at c0 c1 c2
      generalize (fcs gs)[k * 3]'(by omega) = z0 at c0
      generalize (fcs gs)[k * 3 + 1]'(by omega) = z1 at c1
      generalize (fcs gs)[k * 3 + 2]'(by omega) = z2 at c2
      have f0 := hi.f.frozenAt (k * 3)
      have f1 := hi.f.frozenAt (k * 3 + 1)
      have f2 := hi.f.frozenAt (k * 3 + 2)
      have gl := Lib.hid hi.gl
      clear hg hi len HI
      go_wp2
      go_roundw
      case rel => exact ⟨k + 1, _, by omega, by go_num, set_mk (by rw [gl.out]; exact hlt) GG.out, II.out.setF k hlt (mkH mark)⟩
      case measure => simp [intOf]; omega
    · obtain rfl : k = n := by omega
      clear hg hi HI
      go_wp2
      go_loopw [8] (fun t ws => ∃ (j : Nat) (us : List (ByteArray × Int)), j ≤ m ∧ t = .int .i64 j ∧ (∀ i, i < j → us.getD i default = mkTt mark) ∧ HoI w ws B k m (.slice a k c) (.slice b m d) gs us) (fun t _ => m - (intOf t).toNat)
      case atStart => exact ⟨0, ts, by omega, rfl, fun i hi => by omega, II.out⟩
      case round =>
        rename World => ws
        obtain ⟨j, us, hj, rfl, hu, hi⟩ := hrel
        have UU := Lib.hid hu
        have JJ := Lib.hid hi
        by_cases hlt2 : j < m
        · obtain ⟨g, rfl⟩ := hi.formT (by omega)
          have kc : (j : Int) < (m : Int) := by omega
          have len : (tcs us).length = m * 2 := hi.t.1
          have c0 := hi.t.cellAt (j * 2) (by omega)
          have c1 := hi.t.cellAt (j * 2 + 1) (by omega)
          rw [List.getElem?_eq_getElem (by omega)] at c0 c1
          generalize (tcs us)[j * 2]'(by omega) = z0 at c0
          generalize (tcs us)[j * 2 + 1]'(by omega) = z1 at c1
          have f0 := hi.t.frozenAt (j * 2)
          have f1 := hi.t.frozenAt (j * 2 + 1)
          have ul := Lib.hid hi.ul
          clear hu hi len
          go_wp2
          go_roundw
          case rel => exact ⟨j + 1, _, by omega, by go_num, set_mk (by rw [ul.out]; exact hlt2) UU.out, JJ.out.setT j hlt2 (mkTt mark)⟩
          case measure => simp [intOf]; omega
        · obtain rfl : j = m := by omega
          have hs : B ≤ ws.heap.size := Nat.le_trans hB hi.fr.size
          clear hu hi
          go_wp2_with (first
            | (at_builtin; refine wp_appS Try.underlying24 infoF rfl (by decide) _ B hs 3 _ rfl rfl rfl _ _ rfl _ _ _ rfl JJ.out.f rfl (by unfold maxLen; omega) (by omega) ?_; intro v1 w1 o1 g1; have J1 := Lib.hid (JJ.out.appF _ o1 g1); have s1 := Nat.le_trans hs (Nat.le_trans (Nat.le_of_lt (by simp)) g1.size); clear o1 g1)
            | (at_builtin; refine wp_appS Try.underlying28 infoTH rfl (by decide) _ B s1 2 _ rfl rfl rfl _ _ rfl _ _ _ rfl J1.out.t rfl (by unfold maxLen; omega) (by omega) ?_; intro v2 w2 o2 g2; have J2 := Lib.hid (J1.out.appT _ o2 g2); obtain ⟨y0, y1, y2, y3, y4, y5⟩ := boxH_cells J2.out.bx; clear o2 g2))
          refine bodyPost_ret (v := .agg #[.slice a k c, .slice b j d, .int .i64 mark]) (by simp [results, Try.results11, go_sem, y0, y1, y2]) rfl ?_
          have nb := J2.out.bx_ne
          have eg := all_mk J2.out.gl GG.out
          have eu := all_mk J2.out.ul UU.out
          have st : ∀ {W : World} (p : Nat) (x : Value), HoI w W B k j (.slice a k c) (.slice b j d) gs us → FrD (fun z => (Value.slice a k c).ownBlock = some z ∨ (Value.slice b j d).ownBlock = some z) w (W.setCell ⟨w.heap.size, p, none⟩ x) := fun p x h => h.fr.set _ _ _ (fun q => absurd q (Nat.lt_irrefl _))
          refine ⟨rfl, ?_, ?_, ?_⟩
          · exact ((J2.out.fr.set _ _ _ (fun q => absurd q (Nat.lt_irrefl _))).set _ _ _ (fun q => absurd q (Nat.lt_irrefl _))).set _ _ _ (fun q => absurd q (Nat.lt_irrefl _))
          · rw [← eg]
            exact ((J2.out.f.kept (gr_set _ _ _ _) (.inr nb.1)).kept (gr_set _ _ _ _) (.inr nb.1)).kept (gr_set _ _ _ _) (.inr nb.1)
          · rw [← eu]
            exact ((J2.out.t.kept (gr_set _ _ _ _) (.inr nb.2)).kept (gr_set _ _ _ _) (.inr nb.2)).kept (gr_set _ _ _ _) (.inr nb.2)
end Go.Proofs.Ythhacbelbkkcmaa
