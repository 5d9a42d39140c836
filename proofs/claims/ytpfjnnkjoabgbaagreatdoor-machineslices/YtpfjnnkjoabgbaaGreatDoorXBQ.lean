import Derived.Test.YtpfjnnkjoabgbaaGreatDoorXBP
namespace Go.Proofs.YtpfjnnkjoabgbaaGreatDoor
open Go.RowKit
set_option linter.unusedVariables false
set_option linter.unusedSimpArgs false
/-- An append whose run is known, where the order is drawn. -/
theorem step_app_run {ops : Array Oper} {o : Oper} {a : Act} {K : Act → World → Prop} {Q : Exit → Act → World → Prop} {E : Prop} {w : World} (hgd : o.guard = none) (s x : Operand) (T : TypeId)
    (ho : o.op = .call { callee := .builtin .append, args := #[s, x], argTypes := #[T, T] }) (v u r : Value) (W1 : World) (hs : a.eval s = v) (hx : a.eval x = u) (hr : ∀ ty, (Builtin.append_ #[T, T] ty #[v, u]).run Tryz.prog w = .ok r W1)
    (h : K (a.put o.dst r) W1) : if Region.wanted o (yielded ops a.tmps) = true then Oper.wp Tryz.prog o a w K Q else E := by
  have hw : Region.wanted o (yielded ops a.tmps) = true := by simp [Region.wanted, hgd]
  rw [if_pos hw]
  unfold Oper.wp execOp
  simp only [ho, resolve, invoke, builtin, Sem.run_bind, Sem.run_pure, Result.andThen_ok, List.map_toArray, List.map_cons, List.map_nil, hs, hx, hr]
  exact h
/-- 'append(own, l...)' of any list. -/
theorem run_rowapp {T E k bz : Nat} {i0 : TypeInfo} {z : Value} (hT : Tryz.prog.underlying T = some (.slice E)) (hi : Tryz.prog.info? E = some i0) (hz0 : i0.zero = some z) (hz1 : i0.size = k) (hz2 : i0.bytes = bz) (hzs : z.cells.size = k) (hk : 0 < k) {w : World} {B : Nat} {v : Value} {m : Nat} {xs : List Value} (hv : w.ownsRow B E k v m xs) {a : Option Addr} {n c : Nat} {V : Nat → List Value} (hh : Hd a n c) (hr : Row w a n k V) (hV : ∀ i, (V i).length = k) (h1 : ∀ i, ∀ u ∈ V i, u.oneCell' = true) (hm : m + n ≤ maxLen) (hb : (m + n) * bz ≤ 140737488355328) (hB : B ≤ w.heap.size) :
    ∃ a' c' w', (∀ ty, (Builtin.append_ #[T, T] ty #[v, .slice a n c]).run Tryz.prog w = .ok (.slice a' (m + n) c') w') ∧ w'.ownsRow B E k (.slice a' (m + n) c') (m + n) (xs ++ flatV n V) ∧ w.grownBy w' v.ownBlock ∧ (Value.ownBlock (.slice a' (m + n) c') = v.ownBlock ∨ Value.ownBlock (.slice a' (m + n) c') = some w.heap.size) := by
  cases a with
  | none =>
    obtain ⟨rfl, rfl⟩ := hh.1 rfl
    obtain ⟨a', c', rfl⟩ := own_form hv
    refine ⟨a', c', w, fun ty => ?_, by simpa [flatV] using hv, ⟨rfl, rfl, rfl, Nat.le_refl _, fun _ _ _ => rfl⟩, .inl rfl⟩
    have q := run_append_owned_none (P := Tryz.prog) (w := w) B T ty E i0 k hT hi _ _ _ hv
    simpa using q
  | some ad =>
    have nw : ∀ j u, (flatV n V)[j]? = some u → w.cell? (ad.add j) = some u := by
      rcases hr with rfl | ⟨b, o, e, hb, hc⟩
      · intro j u hj; simp [flatV] at hj
      · injection e with e
        subst e
        exact row_news hk (fun i _ => hV i) hc
    have q := fun ty => run_append_own_at (P := Tryz.prog) w B T ty E i0 z k bz hT hi hz0 hz1 hz2 hzs hk v m xs hv ad n c (flatV n V) (flatV_len V n (fun i _ => hV i)) nw (flatV_one (k := k) V n (fun i _ => h1 i)) hm hb hB
    obtain ⟨v', w', r, o, g, _, p⟩ := q 0
    obtain ⟨a', c', rfl⟩ := own_form o
    refine ⟨a', c', w', fun ty => ?_, o, g, p⟩
    have : (Builtin.append_ #[T, T] ty #[v, .slice (some ad) n c]) = (Builtin.append_ #[T, T] 0 #[v, .slice (some ad) n c]) := rfl
    rw [this]
    exact r
/-- 'append([]T{}, l...)' of any list. -/
theorem run_fresh {T E k bz : Nat} {i0 : TypeInfo} {z : Value} (hT : Tryz.prog.underlying T = some (.slice E)) (hi : Tryz.prog.info? E = some i0) (hz0 : i0.zero = some z) (hz1 : i0.size = k) (hz2 : i0.bytes = bz) (hzs : z.cells.size = k) (hk : 0 < k) {W : World} {B : Nat} (hB : B ≤ W.heap.size) {a : Option Addr} {n c : Nat} {V : Nat → List Value} (hh : Hd a n c) (hr : Row W a n k V) (hV : ∀ i, (V i).length = k) (h1 : ∀ i, ∀ u ∈ V i, u.oneCell' = true) (hm : n ≤ maxLen) (hb : n * bz ≤ 140737488355328) :
    ∃ a' c' w', (∀ ty, (Builtin.append_ #[T, T] ty #[.slice (some ⟨W.heap.size, 0, none⟩) 0 0, .slice a n c]).run Tryz.prog (W.alloc (.cells #[] E)) = .ok (.slice a' n c') w') ∧ OwL w' B E k a' n c' V ∧ Below W.heap.size W w' := by
  have al := allocBP W (.cells #[] E)
  obtain ⟨a', c', w', r, o, g, _⟩ := run_rowapp hT hi hz0 hz1 hz2 hzs hk (World.ownsRow_made (e := E) (size := k) W #[] 0 hB (by unfold maxLen; omega) (by simp)) hh (hr.later al) hV h1 (by omega) (by rw [Nat.zero_add]; exact hb) (Nat.le_trans hB al.size)
  rw [Nat.zero_add] at r
  rw [Nat.zero_add, List.nil_append] at o
  exact ⟨a', c', w', r, o, ⟨g.os, g.tape, g.output, Nat.le_trans al.size g.size, fun x hx => (g.block x (by simp; omega) (by intro z; simp only [Value.ownBlock, Option.some.injEq] at z; omega)).trans (al.block x hx)⟩⟩
theorem infoSt : (Tryz.prog.info? 9).map (fun i => (i.zero, i.size, i.bytes)) = some (some (.string ⟨#[]⟩), 1, 16) := by kernel_rfl
theorem fresh_st {W : World} {B : Nat} (hB : B ≤ W.heap.size) {a : Option Addr} {n c : Nat} {l : List ByteArray} (h : SR W a n c l) : ∃ a' c' w', (∀ ty, (Builtin.append_ #[22, 22] ty #[.slice (some ⟨W.heap.size, 0, none⟩) 0 0, .slice a n c]).run Tryz.prog (W.alloc (.cells #[] 9)) = .ok (.slice a' n c') w') ∧ OwL w' B 9 1 a' n c' (stV l) ∧ Below W.heap.size W w' := by
  obtain ⟨i0, hi, hz0, hz1, hz2⟩ := info_parts infoSt
  have := h.2.2.1
  exact run_fresh Tryz.underlying22 hi hz0 hz1 hz2 rfl (by omega) hB h.1 h.2.2.2.2 (fun _ => rfl) (fun i u hu => by simp [stV] at hu; rw [hu]; rfl) (by unfold maxLen; omega) (by omega)
theorem fresh_nu {W : World} {B : Nat} (hB : B ≤ W.heap.size) {a : Option Addr} {n c : Nat} {l : List Int} (h : NR W a n c l) : ∃ a' c' w', (∀ ty, (Builtin.append_ #[23, 23] ty #[.slice (some ⟨W.heap.size, 0, none⟩) 0 0, .slice a n c]).run Tryz.prog (W.alloc (.cells #[] 3)) = .ok (.slice a' n c') w') ∧ OwL w' B 3 1 a' n c' (nuV l) ∧ Below W.heap.size W w' := by
  obtain ⟨i0, hi, hz0, hz1, hz2⟩ := info_parts infoZ
  have := h.2.2.1
  exact run_fresh Tryz.underlying23 hi hz0 hz1 hz2 rfl (by omega) hB h.1 h.2.2.2.2 (fun _ => rfl) (fun i u hu => by simp [nuV] at hu; rw [hu]; rfl) (by unfold maxLen; omega) (by omega)
theorem fresh_in {W : World} {B : Nat} (hB : B ≤ W.heap.size) {a : Option Addr} {n c : Nat} {l : List In} (h : IR W a n c l) : ∃ a' c' w', (∀ ty, (Builtin.append_ #[69, 69] ty #[.slice (some ⟨W.heap.size, 0, none⟩) 0 0, .slice a n c]).run Tryz.prog (W.alloc (.cells #[] 68)) = .ok (.slice a' n c') w') ∧ OwL w' B 68 3 a' n c' (inW l) ∧ Below W.heap.size W w' := by
  obtain ⟨i0, hi, hz0, hz1, hz2⟩ := info_parts infoIn
  have := h.2.2.1
  exact run_fresh Tryz.underlying69 hi hz0 hz1 hz2 rfl (by omega) hB h.1 h.2.2.2.2 (fun i => inW_len l i) (fun i => inW_one l i) (by unfold maxLen; omega) (by omega)
end Go.Proofs.YtpfjnnkjoabgbaaGreatDoor

namespace Go.Proofs.YtpfjnnkjoabgbaaGreatDoor
open Go.RowKit
set_option linter.unusedVariables false
set_option linter.unusedSimpArgs false
/-- The boxes of owned. -/
structure OdS (w : World) (p : Pg) (arr : Array Value) (W : World) : Prop where
  bel : Below w.heap.size w W
  pb : BkP W w.heap.size #[.slice p.na p.names.length p.nc, .slice p.ua p.curs.length p.uc, .slice p.pa p.pool.length p.pc, .int .i64 p.hor, .int .i64 p.cells, .int .i64 p.slots, .int .i64 p.stack, .slice p.da p.days.length p.dc] 26
  zb : BkP W (w.heap.size + 1) #[.slice none 0 0, .slice none 0 0, .slice none 0 0, .int .i64 0, .int .i64 0, .int .i64 0, .int .i64 0, .slice none 0 0] 26
  qb : BkP W (w.heap.size + 2) arr 26
  sz : w.heap.size + 3 ≤ W.heap.size
theorem OdS.lat {w : World} {p : Pg} {arr : Array Value} {W W' : World} (h : OdS w p arr W) (b : Below W.heap.size W W') : OdS w p arr W' := ⟨h.bel.trans (b.mono h.bel.size), h.pb.lat b, h.zb.lat b, h.qb.lat b, Nat.le_trans h.sz b.size⟩
theorem OdS.set {w : World} {p : Pg} {arr : Array Value} {W : World} (h : OdS w p arr W) (k : Nat) (v : Value) (hk : k < arr.size) : OdS w p (arr.set! k v) (W.setCell ⟨w.heap.size + 2, k, none⟩ v) := ⟨h.bel.setCell (by exact (by omega : w.heap.size ≤ w.heap.size + 2)) _, h.pb.other _ _ _ (by omega), h.zb.other _ _ _ (by omega), h.qb.set2 k v hk, by rw [set_size]; exact h.sz⟩
theorem OwL.setQ {w : World} {B : Nat} {t : TypeId} {k : Nat} {a : Option Addr} {n c : Nat} {V : Nat → List Value} {w0 : World} {p : Pg} {arr : Array Value} (h : OwL w B t k a n c V) (s : OdS w0 p arr w) (ne : t ≠ 26) (j : Nat) (x : Value) : OwL (w.setCell ⟨w0.heap.size + 2, j, none⟩ x) B t k a n c V := h.set s.qb ne j x
end Go.Proofs.YtpfjnnkjoabgbaaGreatDoor

namespace Go.Proofs.YtpfjnnkjoabgbaaGreatDoor
open Go.RowKit
set_option linter.unusedVariables false
set_option linter.unusedSimpArgs false
def odA (p : Pg) (na : Option Addr) (nc : Nat) (ua : Option Addr) (uc : Nat) (pa : Option Addr) (pc : Nat) (da : Option Addr) (k dc : Nat) : Array Value := #[.slice na p.names.length nc, .slice ua p.curs.length uc, .slice pa p.pool.length pc, .int .i64 p.hor, .int .i64 p.cells, .int .i64 p.slots, .int .i64 p.stack, .slice da k dc]
/-- The first k days are copied. -/
structure OdL (w : World) (p : Pg) (na : Option Addr) (nc : Nat) (ua : Option Addr) (uc : Nat) (pa : Option Addr) (pc : Nat) (da : Option Addr) (dc : Nat) (segs : List Sg) (k : Nat) (W : World) : Prop where
  s : OdS w p (odA p na nc ua uc pa pc da k dc) W
  names : OwL W w.heap.size 9 1 na p.names.length nc (stV p.names)
  curs : OwL W w.heap.size 9 1 ua p.curs.length uc (stV p.curs)
  pool : OwL W w.heap.size 3 1 pa p.pool.length pc (nuV p.pool)
  days : OwL W w.heap.size 71 2 da k dc (sgV segs)
  len : segs.length = k
  like : ∀ i, i < k → (segs.getD i default).day = (p.days.getD i default).day ∧ (segs.getD i default).code = (p.days.getD i default).code
  new : ∀ i, i < k → OwL W w.heap.size 68 3 (segs.getD i default).ca (segs.getD i default).code.length (segs.getD i default).cc (inW (segs.getD i default).code)
section
variable {w : World} {p : Pg} {na : Option Addr} {nc : Nat} {ua : Option Addr} {uc : Nat} {pa : Option Addr} {pc : Nat} {da : Option Addr} {dc : Nat} {segs : List Sg} {k : Nat} {W : World}
theorem OdL.lat {W' : World} (h : OdL w p na nc ua uc pa pc da dc segs k W) (b : Below W.heap.size W W') : OdL w p na nc ua uc pa pc da dc segs k W' := ⟨h.s.lat b, h.names.lat b, h.curs.lat b, h.pool.lat b, h.days.lat b, h.len, h.like, fun i hi => (h.new i hi).lat b⟩
/-- What is only read: the program's box, the day's segment. -/
def odR (w : World) (p : Pg) (x o k : Nat) (V : World) : Prop := V.cell? ⟨w.heap.size, 7, none⟩ = some (.slice (some ⟨x, o, none⟩) p.days.length p.dc) ∧ V.cell? ⟨x, o + k * 2, none⟩ = some (.int .i64 (p.days.getD k default).day) ∧ V.cell? ⟨x, o + k * 2 + 1, none⟩ = some (.slice (p.days.getD k default).ca (p.days.getD k default).code.length (p.days.getD k default).cc)
theorem odr_of {x o : Nat} (hp : PV w p) (hda : p.da = some ⟨x, o, none⟩) (hx : x < w.heap.size) (hk : k < p.days.length) {arr : Array Value} {V : World} (s : OdS w p arr V) : odR w p x o k V := by
  have R := hp.days.2.2.2.2.later s.bel
  rcases R with z | ⟨x', o', e, _, c⟩
  · omega
  · rw [hda] at e
    injection e with e
    injection e with e1 e2
    subst e1 e2
    have c0 := c k hk 0 (by omega)
    have c1 := c k hk 1 (by omega)
    simp only [Sg.cs, Nat.add_zero, List.getD_cons_zero, List.getD_cons_succ] at c0 c1
    exact ⟨by rw [s.pb.cell, ← hda]; rfl, c0, c1⟩
theorem flatV_snoc (V V' : Nat → List Value) (n : Nat) (h : ∀ i, i < n → V' i = V i) : flatV n V ++ V' n = flatV (n + 1) V' := by
  unfold flatV
  rw [List.range_succ, List.flatMap_append]
  have : (List.range n).flatMap V = (List.range n).flatMap V' := by
    rw [List.flatMap_def, List.flatMap_def]
    congr 1
    exact List.map_congr_left (fun i hi => (h i (List.mem_range.1 hi)).symm)
  rw [this]
  simp
/-- A round. -/
theorem od_round (h : OdL w p na nc ua uc pa pc da dc segs k W) (hp : PV w p) (hk : k < p.days.length) : ∃ x o ca cc w7 da2 dc2 w9, p.da = some ⟨x, o, none⟩ ∧ (∀ ty, (Builtin.append_ #[69, 69] ty #[.slice (some ⟨W.heap.size, 0, none⟩) 0 0, .slice (p.days.getD k default).ca (p.days.getD k default).code.length (p.days.getD k default).cc]).run Tryz.prog (W.drew.alloc (.cells #[] 68)) = .ok (.slice ca (p.days.getD k default).code.length cc) w7) ∧ (∀ ty, (Builtin.append_ #[24, 24] ty #[.slice da k dc, .slice (some ⟨w7.heap.size, 0, none⟩) 1 1]).run Tryz.prog (w7.alloc (.cells #[.int .i64 (p.days.getD k default).day, .slice ca (p.days.getD k default).code.length cc] 71)) = .ok (.slice da2 (k + 1) dc2) w9) ∧ RowKit.Hid (odR w p x o k W ∧ (∀ ob, odR w p x o k (W.drew.alloc ob)) ∧ odR w p x o k w7 ∧ (∀ ob, odR w p x o k (w7.alloc ob)) ∧ odR w p x o k w9 ∧ odR w p x o k (w9.setCell ⟨w.heap.size + 2, 7, none⟩ (.slice da2 (k + 1) dc2))) ∧ W.cell? ⟨w.heap.size + 2, 7, none⟩ = some (.slice da k dc) ∧ (∀ ob, (W.drew.alloc ob).cell? ⟨w.heap.size + 2, 7, none⟩ = some (.slice da k dc)) ∧ w7.cell? ⟨w.heap.size + 2, 7, none⟩ = some (.slice da k dc) ∧ (∀ ob, (w7.alloc ob).cell? ⟨w.heap.size + 2, 7, none⟩ = some (.slice da k dc)) ∧ w9.cell? ⟨w.heap.size + 2, 7, none⟩ = some (.slice da k dc) ∧ w9.frozen? ⟨w.heap.size + 2, 7, none⟩ = false ∧ RowKit.Hid (∃ segs', OdL w p na nc ua uc pa pc da2 dc2 segs' (k + 1) (w9.setCell ⟨w.heap.size + 2, 7, none⟩ (.slice da2 (k + 1) dc2))) := by
  obtain ⟨x, o, hda, hx, _⟩ := hp.days.2.2.2.2.oneP (by omega)
  have g0 := hp.days.2.2.2.1 _ (sg_mem hk)
  have d0 := h.lat (drew1 W)
  obtain ⟨ca, cc, w7, r7, o7, b7⟩ := fresh_in (W := W.drew) (B := w.heap.size) d0.s.bel.size (g0.2.later d0.s.bel)
  have d7 := d0.lat b7
  have a8 := allocBP w7 (.cells #[.int .i64 (p.days.getD k default).day, .slice ca (p.days.getD k default).code.length cc] 71)
  have d8 := d7.lat a8
  obtain ⟨i0, hi, hz0, hz1, hz2⟩ := info_parts infoSg
  have nd := hp.days.2.2.1
  obtain ⟨da2, dc2, w9, r9, o9, g9, _⟩ := run_rowapp (V := fun _ => [.int .i64 (p.days.getD k default).day, .slice ca (p.days.getD k default).code.length cc]) Tryz.underlying24 hi hz0 hz1 hz2 rfl (by omega) d8.days (a := some ⟨w7.heap.size, 0, none⟩) (n := 1) (c := 1) ⟨fun z => (by cases z), Nat.le_refl _, by unfold maxLen; omega⟩ (.inr ⟨w7.heap.size, 0, rfl, by simp, fun i hi j hj => by
    have i0 : i = 0 := by omega
    subst i0
    have := heapN w7 (.cells #[.int .i64 (p.days.getD k default).day, .slice ca (p.days.getD k default).code.length cc] 71)
    have bk : BkP (w7.alloc (.cells #[.int .i64 (p.days.getD k default).day, .slice ca (p.days.getD k default).code.length cc] 71)) w7.heap.size _ _ := this
    rw [bk.cell]
    rcases (show j = 0 ∨ j = 1 by omega) with rfl | rfl <;> rfl⟩) (fun _ => rfl) (fun i u hu => by simp at hu; rcases hu with rfl | rfl <;> rfl) (by unfold maxLen; omega) (by omega) d8.s.bel.size
  have kp : Kp (w7.alloc (.cells #[.int .i64 (p.days.getD k default).day, .slice ca (p.days.getD k default).code.length cc] 71)) w9 (fun y => Value.ownBlock (.slice da k dc) = some y) := ⟨g9.os, g9.tape, g9.output, g9.size, fun y hy hn => g9.block y hy (fun z => hn z.symm)⟩
  have fb : ∀ y, Value.ownBlock (.slice da k dc) = some y → w.heap.size ≤ y ∧ ∃ c u f, (w7.alloc (.cells #[.int .i64 (p.days.getD k default).day, .slice ca (p.days.getD k default).code.length cc] 71)).heap[y]? = some (.cells c u f) ∧ u = 71 := by
    intro y hy
    refine ⟨(World.ownsRow.lt d8.days y hy).1, ?_⟩
    rcases d8.days.2 with ⟨z, _⟩ | ⟨g2, cap, cur, z, _, e3, _⟩
    · rw [z] at hy; cases hy
    · rw [z] at hy
      simp only [Value.ownBlock, Option.some.injEq] at hy
      subst hy
      exact ⟨cur, _, _, e3, rfl⟩
  have nt : ∀ t, t ≠ 71 → ∀ y, Value.ownBlock (.slice da k dc) = some y → ∃ c u f, (w7.alloc (.cells #[.int .i64 (p.days.getD k default).day, .slice ca (p.days.getD k default).code.length cc] 71)).heap[y]? = some (.cells c u f) ∧ u ≠ t := by
    intro t ht y hy
    obtain ⟨_, c, u, f, e, rfl⟩ := fb y hy
    exact ⟨c, _, f, e, Ne.symm ht⟩
  have kb : ∀ {b : Nat} {arr : Array Value} {t : TypeId}, BkP (w7.alloc (.cells #[.int .i64 (p.days.getD k default).day, .slice ca (p.days.getD k default).code.length cc] 71)) b arr t → t ≠ 71 → BkP w9 b arr t := fun hb ht => (keep_ty kp hb (nt _ ht)).trans hb
  have ko : ∀ {t : TypeId} {kk : Nat} {a : Option Addr} {n c : Nat} {U : Nat → List Value}, OwL (w7.alloc (.cells #[.int .i64 (p.days.getD k default).day, .slice ca (p.days.getD k default).code.length cc] 71)) w.heap.size t kk a n c U → t ≠ 71 → OwL w9 w.heap.size t kk a n c U := by
    intro t kk a n c U hO ht
    refine own_blkG hO (fun g hg => ?_)
    rcases hO.2 with ⟨z, _⟩ | ⟨g2, cap, cur, z, _, e3, _⟩
    · rw [z] at hg; cases hg
    · rw [z] at hg
      simp only [Value.ownBlock, Option.some.injEq] at hg
      subst hg
      exact keep_ty kp e3 (nt _ ht)
  have s9 : OdS w p (odA p na nc ua uc pa pc da k dc) w9 := ⟨d8.s.bel.trans (kp.bel (fun y hy => (fb y hy).1) d8.s.bel.size), kb d8.s.pb (by decide), kb d8.s.zb (by decide), kb d8.s.qb (by decide), Nat.le_trans d8.s.sz g9.size⟩
  have s10 := s9.set 7 (.slice da2 (k + 1) dc2) (by simp [odA])
  have q7 : ∀ {V : World}, OdS w p (odA p na nc ua uc pa pc da k dc) V → V.cell? ⟨w.heap.size + 2, 7, none⟩ = some (.slice da k dc) := fun s => by rw [s.qb.cell]; rfl
  refine ⟨x, o, ca, cc, w7, da2, dc2, w9, hda, r7, r9, ⟨odr_of hp hda hx hk h.s, fun ob => odr_of hp hda hx hk (d0.s.lat (allocBP _ ob)), odr_of hp hda hx hk d7.s, fun ob => odr_of hp hda hx hk (d7.s.lat (allocBP _ ob)), odr_of hp hda hx hk s9, odr_of hp hda hx hk s10⟩, q7 h.s, fun ob => q7 (d0.s.lat (allocBP _ ob)), q7 d7.s, fun ob => q7 (d7.s.lat (allocBP _ ob)), q7 s9, s9.qb.frozen 7, segs ++ [⟨(p.days.getD k default).day, ca, cc, (p.days.getD k default).code⟩], ?_⟩
  have hl := h.len
  have gl : ∀ i, i < k → (segs ++ [(⟨(p.days.getD k default).day, ca, cc, (p.days.getD k default).code⟩ : Sg)]).getD i default = segs.getD i default := fun i hi => getD_snoc_lt (by omega)
  have gk : (segs ++ [(⟨(p.days.getD k default).day, ca, cc, (p.days.getD k default).code⟩ : Sg)]).getD k default = ⟨(p.days.getD k default).day, ca, cc, (p.days.getD k default).code⟩ := by rw [← hl]; exact getD_snoc_eq
  have o9' : OwL w9 w.heap.size 71 2 da2 (k + 1) dc2 (sgV (segs ++ [(⟨(p.days.getD k default).day, ca, cc, (p.days.getD k default).code⟩ : Sg)])) := by
    unfold OwL
    have e1 := flatV_snoc (sgV segs) (sgV (segs ++ [(⟨(p.days.getD k default).day, ca, cc, (p.days.getD k default).code⟩ : Sg)])) k (fun i hi => by unfold sgV; rw [gl i hi])
    have e2 : sgV (segs ++ [(⟨(p.days.getD k default).day, ca, cc, (p.days.getD k default).code⟩ : Sg)]) k = flatV 1 (fun _ => [Value.int .i64 (p.days.getD k default).day, .slice ca (p.days.getD k default).code.length cc]) := by
      unfold sgV
      rw [gk]
      rfl
    rw [e2] at e1
    rw [← e1]
    exact o9
  refine ⟨by simpa [odA] using s10, (ko d8.names (by decide)).setQ s9 (by decide) _ _, (ko d8.curs (by decide)).setQ s9 (by decide) _ _, (ko d8.pool (by decide)).setQ s9 (by decide) _ _, o9'.setQ s9 (by decide) _ _, by simp [hl], ?_, ?_⟩
  · intro i hi
    by_cases z : i = k
    · subst z; rw [gk]; exact ⟨rfl, rfl⟩
    · rw [gl i (by omega)]; exact h.like i (by omega)
  · intro i hi
    by_cases z : i = k
    · subst z; rw [gk]; exact (ko (o7.lat a8) (by decide)).setQ s9 (by decide) _ _
    · rw [gl i (by omega)]; exact (ko (d8.new i (by omega)) (by decide)).setQ s9 (by decide) _ _
end
end Go.Proofs.YtpfjnnkjoabgbaaGreatDoor
