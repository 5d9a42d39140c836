import Derived.Test.YthhacbelbkkcmaaXAA
import Derived.Test.YthhacbelbkkcmaaXAS
import Derived.Test.YthhacbelbkkcmaaXAC
import Derived.Test.YthhacbelbkkcmaaXAG
import Derived.Deep.AppendLies
import Derived.Test.YthhacbelbkkcmaaXAJ
namespace Go.Proofs.Ythhacbelbkkcmaa
open Go.RowKit
set_option linter.unusedVariables false
set_option linter.unusedSimpArgs false

theorem infoTH : (Try.prog.info? 57).map (fun i => (i.zero, i.size, i.bytes)) = some (some (.agg #[.string ⟨#[]⟩, .int .i64 0]), 2, 24) := by kernel_rfl

/-- The box of hold's answer. -/
def BoxH (w W : World) : Prop := W.heap[w.heap.size]? = some (.cells #[.slice none 0 0, .slice none 0 0, .int .i64 0] 35 (0, 0))
theorem boxH_new (w : World) : BoxH w (w.alloc (.cells #[.slice none 0 0, .slice none 0 0, .int .i64 0] 35)) := by
  unfold BoxH
  show (w.heap.push _)[w.heap.size]? = _
  simp
theorem boxH_alloc {w W : World} (h : BoxH w W) (o : Obj) : BoxH w (W.alloc o) := (Below.heap_alloc W o _ (Array.getElem?_eq_some_iff.1 h).1).trans h
theorem boxH_grown {w W W' : World} {row : Option Nat} (h : BoxH w W) (hg : W.grownBy W' row) (hne : row ≠ some w.heap.size) : BoxH w W' := (hg.block _ (Array.getElem?_eq_some_iff.1 h).1 (fun e => hne e.symm)).trans h
theorem _root_.Go.RowKit.Below.block_set {B : Nat} {A W : World} (_ : Below B A W) {k : Nat} (p : Addr) (hp : p.block ≠ k) (v : Value) : (W.setCell p v).heap[k]? = W.heap[k]? := by
  have hp' : ¬ p.block = k := hp
  simp [World.setCell, Array.getElem?_modify, hp']
theorem boxH_set {w W : World} (h : BoxH w W) (p : Addr) (hp : p.block ≠ w.heap.size) (v : Value) : BoxH w (W.setCell p v) := by
  exact (((Below.refl (w.heap.size + 1) W)).block_set p hp v).trans h
theorem boxH_cells {w W : World} (h : BoxH w W) : W.cell? ⟨w.heap.size, 0, none⟩ = some (.slice none 0 0) ∧ W.cell? ⟨w.heap.size, 1, none⟩ = some (.slice none 0 0) ∧ W.cell? ⟨w.heap.size, 2, none⟩ = some (.int .i64 0) ∧
    W.frozen? ⟨w.heap.size, 0, none⟩ = false ∧ W.frozen? ⟨w.heap.size, 1, none⟩ = false ∧ W.frozen? ⟨w.heap.size, 2, none⟩ = false := by
  unfold BoxH at h
  refine ⟨?_, ?_, ?_, ?_, ?_, ?_⟩ <;> simp [World.cell?, World.frozen?, h]

end Go.Proofs.Ythhacbelbkkcmaa

namespace Go.Proofs.Ythhacbelbkkcmaa
open Go.RowKit
set_option linter.unusedVariables false
set_option linter.unusedSimpArgs false

theorem rf_flM {w : World} {g n : Nat} {fs : List Fl} {x y z : Fl} (h : Rf w g (fs ++ [x, y, z])) (hl : fs.length = n) (hn : n ≤ 4398046511000) : FL w (some ⟨g, 0, none⟩) n fs := by
  refine ⟨hl, hn, .inr ⟨g, 0, rfl, h.lt, fun i hi => ?_⟩⟩
  have := h.fc i (by simp; omega)
  rw [show (fs ++ [x, y, z]).getD i default = fs.getD i default by rw [List.getD_eq_getElem?_getD, List.getElem?_append_left (by omega), ← List.getD_eq_getElem?_getD]] at this
  rw [Nat.zero_add]
  exact this
theorem Rf.kept {w w' : World} {g : Nat} {gs : List Fl} {row : Option Nat} (h : Rf w g gs) (hg : w.grownBy w' row) (hne : some g ≠ row) : Rf w' g gs := World.ownsRow.kept h hg (.inr hne)
theorem Rf.later {w w' : World} {g : Nat} {gs : List Fl} (h : Rf w g gs) (b : Below w.heap.size w w') : Rf w' g gs := World.ownsRow.kept h (⟨b.os, b.tape, b.output, b.size, fun k hk _ => b.block k hk⟩ : w.grownBy w' none) (Classical.em _)
abbrev mks (l : List Fl) : List Fl := l ++ [mkFl l.length, mkFl (l.length + 1), mkFl (l.length + 2)]
/-- A room of the lists that are handed in. -/
def Rm (wr : World) (B : Nat) (l : List Fl) (h n : Option Value) : Prop := ∃ g, h = some (.slice (some ⟨g, 0, none⟩) (l.length + 3) (l.length + 3)) ∧ n = some (.slice (some ⟨g, 0, none⟩) l.length (l.length + 3)) ∧ B ≤ g ∧ Rf wr g (mks l)
structure FMg (w wr : World) (ih iN : Nat) (hv nv : Value) (hs ns : List Value) (Ls : List (List Fl)) : Prop where
  bel : Below w.heap.size w wr
  hl : hs.length = ih
  nl : ns.length = iN
  oh : wr.ownsRow w.heap.size 24 1 hv hs.length hs
  on : wr.ownsRow w.heap.size 24 1 nv ns.length ns
  ap : hv.ownBlock = none ∨ hv.ownBlock ≠ nv.ownBlock
  rm : ∀ j, j < iN → Rm wr w.heap.size (Ls.getD j []) hs[j]? ns[j]?
theorem FMg.later {w wr w2 : World} {ih iN : Nat} {hv nv : Value} {hs ns : List Value} {Ls : List (List Fl)} (h : FMg w wr ih iN hv nv hs ns Ls) (b : Below wr.heap.size wr w2) : FMg w w2 ih iN hv nv hs ns Ls := by
  have g : wr.grownBy w2 none := ⟨b.os, b.tape, b.output, b.size, fun k hk _ => b.block k hk⟩
  refine ⟨h.bel.trans (b.mono h.bel.size), h.hl, h.nl, World.ownsRow.kept h.oh g (Classical.em _), World.ownsRow.kept h.on g (Classical.em _), h.ap, fun j hj => ?_⟩
  obtain ⟨g, r1, r2, r3, r4⟩ := h.rm j hj
  exact ⟨g, r1, r2, r3, r4.later b⟩
theorem FMg.start (w : World) (Ls : List (List Fl)) : FMg w w 0 0 (.slice none 0 0) (.slice none 0 0) [] [] Ls :=
  ⟨Below.refl _ _, rfl, rfl, World.ownsRow_nil _ _ _ _, World.ownsRow_nil _ _ _ _, .inl rfl, fun j hj => by omega⟩
/-- What both answer. -/
def Mq (Ls : List (List Fl)) (T : List Fl) (q : Int) : Prop := ((∃ l ∈ Ls, srtB l = false) ∧ T = [] ∧ q = 1) ∨ ((∀ l ∈ Ls, srtB l = true) ∧ q = 0 ∧ Srt T ∧ ∀ D, onDay D T = Ls.flatMap (onDay D))
theorem Mq.one {Ls : List (List Fl)} {T T' : List Fl} {q q' : Int} (h : Mq Ls T q) (h' : Mq Ls T' q') : T' = T ∧ q' = q := by
  rcases h with ⟨⟨l, hl, hf⟩, h2, h3⟩ | ⟨h1, h2, h3, h4⟩ <;> rcases h' with ⟨⟨l', hl', hf'⟩, k2, k3⟩ | ⟨k1, k2, k3, k4⟩
  · exact ⟨by rw [h2, k2], by rw [h3, k3]⟩
  · have := k1 l hl; rw [hf] at this; cases this
  · have := h1 l' hl'; rw [hf'] at this; cases this
  · exact ⟨srt_only k3 h3 (fun D => by rw [k4 D, h4 D]), by rw [h2, k2]⟩
theorem mergeM (a : Option Addr) (n cap : Nat) (Ls : List (List Fl)) (w : World) (h : LL w a n Ls) (ht : ltot Ls ≤ 1048576) :
    Calls Try.prog 17 #[.slice a n cap] w fun e w' => ∃ T v q, e = .returned (.tuple #[v, .int .i64 q]) ∧ Below w.heap.size w w' ∧ OV w' w.heap.size v T ∧ Mq Ls T q ∧ T.length ≤ 1048576 := by
  refine (merge_own a n cap Ls w h ht).mono ?_
  rintro e w' ⟨hb, ⟨h1, rfl⟩ | ⟨h1, T, v, rfl, h3, h4⟩⟩
  · exact ⟨[], _, _, rfl, hb, World.ownsRow_nil _ _ _ _, .inl ⟨h1, rfl, rfl⟩, by simp⟩
  · exact ⟨T, v, _, rfl, hb, h3, .inr ⟨h1, rfl, h4.srt, h4.day⟩, by have := h4.len; omega⟩
theorem rmergeM (a : Option Addr) (n cap : Nat) (Ls : List (List Fl)) (w : World) (h : LL w a n Ls) (ht : ltot Ls ≤ 1048576) :
    Calls Try.prog 18 #[.slice a n cap] w fun e w' => ∃ T v q, e = .returned (.tuple #[v, .int .i64 q]) ∧ Below w.heap.size w w' ∧ SV w' v T ∧ Mq Ls T q := by
  refine (rmerge_any a n cap Ls w h ht).mono ?_
  rintro e w' ⟨hb, ⟨h1, rfl⟩ | ⟨h1, T, v, rfl, h3, h4, h5, _⟩⟩
  · exact ⟨[], _, _, rfl, hb, ⟨none, 0, rfl, ⟨rfl, by simp, .inl rfl⟩, fun _ => rfl, by simp⟩, .inl ⟨h1, rfl, rfl⟩⟩
  · exact ⟨T, v, _, rfl, hb, h3, .inr ⟨h1, rfl, h4, h5⟩⟩
end Go.Proofs.Ythhacbelbkkcmaa

namespace Go.Proofs.Ythhacbelbkkcmaa
open Go.RowKit
set_option linter.unusedVariables false
set_option linter.unusedSimpArgs false

/-- Where the list is cut. -/
def cutM (N : Int) (n : Nat) : Nat := if 0 < N ∧ 0 < n then (N % ((n : Int) + 1)).toNat else 0
theorem cutM_le (N : Int) (n : Nat) : cutM N n ≤ n := by
  unfold cutM
  split
  · have := Int.emod_lt_of_pos N (show (0 : Int) < (n : Int) + 1 by omega)
    have := Int.emod_nonneg N (show ((n : Int) + 1) ≠ 0 by omega)
    omega
  · omega
theorem fl_take {w : World} {a : Option Addr} {n m : Nat} {fs : List Fl} (h : FL w a n fs) (hm : m ≤ n) : FL w a m (fs.take m) := by
  obtain ⟨h1, h2, h3⟩ := h
  refine ⟨by rw [List.length_take]; omega, by omega, ?_⟩
  rcases h3 with h3 | ⟨b, o, rfl, hb, hc⟩
  · exact .inl (by omega)
  · refine .inr ⟨b, o, rfl, hb, fun i hi => ?_⟩
    have e : (fs.take m).getD i default = fs.getD i default := by simp [List.getD, List.getElem?_take, hi]
    rw [e]
    exact hc i (by omega)
def adM (a : Option Addr) (cap m : Nat) : Option Addr := if cap = m then a else a.map fun x => x.add (m * 3)
theorem fl_dropE {w : World} {a : Option Addr} {n cap m : Nat} {fs : List Fl} (h : FL w a n fs) (hm : m ≤ n) (hc : n ≤ cap) : FL w (adM a cap m) (n - m) (fs.drop m) := by
  obtain ⟨h1, h2, h3⟩ := h
  refine ⟨by rw [List.length_drop]; omega, by omega, ?_⟩
  unfold adM
  by_cases q : cap = m
  · exact .inl (by omega)
  · rw [if_neg q]
    rcases h3 with h3 | ⟨b, o, rfl, hb, hc⟩
    · exact .inl (by omega)
    · refine .inr ⟨b, o + m * 3, by simp [Addr.add], hb, fun i hi => ?_⟩
      have e : (fs.drop m).getD i default = fs.getD (m + i) default := by simp [List.getD, List.getElem?_drop]
      rw [e, show o + m * 3 + i * 3 = o + (m + i) * 3 by omega]
      exact hc (m + i) (by omega)
theorem sv_take {w : World} {a : Option Addr} {n cap m : Nat} {fs : List Fl} (h : FL w a n fs) (hm : m ≤ n) (hc : n ≤ cap) (nc : a = none → cap = 0) : SV w (.slice a m cap) (fs.take m) := by
  have f := fl_take h hm
  have e := f.1
  exact ⟨a, cap, by rw [e], by rw [e]; exact f, nc, by omega⟩
theorem sv_drop {w : World} {a : Option Addr} {n cap m : Nat} {fs : List Fl} (h : FL w a n fs) (hm : m ≤ n) (hc : n ≤ cap) (nc : a = none → cap = 0) : SV w (.slice (adM a cap m) (n - m) (cap - m)) (fs.drop m) := by
  have f := fl_dropE h hm hc
  have e := f.1
  refine ⟨adM a cap m, cap - m, by rw [e], by rw [e]; exact f, fun q => ?_, by omega⟩
  unfold adM at q
  split at q
  · omega
  · have : a = none := by cases a <;> simp_all
    have := nc this
    omega
theorem ll_two {W : World} {u v : Value} {A B : List Fl} (h : SV W u A) (k : SV W v B) : LL (W.alloc (.cells #[u, v] 24)) (some ⟨W.heap.size, 0, none⟩) 2 [A, B] := by
  have b := al_bel W (.cells #[u, v] 24)
  refine ⟨rfl, by omega, .inr ⟨W.heap.size, 0, rfl, by simp, fun i hi => ?_⟩⟩
  have hb := World.alloc_heap_new W (.cells #[u, v] 24)
  match i, hi with
  | 0, _ => exact ⟨u, by unfold World.cell?; simp only [hb]; rfl, h.later b⟩
  | 1, _ => exact ⟨v, by unfold World.cell?; simp only [hb]; rfl, k.later b⟩
theorem sv_own {W : World} {B : Nat} {v : Value} {fs : List Fl} (h : OwnF W B v fs) (hl : fs.length ≤ 4398046511000) : SV W v fs := by
  obtain ⟨a, c, rfl, f⟩ := fl_of_own h hl
  refine ⟨a, c, rfl, f, ?_, ?_⟩
  · intro e
    rcases h.2 with ⟨q, _⟩ | ⟨g, cap, cur, q, _⟩
    · injection q
    · injection q with q; rw [e] at q; cases q
  · rcases h.2 with ⟨q, q2⟩ | ⟨g, cap, cur, q, _, _, k, _⟩
    · omega
    · injection q with _ _ q; omega
theorem sl_to (a : Option Addr) (n cap m : Nat) (h : m ≤ n) (hc : n ≤ cap) (W : World) : (Instr.slice 24 (.slice a n cap) none (some (.int .i64 (m : Int))) none).run Try.prog W = .ok (.slice a m cap) W := by
  have k1 : (m : Int) ≤ (cap : Int) := by omega
  go_simp
  done
theorem sl_from (a : Option Addr) (n cap m : Nat) (h : m ≤ n) (hc : n ≤ cap) (W : World) : (Instr.slice 24 (.slice a n cap) (some (.int .i64 (m : Int))) none none).run Try.prog W = .ok (.slice (adM a cap m) (n - m) (cap - m)) W := by
  have k1 : (m : Int) ≤ (n : Int) := by omega
  unfold adM
  go_simp
  done
set_option maxRecDepth 100000 in
set_option maxHeartbeats 8000000 in
theorem answer_merge (a : Option Addr) (n cap : Nat) (N : Int) (fs : List Fl) (w : World) (h : AqF w a n cap fs) (hc : n ≤ cap) (hn : n ≤ 1048576) (hN : N ≤ 9223372036854775807) :
    Calls Try.prog 6 #[.agg #[.int .i64 3, .slice a n cap, .int .i64 N]] w fun e w' => AnsE w (fun gs ts => (∃ q, Mq [fs.take (cutM N n), fs.drop (cutM N n)] gs q) ∧ ts = []) e w' := by
  have hl := h.fl.1
  have H := Lib.hid h
  have A0 := Lib.hid (al_bel w (aqb 3 a n cap N))
  have CE := Lib.hid (fun W (b : Below (w.alloc (aqb 3 a n cap N)).heap.size (w.alloc (aqb 3 a n cap N)) W) => aq_box b)
  obtain ⟨m, hm⟩ : ∃ m, cutM N n = m := ⟨_, rfl⟩
  have ml : m ≤ n := by rw [← hm]; exact cutM_le N n
  have HM := Lib.hid hm
  simp only [hm]
  have s1 := sl_to a n cap m ml hc
  have s2 := sl_from a n cap m ml hc
  have LT : ltot [fs.take m, fs.drop m] ≤ 1048576 := by unfold ltot; simp; omega
  have K1 := Lib.hid (fun W (q : FL W a n fs) => mergeM (some ⟨W.heap.size, 0, none⟩) 2 2 [fs.take m, fs.drop m] _ (ll_two (sv_take q ml hc h.nc) (sv_drop q ml hc h.nc)) LT)
  have KW1 := Lib.hid (fun W (q : FL W a n fs) => twin_any a m cap (fs.take m) W (fl_take q ml) h.nc)
  have KW2 := Lib.hid (fun W (q : FL W a n fs) => twin_any (adM a cap m) (n - m) (cap - m) (fs.drop m) W (fl_dropE q ml hc) (fun e => by
    obtain ⟨x, c, e1, _, e2, _⟩ := sv_drop q ml hc h.nc
    injection e1 with e1 _ e3
    have := e2 (e1 ▸ e)
    omega))
  have K2 := Lib.hid (fun W (u v : Value) (p : SV W u (fs.take m)) (q : SV W v (fs.drop m)) => rmergeM (some ⟨W.heap.size, 0, none⟩) 2 2 [fs.take m, fs.drop m] _ (ll_two p q) LT)
  have KS := Lib.hid (fun A B n C D fs W (h : FL W A n fs) (h' : FL W B n fs) => same_fl A B n C D fs W h h')
  obtain ⟨c0, c1, c2⟩ := CE.out _ (Below.refl _ _)
  unfold aqb at c0 c1 c2 A0 CE
  have L1 := Lib.hid (p := (fs.take m).length ≤ 4398046511000 ∧ (fs.drop m).length ≤ 4398046511000) (by rw [List.length_take, List.length_drop]; omega)
  have LE := Lib.hid (p := (fs.take m).length = m ∧ (fs.drop m).length = n - m) (by rw [List.length_take, List.length_drop]; omega)
  clear h hm
  go_enter Try.func6, Try.ntmps6
  go_upto_region 12 with fail
  obtain ⟨W0, hW0⟩ : ∃ y, w.alloc (.cells #[.int .i64 3, .slice a n cap, .int .i64 N] 27) = y := ⟨_, rfl⟩
  rw [hW0] at c0 c1 c2 A0 CE
  rw [hW0]
  clear hW0
  obtain ⟨B, hB⟩ : ∃ B : Bool, decide (0 < N ∧ 0 < n) = B := ⟨_, rfl⟩
  go_cut [87] (fun v wx => v = .bool B ∧ W0 = wx)
  case first =>
    by_cases q1 : 0 < N
    · by_cases q2 : 0 < n
      · obtain rfl : B = true := by rw [← hB]; simp [q1, q2]
        have q3 : (0 : Int) < (n : Int) := by omega
        clear hB
        go_wp2
        go_meet
        case rel => exact ⟨by first | rfl | simp [q1, q3], rfl⟩
      · obtain rfl : B = false := by rw [← hB]; simp [q2]
        have q3 : ¬ (0 : Int) < (n : Int) := by omega
        clear hB
        go_wp2
        go_meet
        case rel => exact ⟨by first | rfl | simp [q1, q3], rfl⟩
    · obtain rfl : B = false := by rw [← hB]; simp [q1]
      clear hB
      go_wp2
      go_meet
      case rel => exact ⟨by first | rfl | simp [q1], rfl⟩
  case rest =>
    obtain ⟨rfl, rfl⟩ := hcut
    go_upto_if 87 with fail
    go_cut [13] (fun v wx => v = .int .i64 (m : Int) ∧ W0 = wx)
    case first =>
      cases B with
      | true =>
        obtain ⟨q1, q2⟩ := of_decide_eq_true hB
        have kw : IntKind.i64.wrap ((n : Int) + 1) = (n : Int) + 1 := by simp [IntKind.wrap, IntKind.bits, IntKind.signed]; omega
        have nz : ¬ (n : Int) + 1 = 0 := by omega
        have MV := Lib.hid (p := N % ((n : Int) + 1) = (m : Int)) (by
          have e := HM.out
          unfold cutM at e
          rw [if_pos ⟨q1, q2⟩] at e
          have := Int.emod_nonneg N (show ((n : Int) + 1) ≠ 0 by omega)
          omega)
        clear hB
        go_wp2
        go_meet
        case rel => exact ⟨by simp; exact MV.out, rfl⟩
      | false =>
        have e : m = 0 := by
          have e := HM.out
          unfold cutM at e
          rw [if_neg (of_decide_eq_false hB)] at e
          exact e.symm
        clear hB
        go_wp2
        go_meet
        case rel => exact ⟨by rw [e]; rfl, rfl⟩
    case rest =>
      obtain ⟨rfl, rfl⟩ := hcut
      clear hB
      go_upto_region 14 with fail
      go_region_held3 (fun w' => w'.cell? ⟨w.heap.size, 1, none⟩ = some (.slice a n cap)) (first | exact c1 | exact (CE.out _ (al_bel W0 _).drew).2.1 | exact (CE.out _ B2.out).2.1) (first
        | (go_at_call 17; refine (K1.out W0.drew (H.out.fl.later A0.out.drew)).mono ?_; rintro e w2 ⟨T, v, q, rfl, h1, h2, h3, h4⟩; have B2 := Lib.hid (p := Below W0.heap.size W0 w2) ((al_bel W0 _).drew.trans (Below.mono h1 (al_bel W0 _).drew.size)); have O2 := Lib.hid (p := OwnF w2 W0.heap.size v T) (own_monoF h2 (al_bel W0 _).drew.size); have M2 := Lib.hid h3; have T2 := Lib.hid h4; clear h1 h2 h3 h4))
      obtain ⟨A2, C2, hv2, hF2⟩ := fl_of_own O2.out (by have := T2.out; omega)
      subst hv2
      have F2 := Lib.hid hF2
      clear hF2
      obtain ⟨d0, d1, d2⟩ := CE.out _ B2.out
      have BD := Lib.hid (p := Below w2.heap.size w2 w2.drew) (Below.refl _ w2).drew
      go_upto_region 15 with fail
      go_region_held3 (fun w' => w'.cell? ⟨w.heap.size, 1, none⟩ = some (.slice a n cap)) (first | exact d1 | exact (CE.out _ B3.out).2.1 | exact (CE.out _ B4.out).2.1 | exact (CE.out _ (B4.out.trans ((al_bel w4 _).mono B4.out.size))).2.1 | exact (CE.out _ B5.out).2.1) (first
        | (go_at_call 4; refine (KW1.out w2.drew (H.out.fl.later (A0.out.trans (B2.out.drew.mono A0.out.size)))).mono ?_; rintro e w3 ⟨v3, rfl, h1, h2⟩; have X3 := Lib.hid h1; have B3 := Lib.hid (p := Below W0.heap.size W0 w3) (B2.out.drew.trans (h1.mono B2.out.drew.size)); obtain ⟨A3, C3, hv3, _⟩ := fl_of_own h2 L1.out.1; rw [LE.out.1] at hv3; subst hv3; have O3 := Lib.hid h2; clear h1 h2)
        | (go_at_call 4; refine (KW2.out w3 (H.out.fl.later (A0.out.trans (B3.out.mono A0.out.size)))).mono ?_; rintro e w4 ⟨v4, rfl, h1, h2⟩; have B4 := Lib.hid (p := Below W0.heap.size W0 w4) (B3.out.trans (h1.mono B3.out.size)); obtain ⟨A4, C4, hv4, _⟩ := fl_of_own h2 L1.out.2; rw [LE.out.2] at hv4; subst hv4; have O4 := Lib.hid (sv_own h2 L1.out.2); have O5 := Lib.hid (sv_own (ownF_later O3.out h1) L1.out.1); have X4 := Lib.hid h1; clear h1 h2)
        | (go_at_call 18; refine (K2.out w4 _ _ O5.out O4.out).mono ?_; rintro e w5 ⟨T5, v5, q5, rfl, h1, h2, h3⟩; obtain ⟨rfl, rfl⟩ := Mq.one M2.out h3; have B5 := Lib.hid (p := Below W0.heap.size W0 w5) (B4.out.trans (((al_bel w4 _).trans (h1.mono (al_bel w4 _).size)).mono B4.out.size)); have Y5 := Lib.hid (p := Below w2.heap.size w2 w5) (BD.out.trans ((X3.out.trans ((X4.out.trans (((al_bel w4 _).trans (h1.mono (al_bel w4 _).size)).mono X4.out.size)).mono X3.out.size)).mono BD.out.size)); obtain ⟨A5, C5, rfl, hF5, _⟩ := h2; have F5 := Lib.hid hF5; clear h1 h3 hF5))
      go_wp2_with (go_at_call 7; refine (KS.out _ _ _ _ _ _ _ (F2.out.later Y5.out) F5.out).mono ?_; rintro e w6 ⟨rfl, h1⟩; have B6 := Lib.hid (B5.out.trans (h1.mono B5.out.size)); have Y6 := Lib.hid (Y5.out.trans (h1.mono Y5.out.size)); clear h1)
      refine bodyPost_ret (v := .tuple #[.slice A2 T5.length C2, .slice none 0 0, .bool true]) (by simp [results, Try.results6, go_sem]) rfl ?_
      exact ⟨_, _, T5, [], rfl, ⟨⟨_, M2.out⟩, rfl⟩, own_monoF (ownF_later O2.out Y6.out) A0.out.size, World.ownsRow_nil _ _ _ _, by have := T2.out; omega, by simp, A0.out.trans (B6.out.mono A0.out.size)⟩
end Go.Proofs.Ythhacbelbkkcmaa
