import Derived.Test.YthhacbelbkkcmaaXAI
import Derived.Test.YthhacbelbkkcmaaXAD
import Derived.Test.YthhacbelbkkcmaaXAC
import Derived.Test.YthhacbelbkkcmaaXAG
import Derived.Deep.RegionHeld3
import Derived.RangeFuncRecord
import Derived.Deep.Cut
import Derived.Deep.CutRange
import Derived.Deep.DeepCutAuto
import Derived.Test.YthhacbelbkkcmaaXAA
namespace Go.Proofs.Ythhacbelbkkcmaa
open Go.RowKit Go.Maps
set_option linter.unusedVariables false
set_option linter.unusedSimpArgs false

set_option maxHeartbeats 2000000 in
set_option maxRecDepth 100000 in
theorem addUpT_none (a : Option Addr) (cap : Nat) (w : World) (hsort : SortsT) :
    Calls Try.prog 31 #[.slice a 0 cap, .func (.func 29) #[] #[], .func (.func 30) #[] #[], .func (.func 32) #[] #[]] w fun e w' => ∃ v ts, e = .returned (.tuple #[v, .int .i64 0]) ∧ Below w.heap.size w w' ∧ ts.Perm [] ∧ ts.Pairwise (fun x y => sLt y.1 x.1 = false) ∧ w'.ownsRow w.heap.size 57 2 v ts.length (tcs ts) := by
  have h1 : ([] : List Fl).length = 0 := rfl
  have h2 : (0 : Nat) ≤ 4398046511000 := by omega
  have HT := Lib.hid (p := tots [] = some []) rfl
  have hmm := @run_makeMap Try.prog
  go_enter Try.func31, Try.ntmps31
  go_wp2
  go_loopw [22] (fun t wr => ∃ k : Nat, ∃ D acc, k ≤ 0 ∧ t = .int .i64 k ∧ wr.ownsMap Try.prog 9 (plainElem Try.prog 3) w.heap.size k D ∧ RowKit.Hid (tots (([] : List Fl).take k) = some acc) ∧ RowKit.Hid (Sums D acc) ∧ Below w.heap.size w wr) (fun t _ => 0 - (intOf t).toNat)
  case atStart => exact ⟨0, _, _, by omega, rfl, World.ownsMap_made _ _ _ _, rfl, sums_none, (Below.refl _ _).alloc (Nat.le_refl _) _⟩
  case round =>
    obtain ⟨k, D, acc, hk, rfl, hown, hT, hS, hB⟩ := hrel
    obtain rfl : k = 0 := by omega
    have hA : acc = [] := by
      have := hT.out
      rw [List.take_nil, HT.out] at this
      injection this with this; exact this.symm
    subst hA
    have HND := Lib.hid (tally_apart (acc := []) List.nodup_nil HT.out)
    have hsl := hown.size_le
    obtain ⟨i0, hi, hz0, hz1, hz2⟩ := info_parts infoT
    have BB := Lib.hid hB
    go_wp2_with (first
      | (at_len; refine wpList_len_own _ rfl _ 90 rfl 9 3 Try.underlying90 _ w.heap.size 0 _ rfl hown ?_)
      | (at_make; refine wpList_make_own _ rfl _ _ 28 rfl w.heap.size 57 i0 (.agg #[.string ⟨#[]⟩, .int .i64 0]) 2 Try.underlying28 hi hz0 hz1 .i64 .i64 _ (Maps.size D) rfl rfl rfl (by rw [hz2]; omega) (by unfold maxLen; omega) BB.out.size ?_; intro w0 hown0 hg0)
      | (at_range; refine wpList_range_own _ rfl _ 90 rfl 9 3 lawS Try.underlying90 _ w.heap.size 0 _ rfl (hown.kept hg0 (by simp)) ?_; intro w1 hrg1 hg1 hs1))
    go_frame
    go_loopw [16] (fun v wr2 => ∃ (left : Lit → Bool) (cnt : Nat) (out : List (ByteArray × Int)), wr2.ranges Try.prog 9 (plainElem Try.prog 3) w.heap.size w0.heap.size 0 D left cnt ∧ wr2.ownsRow w.heap.size 57 2 v out.length (tcs out) ∧ RowKit.Hid (Gath [] left out) ∧ out.length + cnt ≤ Maps.size D ∧ (∃ g cp, v = .slice (some ⟨g, 0, none⟩) out.length cp) ∧ Below w.heap.size w wr2) (fun _ wr2 => wr2.rangeLeft w.heap.size w0.heap.size)
    case atStart => exact ⟨_, _, [], hrg1, hown0.kept hg1 (.inr (by simp [Value.ownBlock])), gath_start hS.out, by simp, ⟨_, _, rfl⟩, (BB.out.grown hg0 BB.out.size (fun j hj => by cases hj)).grown hg1 (Nat.le_trans BB.out.size hg0.size) (fun j hj => by cases hj)⟩
    case round =>
      obtain ⟨left, cnt, out, hrg, hO, hG, hL, ⟨g, cp, rfl⟩, hB2⟩ := hrel
      have hap := row_apart hO hrg
      go_wp2_with (at_next; refine wp_next_s _ rfl _ rfl w.heap.size w0.heap.size 0 _ _ _ rfl hrg ?_ ?_)
      · intro hc0 hl0
        have HP := Lib.hid (gath_end HND.out hG.out hl0)
        have hgB : w.heap.size ≤ g := (hO.lt g rfl).1
        clear hc0 hl0
        go_wp2_with (go_at_call 47; refine (hsort w.heap.size g cp out _ (by omega) hO).mono ?_; rintro e w3 ⟨rfl, ts, hp, hs, hb3, ho3⟩)
        go_ret2
        exact ⟨_, ts, rfl, hB2.trans (hb3 _ hgB hB2.size), hp.trans HP.out, hs, ho3⟩
      · intro x c w2 cnt2 hlx hat hrg2 hlt2 hg2 hs2 hen
        exfalso
        omega
end Go.Proofs.Ythhacbelbkkcmaa

namespace Go.Proofs.Ythhacbelbkkcmaa
open Go.RowKit Go.Maps
set_option linter.unusedVariables false
set_option linter.unusedSimpArgs false

/-- What Totals answers: the sums, ordered, or that one does not fit. -/
def TotA (fs : List Fl) (B : Nat) (v : Value) (q : Int) (w : World) : Prop :=
  (tots fs = none ∧ v = .slice none 0 0 ∧ q = 1) ∨ ∃ A ts, tots fs = some A ∧ q = 0 ∧ ts.Perm A ∧ ts.Pairwise (fun x y => sLt y.1 x.1 = false) ∧ w.ownsRow B 57 2 v ts.length (tcs ts)

theorem addUpT_any (a : Option Addr) (n cap : Nat) (fs : List Fl) (w : World) (h : FL w a n fs) (hw : ∀ i, i < n → inR (fs.getD i default).a ∧ (fs.getD i default).c.size ≤ maxLen) (hsort : SortsT) :
    Calls Try.prog 31 #[.slice a n cap, .func (.func 29) #[] #[], .func (.func 30) #[] #[], .func (.func 32) #[] #[]] w fun e w' => ∃ v q, e = .returned (.tuple #[v, .int .i64 q]) ∧ Below w.heap.size w w' ∧ TotA fs w.heap.size v q w' := by
  obtain ⟨h1, h2, h3⟩ := h
  rcases h3 with h3 | ⟨b, o, rfl, hb, hc⟩
  · subst h3
    have hz : fs = [] := List.length_eq_zero_iff.1 h1
    subst hz
    refine (addUpT_none a cap w hsort).mono ?_
    rintro e w' ⟨v, ts, rfl, hB, hp, hs, ho⟩
    exact ⟨v, 0, rfl, hB, .inr ⟨[], ts, rfl, rfl, hp, hs, ho⟩⟩
  · cases ht : tots fs with
    | none =>
      refine (addUpT_out b o n cap fs w h1 h2 hb hc hw ht).mono ?_
      rintro e w' ⟨rfl, hB⟩
      exact ⟨_, 1, rfl, hB, .inl ⟨ht, rfl, rfl⟩⟩
    | some A =>
      refine (addUpT_fits b o n cap fs w h1 h2 hb hc hw A ht hsort).mono ?_
      rintro e w' ⟨v, ts, rfl, hB, hp, hs, ho⟩
      exact ⟨v, 0, rfl, hB, .inr ⟨A, ts, ht, rfl, hp, hs, ho⟩⟩

theorem totals_any (a : Option Addr) (n cap : Nat) (fs : List Fl) (w : World) (h : FL w a n fs) (hw : ∀ i, i < n → inR (fs.getD i default).a ∧ (fs.getD i default).c.size ≤ maxLen) (hsort : SortsT) :
    Calls Try.prog 15 #[.slice a n cap] w fun e w' => ∃ v q, e = .returned (.tuple #[v, .int .i64 q]) ∧ Below w.heap.size w w' ∧ TotA fs w.heap.size v q w' := by
  have K := addUpT_any a n cap fs w h hw hsort
  clear h hw
  go_enter Try.func15, Try.ntmps15
  go_wp2_with (go_at_call 31; refine K.mono ?_; rintro e w' ⟨v, q, rfl, hB, hT⟩)
  go_ret2
  exact ⟨_, _, rfl, hB, hT⟩
end Go.Proofs.Ythhacbelbkkcmaa

namespace Go.Proofs.Ythhacbelbkkcmaa
open Go.RowKit
set_option linter.unusedVariables false
set_option linter.unusedSimpArgs false

/-- The totals of a list, ordered, and what is told with them. -/
def canT (fs : List Fl) : List (ByteArray × Int) := match tots fs with
  | none => []
  | some A => (exsort fLt (A.map fz)).map tz
def canQ (fs : List Fl) : Int := match tots fs with
  | none => 1
  | some _ => 0
theorem ts_canon {A ts : List (ByteArray × Int)} (hp : ts.Perm A) (hs : ts.Pairwise (fun x y => sLt y.1 x.1 = false)) (nd : (A.map (·.1)).Nodup) : ts = (exsort fLt (A.map fz)).map tz := by
  have nd' : (ts.map (·.1)).Nodup := ((hp.map (·.1)).nodup_iff).2 nd
  have np : ts.Pairwise (fun x y => x.1 ≠ y.1) := List.pairwise_map.1 nd'
  have e : ts.map fz = exsort fLt (A.map fz) := by
    refine exsort_only fLt (fun a b c h1 h2 => fLt_ntrans h2 h1) (fun a b h => fLt_asymm h) (hp.map fz) ?_ (fun a b _ _ h1 h2 => fLt_anti h1 h2)
    rw [List.pairwise_map]
    refine (hs.and np).imp ?_
    rintro x y ⟨h1, h2⟩
    refine decide_eq_false ?_
    rw [cmpF_lt]
    simp [fz, h1]
    intro q
    exact absurd q.symm h2
  rw [← e, List.map_map]
  have : tz ∘ fz = id := by funext x; rfl
  rw [this]; simp
theorem tots_short {fs : List Fl} {A : List (ByteArray × Int)} (h : tots fs = some A) : A.length ≤ fs.length := by
  have := tally_short h
  simpa using this
theorem canT_len {fs : List Fl} {n : Nat} (hl : fs.length = n) : (canT fs).length ≤ n := by
  unfold canT
  split
  · simp
  · rename_i A hA
    rw [List.length_map, (exsort_perm fLt _ _ rfl).length_eq, List.length_map, ← hl]
    exact tots_short hA
theorem totA_can {fs : List Fl} {B : Nat} {v : Value} {q : Int} {w : World} (h : TotA fs B v q w) : q = canQ fs ∧ ∃ a c, v = .slice a (canT fs).length c ∧ TC w a (canT fs) := by
  unfold canT canQ
  rcases h with ⟨h1, rfl, rfl⟩ | ⟨A, ts, h1, rfl, hp, hs, ho⟩
  · rw [h1]; exact ⟨rfl, none, 0, rfl, .inl rfl⟩
  · rw [h1]
    have e := ts_canon hp hs (tally_apart (acc := []) (by simp) h1)
    subst e
    exact ⟨rfl, tc_of_own ho⟩
theorem totR_can {fs : List Fl} {B : Nat} {v : Value} {q : Int} {w : World} (h : TotR fs B v q w) : q = canQ fs ∧ ∃ a c, v = .slice a (canT fs).length c ∧ TC w a (canT fs) := by
  unfold canT canQ
  rcases h with ⟨h1, rfl, rfl⟩ | ⟨A, h1, rfl, ho⟩
  · rw [h1]; exact ⟨rfl, none, 0, rfl, .inl rfl⟩
  · rw [h1]; exact ⟨rfl, tc_of_own ho⟩

end Go.Proofs.Ythhacbelbkkcmaa

namespace Go.Proofs.Ythhacbelbkkcmaa
open Go.RowKit
set_option linter.unusedVariables false
set_option linter.unusedSimpArgs false

/-- A question's list of flows. -/
structure AqF (w : World) (a : Option Addr) (n cap : Nat) (fs : List Fl) : Prop where
  fl : FL w a n fs
  nc : a = none → cap = 0
  hw : ∀ i, i < n → inR (fs.getD i default).a ∧ (fs.getD i default).c.size ≤ maxLen ∧ inR (fs.getD i default).d
theorem AqF.later {w w' : World} {a : Option Addr} {n cap : Nat} {fs : List Fl} (h : AqF w a n cap fs) (b : Below w.heap.size w w') : AqF w' a n cap fs := ⟨h.fl.later b, h.nc, h.hw⟩
/-- What is handed out. -/
structure AnsR (w w' : World) (v t : Value) (gs : List Fl) (ts : List (ByteArray × Int)) : Prop where
  f : w'.ownsRow w.heap.size 40 3 v gs.length (fcs gs)
  t : w'.ownsRow w.heap.size 57 2 t ts.length (tcs ts)
  lf : gs.length ≤ 4398046511000
  lt : ts.length ≤ 4398046511000
  bel : Below w.heap.size w w'
def AnsE (w : World) (P : List Fl → List (ByteArray × Int) → Prop) (e : Ending) (w' : World) : Prop := ∃ v t gs ts, e = .returned (.tuple #[v, t, .bool true]) ∧ P gs ts ∧ AnsR w w' v t gs ts
def aqb (k : Int) (a : Option Addr) (n cap : Nat) (N : Int) : Obj := .cells #[.int .i64 k, .slice a n cap, .int .i64 N] 27
theorem aq_box {w W : World} {k N : Int} {a : Option Addr} {n cap : Nat} (b : Below (w.alloc (aqb k a n cap N)).heap.size (w.alloc (aqb k a n cap N)) W) : W.cell? ⟨w.heap.size, 0, none⟩ = some (.int .i64 k) ∧ W.cell? ⟨w.heap.size, 1, none⟩ = some (.slice a n cap) ∧ W.cell? ⟨w.heap.size, 2, none⟩ = some (.int .i64 N) := by
  have h := (b.block w.heap.size (by simp)).trans (World.alloc_heap_new w (aqb k a n cap N))
  unfold aqb at h
  refine ⟨?_, ?_, ?_⟩ <;> simp [World.cell?, h]
theorem own_monoF {w : World} {B B' : Nat} {e : TypeId} {s : Nat} {v : Value} {n : Nat} {xs : List Value} (h : w.ownsRow B e s v n xs) (hB : B' ≤ B) : w.ownsRow B' e s v n xs := by
  obtain ⟨h1, h2⟩ := h
  refine ⟨h1, ?_⟩
  rcases h2 with h2 | ⟨g, cap, cur, e1, e2, e3⟩
  · exact .inl h2
  · exact .inr ⟨g, cap, cur, e1, Nat.le_trans hB e2, e3⟩
theorem al_bel (w : World) (o : Obj) : Below w.heap.size w (w.alloc o) := (Below.refl _ w).alloc (Nat.le_refl _) o
set_option maxRecDepth 100000 in
set_option maxHeartbeats 4000000 in
theorem answer_net (a : Option Addr) (n cap : Nat) (N : Int) (fs : List Fl) (w : World) (h : AqF w a n cap fs) (hs : SortsN) :
    Calls Try.prog 6 #[.agg #[.int .i64 1, .slice a n cap, .int .i64 N]] w fun e w' => AnsE w (fun gs ts => gs = canN fs ∧ ts = []) e w' := by
  have hl := h.fl.1
  have hn := h.fl.2.1
  have H := Lib.hid h
  have A0 := Lib.hid (al_bel w (aqb 1 a n cap N))
  have CE := Lib.hid (fun W (b : Below (w.alloc (aqb 1 a n cap N)).heap.size (w.alloc (aqb 1 a n cap N)) W) => aq_box b)
  have KT := Lib.hid (fun W (h : FL W a n fs) => (net_any a n cap fs W h H.out.hw hs).mono (fun e w' (h : ∃ v q, e = .returned (.tuple #[v, .int .i64 q]) ∧ Below W.heap.size W w' ∧ NetA fs W.heap.size v q w') => show ∃ v, e = .returned (.tuple #[v, .int .i64 (canNQ fs)]) ∧ Below W.heap.size W w' ∧ OwnF w' W.heap.size v (canN fs) from by
    obtain ⟨v, q, rfl, h1, h2⟩ := h
    obtain ⟨rfl, h3⟩ := netA_can h2
    exact ⟨v, rfl, h1, h3⟩))
  have KW := Lib.hid (fun W (q : FL W a n fs) => twin_any a n cap fs W q h.nc)
  have KR := Lib.hid (fun A C W (q : FL W A n fs) => netR_any A n C fs W q (fun i hi => ⟨(h.hw i hi).1, (h.hw i hi).2.1⟩))
  have TL := canN_len hl
  obtain ⟨ts, hts⟩ : ∃ ts, canN fs = ts := ⟨_, rfl⟩
  rw [hts] at TL KT KR
  simp only [hts]
  have T43 : ts.length ≤ 4398046511000 := by omega
  have KS := Lib.hid (fun A B C D W (h : FL W A ts.length ts) (h' : FL W B ts.length ts) => same_fl A B ts.length C D ts W h h')
  have FO := Lib.hid (fun W B v (o : OwnF W B v fs) => fl_of_own o (by omega))
  have FT := Lib.hid (fun W B v (o : OwnF W B v ts) => fl_of_own o T43)
  rw [hl] at FO
  clear h hts
  obtain ⟨c0, c1, c2⟩ := CE.out _ (Below.refl _ _)
  generalize canNQ fs = Q at *
  unfold aqb at c0 c1 c2 A0 CE
  go_enter Try.func6, Try.ntmps6
  go_wp2_with (first
    | (go_at_call 13; refine (KT.out _ (H.out.fl.later A0.out)).mono ?_; rintro e w2 ⟨v, rfl, h1, h2⟩; obtain ⟨A2, C2, rfl, h3⟩ := FT.out _ _ _ h2; have B2 := Lib.hid h1; have O2 := Lib.hid h2; have F2 := Lib.hid h3; obtain ⟨d0, d1, d2⟩ := CE.out _ h1; clear h1 h2 h3)
    | (go_at_call 4; refine (KW.out _ (H.out.fl.later (A0.out.trans (B2.out.mono A0.out.size)))).mono ?_; rintro e w3 ⟨v3, rfl, h1, h2⟩; obtain ⟨A3, C3, rfl, h3⟩ := FO.out _ _ _ h2; have B3 := Lib.hid h1; have F3 := Lib.hid h3; clear h1 h2 h3)
    | (go_at_call 14; refine (KR.out _ _ _ F3.out).mono ?_; rintro e w4 ⟨v4, rfl, h1, h2⟩; obtain ⟨A4, C4, rfl, h3⟩ := FT.out _ _ _ h2; have B4 := Lib.hid (B3.out.trans (h1.mono B3.out.size)); have F4 := Lib.hid h3; clear h1 h2 h3)
    | (go_at_call 7; refine (KS.out _ _ _ _ _ (F2.out.later B4.out) F4.out).mono ?_; rintro e w5 ⟨rfl, h1⟩; have B5 := Lib.hid (B4.out.trans (h1.mono B4.out.size)); clear h1))
  refine bodyPost_ret (v := .tuple #[.slice A2 ts.length C2, .slice none 0 0, .bool true]) (by simp [results, Try.results6, go_sem]) rfl ?_
  exact ⟨_, _, ts, [], rfl, ⟨rfl, rfl⟩, own_monoF (ownF_later O2.out B5.out) A0.out.size, World.ownsRow_nil _ _ _ _, T43, by simp, (A0.out.trans (B2.out.mono A0.out.size)).trans (B5.out.mono (Nat.le_trans A0.out.size B2.out.size))⟩
theorem ownT_later {w w' : World} {B : Nat} {v : Value} {n : Nat} {xs : List Value} (h : w.ownsRow B 57 2 v n xs) (hb : Below w.heap.size w w') : w'.ownsRow B 57 2 v n xs := World.ownsRow.kept h (below_gr0F hb) (Classical.em _)
set_option maxRecDepth 100000 in
set_option maxHeartbeats 4000000 in
theorem answer_until (a : Option Addr) (n cap : Nat) (N : Int) (fs : List Fl) (w : World) (h : AqF w a n cap fs) :
    Calls Try.prog 6 #[.agg #[.int .i64 4, .slice a n cap, .int .i64 N]] w fun e w' => AnsE w (fun gs ts => gs = keep N fs ∧ ts = []) e w' := by
  have hl := h.fl.1
  have hn := h.fl.2.1
  have H := Lib.hid h
  have A0 := Lib.hid (al_bel w (aqb 4 a n cap N))
  have CE := Lib.hid (fun W (b : Below (w.alloc (aqb 4 a n cap N)).heap.size (w.alloc (aqb 4 a n cap N)) W) => aq_box b)
  have KT := Lib.hid (fun W (q : FL W a n fs) => until_any a n cap fs N W q)
  have KW := Lib.hid (fun W (q : FL W a n fs) => twin_any a n cap fs W q h.nc)
  have KR := Lib.hid (fun A C W (q : FL W A n fs) => rUntil_any A n C fs N W q)
  have TL : (keep N fs).length ≤ n := by rw [← hl]; exact List.length_filter_le _ _
  obtain ⟨ts, hts⟩ : ∃ ts, keep N fs = ts := ⟨_, rfl⟩
  rw [hts] at TL KT KR
  simp only [hts]
  have T43 : ts.length ≤ 4398046511000 := by omega
  have KS := Lib.hid (fun A B C D W (h : FL W A ts.length ts) (h' : FL W B ts.length ts) => same_fl A B ts.length C D ts W h h')
  have FO := Lib.hid (fun W B v (o : OwnF W B v fs) => fl_of_own o (by omega))
  have FT := Lib.hid (fun W B v (o : OwnF W B v ts) => fl_of_own o T43)
  rw [hl] at FO
  clear h hts
  obtain ⟨c0, c1, c2⟩ := CE.out _ (Below.refl _ _)
  unfold aqb at c0 c1 c2 A0 CE
  go_enter Try.func6, Try.ntmps6
  go_upto_region 19 with (first
    | (go_at_call 19; refine (KT.out _ (H.out.fl.later A0.out)).mono ?_; rintro e w2 ⟨v, rfl, h1, h2⟩; obtain ⟨A2, C2, rfl, h3⟩ := FT.out _ _ _ h2; have B2 := Lib.hid h1; have O2 := Lib.hid h2; have F2 := Lib.hid h3; obtain ⟨d0, d1, d2⟩ := CE.out _ h1; clear h1 h2 h3))
  have BD := Lib.hid (p := Below w2.heap.size w2 w2.drew) (Below.refl _ w2).drew
  go_region_held3 (fun w' => w'.cell? ⟨w.heap.size, 1, none⟩ = some (.slice a n cap) ∧ w'.cell? ⟨w.heap.size, 2, none⟩ = some (.int .i64 N)) (first | exact ⟨d1, d2⟩ | exact (CE.out _ (B2.out.trans (B3.out.mono B2.out.size))).2 | exact (CE.out _ (B2.out.trans (B4.out.mono B2.out.size))).2 | exact (CE.out _ (B2.out.trans (B5.out.mono B2.out.size))).2) (first
    | (go_at_call 4; refine (KW.out _ (H.out.fl.later (A0.out.trans ((B2.out.trans (BD.out.mono B2.out.size)).mono A0.out.size)))).mono ?_; rintro e w3 ⟨v3, rfl, h1, h2⟩; obtain ⟨A3, C3, rfl, h3⟩ := FO.out _ _ _ h2; have B3 := Lib.hid (BD.out.trans (h1.mono BD.out.size)); have F3 := Lib.hid h3; clear h1 h2 h3)
    | (go_at_call 20; refine (KR.out _ _ _ F3.out).mono ?_; rintro e w4 ⟨v4, rfl, h1, h2⟩; obtain ⟨A4, C4, rfl, h3⟩ := FT.out _ _ _ h2; have B4 := Lib.hid (B3.out.trans (h1.mono B3.out.size)); have F4 := Lib.hid h3; clear h1 h2 h3)
    | (go_at_call 7; refine (KS.out _ _ _ _ _ (F2.out.later B4.out) F4.out).mono ?_; rintro e w5 ⟨rfl, h1⟩; have B5 := Lib.hid (B4.out.trans (h1.mono B4.out.size)); clear h1))
  go_wp2
  refine bodyPost_ret (v := .tuple #[.slice A2 ts.length C2, .slice none 0 0, .bool true]) (by simp [results, Try.results6, go_sem]) rfl ?_
  exact ⟨_, _, ts, [], rfl, ⟨rfl, rfl⟩, own_monoF (ownF_later O2.out B5.out) A0.out.size, World.ownsRow_nil _ _ _ _, T43, by simp, (A0.out.trans (B2.out.mono A0.out.size)).trans (B5.out.mono (Nat.le_trans A0.out.size B2.out.size))⟩
/-- Totals of the program: its memory too. -/
theorem totA_own {fs : List Fl} {B : Nat} {v : Value} {q : Int} {w : World} (h : TotA fs B v q w) : q = canQ fs ∧ w.ownsRow B 57 2 v (canT fs).length (tcs (canT fs)) := by
  unfold canT canQ
  rcases h with ⟨h1, rfl, rfl⟩ | ⟨A, ts, h1, rfl, hp, hs, ho⟩
  · rw [h1]; exact ⟨rfl, World.ownsRow_nil _ _ _ _⟩
  · rw [h1]
    have e := ts_canon hp hs (tally_apart (acc := []) (by simp) h1)
    subst e
    exact ⟨rfl, ho⟩
set_option maxRecDepth 100000 in
set_option maxHeartbeats 4000000 in
theorem answer_totals (a : Option Addr) (n cap : Nat) (N : Int) (fs : List Fl) (w : World) (h : AqF w a n cap fs) (hs : SortsT) :
    Calls Try.prog 6 #[.agg #[.int .i64 2, .slice a n cap, .int .i64 N]] w fun e w' => AnsE w (fun gs ts => gs = [] ∧ ts = canT fs) e w' := by
  have hl := h.fl.1
  have hn := h.fl.2.1
  have H := Lib.hid h
  have A0 := Lib.hid (al_bel w (aqb 2 a n cap N))
  have CE := Lib.hid (fun W (b : Below (w.alloc (aqb 2 a n cap N)).heap.size (w.alloc (aqb 2 a n cap N)) W) => aq_box b)
  have KT := Lib.hid (fun W (q : FL W a n fs) => (totals_any a n cap fs W q (fun i hi => ⟨(h.hw i hi).1, (h.hw i hi).2.1⟩) hs).mono (fun e w' (h : ∃ v q, e = .returned (.tuple #[v, .int .i64 q]) ∧ Below W.heap.size W w' ∧ TotA fs W.heap.size v q w') => show ∃ b c, e = .returned (.tuple #[.slice b (canT fs).length c, .int .i64 (canQ fs)]) ∧ Below W.heap.size W w' ∧ TC w' b (canT fs) ∧ w'.ownsRow W.heap.size 57 2 (.slice b (canT fs).length c) (canT fs).length (tcs (canT fs)) from by
    obtain ⟨v, q, rfl, h1, h2⟩ := h
    obtain ⟨rfl, h3⟩ := totA_own h2
    obtain ⟨_, b, c, rfl, h4⟩ := totA_can h2
    exact ⟨b, c, rfl, h1, h4, h3⟩))
  have KW := Lib.hid (fun W (q : FL W a n fs) => twin_any a n cap fs W q h.nc)
  have TL := canT_len hl
  have KR := Lib.hid (fun A C W (q : FL W A n fs) => (totalsR_any A n C fs W q (fun i hi => ⟨(h.hw i hi).1, (h.hw i hi).2.1⟩) (fun B hB => by have := tots_short hB; omega)).mono (fun e w' (h : ∃ v q, e = .returned (.tuple #[v, .int .i64 q]) ∧ Below W.heap.size W w' ∧ TotR fs W.heap.size v q w') => show ∃ b c, e = .returned (.tuple #[.slice b (canT fs).length c, .int .i64 (canQ fs)]) ∧ Below W.heap.size W w' ∧ TC w' b (canT fs) from by
    obtain ⟨v, q, rfl, h1, h2⟩ := h
    obtain ⟨rfl, b, c, rfl, h4⟩ := totR_can h2
    exact ⟨b, c, rfl, h1, h4⟩))
  obtain ⟨ts, hts⟩ : ∃ ts, canT fs = ts := ⟨_, rfl⟩
  rw [hts] at TL KT KR
  simp only [hts]
  have T43 : ts.length ≤ 4398046511000 := by omega
  have KS := Lib.hid (fun A B C D W (h : TC W A ts) (h' : TC W B ts) => sameT_any A B ts.length C D ts W rfl T43 h h')
  have FO := Lib.hid (fun W B v (o : OwnF W B v fs) => fl_of_own o (by omega))
  rw [hl] at FO
  clear h hts
  obtain ⟨c0, c1, c2⟩ := CE.out _ (Below.refl _ _)
  generalize canQ fs = Q at *
  unfold aqb at c0 c1 c2 A0 CE
  go_enter Try.func6, Try.ntmps6
  go_wp2_with (first
    | (go_at_call 15; refine (KT.out _ (H.out.fl.later A0.out)).mono ?_; rintro e w2 ⟨A2, C2, rfl, h1, h3, h2⟩; have B2 := Lib.hid h1; have O2 := Lib.hid h2; have F2 := Lib.hid h3; obtain ⟨d0, d1, d2⟩ := CE.out _ h1; clear h1 h2 h3)
    | (go_at_call 4; refine (KW.out _ (H.out.fl.later (A0.out.trans (B2.out.mono A0.out.size)))).mono ?_; rintro e w3 ⟨v3, rfl, h1, h2⟩; obtain ⟨A3, C3, rfl, h3⟩ := FO.out _ _ _ h2; have B3 := Lib.hid h1; have F3 := Lib.hid h3; clear h1 h2 h3)
    | (go_at_call 16; refine (KR.out _ _ _ F3.out).mono ?_; rintro e w4 ⟨A4, C4, rfl, h1, h3⟩; have B4 := Lib.hid (B3.out.trans (h1.mono B3.out.size)); have F4 := Lib.hid h3; clear h1 h3)
    | (go_at_call 8; refine (KS.out _ _ _ _ _ (F2.out.later B4.out) F4.out).mono ?_; rintro e w5 ⟨rfl, h1⟩; have B5 := Lib.hid (B4.out.trans (h1.mono B4.out.size)); clear h1))
  refine bodyPost_ret (v := .tuple #[.slice none 0 0, .slice A2 ts.length C2, .bool true]) (by simp [results, Try.results6, go_sem]) rfl ?_
  exact ⟨_, _, [], ts, rfl, ⟨rfl, rfl⟩, World.ownsRow_nil _ _ _ _, own_monoF (ownT_later O2.out B5.out) A0.out.size, by simp, T43, (A0.out.trans (B2.out.mono A0.out.size)).trans (B5.out.mono (Nat.le_trans A0.out.size B2.out.size))⟩
end Go.Proofs.Ythhacbelbkkcmaa

namespace Go.Proofs.Ythhacbelbkkcmaa
set_option linter.unusedVariables false

theorem at8_end {s : ByteArray} {i : Nat} (h : ¬ i < s.size) : at8 s i = 0 := by unfold at8; rw [dif_neg h]
def isD (c : Int) : Prop := 48 ≤ c ∧ c ≤ 57
instance (c : Int) : Decidable (isD c) := by unfold isD; infer_instance
def dg (c : Int) : Nat := (c - 48).toNat
theorem dg_bd {c : Int} (h : isD c) : dg c ≤ 9 ∧ (dg c : Int) = c - 48 := by unfold isD at h; unfold dg; omega
/-- One digit more, where the limit bears it. -/
def stepD (lim n : Nat) (c : Int) : Option Nat := if isD c ∧ n ≤ (lim - dg c) / 10 then some (10 * n + dg c) else none
/-- The number that j bytes from a place on tell. -/
def preD (s : ByteArray) (fr lim : Nat) : Nat → Option Nat
  | 0 => some 0
  | j + 1 => (preD s fr lim j).bind fun n => stepD lim n (at8 s (fr + j))
theorem preD_succ {s : ByteArray} {fr lim j n : Nat} (h : preD s fr lim j = some n) : preD s fr lim (j + 1) = stepD lim n (at8 s (fr + j)) := by simp [preD, h]
theorem preD_down {s : ByteArray} {fr lim : Nat} : ∀ (d j : Nat), preD s fr lim j = none → preD s fr lim (j + d) = none
  | 0, j, h => h
  | d + 1, j, h => by
    have := preD_down d j h
    rw [← Nat.add_assoc]
    simp [preD, this]
theorem step_le {lim n m : Nat} {c : Int} (hl : 9 ≤ lim) (h : stepD lim n c = some m) : m ≤ lim ∧ isD c ∧ m = 10 * n + dg c := by
  unfold stepD at h
  split at h
  · rename_i k
    obtain ⟨k1, k2⟩ := k
    have := (dg_bd k1).1
    simp at h
    exact ⟨by omega, k1, by omega⟩
  · cases h
theorem preD_le {s : ByteArray} {fr lim : Nat} (hl : 9 ≤ lim) : ∀ {j n : Nat}, preD s fr lim j = some n → n ≤ lim
  | 0, n, h => by simp [preD] at h; omega
  | j + 1, n, h => by
    cases hp : preD s fr lim j with
    | none => rw [preD, hp] at h; cases h
    | some m => rw [preD_succ hp] at h; exact (step_le hl h).1
/-- How far the digits from a place on go, and what they tell. -/
def DS (s : ByteArray) (fr lim j n : Nat) : Prop := preD s fr lim j = some n ∧ preD s fr lim (j + 1) = none
theorem ds_one {s : ByteArray} {fr lim j n j' n' : Nat} (h : DS s fr lim j n) (h' : DS s fr lim j' n') : j = j' ∧ n = n' := by
  have key : ∀ {a b x y : Nat}, DS s fr lim a x → DS s fr lim b y → a ≤ b := fun {a b x y} p q => by
    refine Nat.le_of_not_lt fun hlt => ?_
    have := preD_down (a - (b + 1)) (b + 1) q.2
    rw [show b + 1 + (a - (b + 1)) = a by omega, p.1] at this
    cases this
  have e : j = j' := Nat.le_antisymm (key h h') (key h' h)
  subst e
  refine ⟨rfl, ?_⟩
  have := h.1.symm.trans h'.1
  simpa using this
/-- An unsigned number from a place on: where it ends, what it tells, whether it is one. -/
def ND (s : ByteArray) (at_ lim k n : Nat) (wh : Bool) : Prop :=
  (at8 s at_ = 48 ∧ k = at_ + 1 ∧ n = 0 ∧ wh = true) ∨ (at8 s at_ ≠ 48 ∧ ∃ j, DS s at_ lim j n ∧ k = at_ + j ∧ wh = decide (0 < j))
theorem nd_one {s : ByteArray} {at_ lim k n k' n' : Nat} {wh wh' : Bool} (h : ND s at_ lim k n wh) (h' : ND s at_ lim k' n' wh') : k = k' ∧ n = n' ∧ wh = wh' := by
  rcases h with ⟨a, b, c, d⟩ | ⟨a, j, b, c, d⟩ <;> rcases h' with ⟨a', b', c', d'⟩ | ⟨a', j', b', c', d'⟩
  · exact ⟨by omega, by omega, by rw [d, d']⟩
  · exact absurd a a'
  · exact absurd a' a
  · obtain ⟨rfl, rfl⟩ := ds_one b b'
    exact ⟨by omega, rfl, by rw [d, d']⟩
end Go.Proofs.Ythhacbelbkkcmaa

namespace Go.Proofs.Ythhacbelbkkcmaa
open Go.RowKit
set_option linter.unusedVariables false
set_option linter.unusedSimpArgs false

/-- Is it a beginning of a number up to a limit? -/
def begB (t : ByteArray) (lim : Nat) : Bool := if at8 t 0 = 48 then decide (t.size = 1) else (preD t 0 lim t.size).isSome
theorem beg_no {t : ByteArray} {lim i : Nat} (h0 : at8 t 0 ≠ 48) (hi : i < t.size) (h : preD t 0 lim (i + 1) = none) : begB t lim = false := by
  unfold begB
  rw [if_neg h0]
  have := preD_down (s := t) (fr := 0) (lim := lim) (t.size - (i + 1)) (i + 1) h
  rw [show i + 1 + (t.size - (i + 1)) = t.size by omega] at this
  rw [this]; rfl

set_option maxHeartbeats 2000000 in
theorem begins_any (t : ByteArray) (lim : Nat) (l9 : 9 ≤ lim) (l64 : lim ≤ 9223372036854775808) (w : World) (h1 : 1 ≤ t.size) (h2 : t.size ≤ 1048576) :
    Calls Try.prog 63 #[.string t, .int .u64 lim] w fun e w' => e = .returned (.bool (begB t lim)) ∧ w' = w := by
  obtain ⟨B, hB⟩ : ∃ B, begB t lim = B := ⟨_, rfl⟩
  have HB := Lib.hid hB
  rw [hB]; clear hB
  have E0 := at8_lt (s := t) (i := 0) (by omega)
  obtain ⟨c0, hc0⟩ : ∃ c : Nat, t[0].toNat = c := ⟨_, rfl⟩
  rw [hc0] at E0
  have z0 : 0 < t.size := by omega
  have z1 : (0 : Int) < (t.size : Int) := by omega
  by_cases h48 : (c0 : Int) = 48
  · have HR := Lib.hid (p := B = decide (t.size = 1)) (by rw [← HB.out]; unfold begB; rw [E0, if_pos h48])
    have h48' : c0 = 48 := by omega
    clear h48
    subst h48'
    clear E0
    go_enter Try.func63, Try.ntmps63
    go_wp2
    go_ret
    refine ⟨ret_b ?_, rfl⟩
    rw [HR.out]
    first | rfl | (apply decide_eq_decide.2; omega) | (simp; omega)
  · have N0 := Lib.hid (show at8 t 0 ≠ 48 by rw [E0]; exact h48)
    have hb : ((c0 : Int) == 48) = false := by simpa using h48
    clear E0
    go_enter Try.func63, Try.ntmps63
    go_wp2
    go_loop [5, 6] (fun a b => ∃ i n : Nat, i ≤ t.size ∧ a = .int .u64 n ∧ b = .int .i64 i ∧ preD t 0 lim i = some n) (fun _ b => t.size - (intOf b).toNat)
    case atStart => exact ⟨0, 0, by omega, rfl, rfl, rfl⟩
    case round =>
      obtain ⟨i, n, hi, rfl, rfl, hp⟩ := hrel
      have nle := preD_le l9 hp
      have HP := Lib.hid hp
      clear hp
      by_cases hk : i < t.size
      · have kc : (i : Int) < (t.size : Int) := by omega
        obtain ⟨c, hc⟩ : ∃ c : Nat, t[i].toNat = c := ⟨_, rfl⟩
        have c255 : c ≤ 255 := by have := t[i].toNat_lt; omega
        have E := Lib.hid (show at8 t i = c by rw [at8_lt hk, hc])
        have NO := Lib.hid (p := preD t 0 lim (i + 1) = none → false = B) (fun h => by rw [← HB.out, beg_no N0.out hk h])
        have PZ := Lib.hid (p := preD t 0 lim (i + 1) = stepD lim n (at8 t i)) (by have := preD_succ HP.out; rwa [Nat.zero_add] at this)
        by_cases c48 : (c : Int) < 48
        · have NN := Lib.hid (p := preD t 0 lim (i + 1) = none) (by rw [PZ.out, E.out]; unfold stepD; rw [if_neg (fun k => by have := k.1; unfold isD at this; omega)])
          go_wp2
          go_ret
          exact ⟨ret_b (NO.out NN.out), rfl⟩
        · by_cases c57 : (57 : Int) < (c : Int)
          · have NN := Lib.hid (p := preD t 0 lim (i + 1) = none) (by rw [PZ.out, E.out]; unfold stepD; rw [if_neg (fun k => by have := k.1; unfold isD at this; omega)])
            go_wp2
            go_ret
            exact ⟨ret_b (NO.out NN.out), rfl⟩
          · have ID := Lib.hid (show isD (at8 t i) by rw [E.out]; unfold isD; omega)
            have DG := Lib.hid (show ((dg (at8 t i) : Nat) : Int) = (c : Int) - 48 by rw [(dg_bd ID.out).2, E.out])
            have w1 : IntKind.u8.wrap ((c : Int) - 48) = (c : Int) - 48 := by simp [IntKind.wrap, IntKind.bits, IntKind.signed]; omega
            have w2 : IntKind.u64.wrap ((lim : Int) - ((c : Int) - 48)) = (lim : Int) - ((c : Int) - 48) := by rw [IntKind.wrap_u64]; omega
            have w6 : IntKind.u64.wrap ((c : Int) - 48) = (c : Int) - 48 := by rw [IntKind.wrap_u64]; omega
            by_cases ov : ((lim : Int) - ((c : Int) - 48)) / 10 < (n : Int)
            · have NN := Lib.hid (p := preD t 0 lim (i + 1) = none) (by
                rw [PZ.out]; unfold stepD; rw [if_neg (fun k => by have := DG.out; have := k.2; omega)])
              go_wp2
              go_ret
              exact ⟨ret_b (NO.out NN.out), rfl⟩
            · have w3 : IntKind.u64.wrap (10 * (n : Int)) = 10 * (n : Int) := by rw [IntKind.wrap_u64]; omega
              have w4 : IntKind.u64.wrap (10 * (n : Int) + ((c : Int) - 48)) = 10 * (n : Int) + ((c : Int) - 48) := by rw [IntKind.wrap_u64]; omega
              have w5 : IntKind.i64.wrap ((i : Int) + 1) = (i : Int) + 1 := by simp [IntKind.wrap, IntKind.bits, IntKind.signed]; omega
              have NX := Lib.hid (show preD t 0 lim (i + 1) = some (10 * n + dg (at8 t i)) by
                rw [PZ.out]; unfold stepD; rw [if_pos ⟨ID.out, by have := DG.out; omega⟩])
              go_wp2
              go_round
              case rel => exact ⟨i + 1, 10 * n + dg (at8 t i), by omega, by congr 1; have := DG.out; omega, by go_num, NX.out⟩
              case measure => simp [intOf]; omega
      · obtain rfl : i = t.size := by omega
        have YES := Lib.hid (p := true = B) (by rw [← HB.out]; unfold begB; rw [if_neg N0.out, HP.out]; rfl)
        go_wp2
        go_ret
        exact ⟨ret_b YES.out, rfl⟩
end Go.Proofs.Ythhacbelbkkcmaa
