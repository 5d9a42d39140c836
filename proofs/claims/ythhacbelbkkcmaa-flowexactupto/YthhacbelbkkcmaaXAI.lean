import Derived.Test.YthhacbelbkkcmaaXAH
import Derived.Deep.AppendLies
import Derived.Test.YthhacbelbkkcmaaXAC
import Derived.Test.YthhacbelbkkcmaaXAB
import Derived.Test.YthhacbelbkkcmaaXAE
import Derived.Test.YthhacbelbkkcmaaXAD
import Derived.Maps.RangeWalk
import Derived.Maps.OwnSet
namespace Go.Proofs.Ythhacbelbkkcmaa
open Go.RowKit
set_option linter.unusedVariables false
set_option linter.unusedSimpArgs false

theorem step_total {ops : Array Oper} {o : Oper} {a : Act} {K : Act → World → Prop} {Q : Exit → Act → World → Prop} {E : Prop} (w : World) (hgd : o.guard = none) (s x : Operand)
    (ho : o.op = .call { callee := .builtin .append, args := #[s, x], argTypes := #[28, 28] }) (base : Nat) (v : Value) (ts : List (ByteArray × Int)) (hs : a.eval s = v)
    (hown : w.ownsRow base 57 2 v ts.length (tcs ts)) (Bn : Nat) (c : ByteArray) (m : Int) (fr : Nat × Nat) (hx : a.eval x = .slice (some ⟨Bn, 0, none⟩) 1 1) (hb : w.heap[Bn]? = some (.cells #[.string c, .int .i64 m] 57 fr)) (hl : ts.length ≤ 4398046511000) (hbase : base ≤ w.heap.size)
    (h : ∀ g cap w', w'.ownsRow base 57 2 (.slice (some ⟨g, 0, none⟩) (ts.length + 1) cap) (ts ++ [(c, m)]).length (tcs (ts ++ [(c, m)])) → w.grownBy w' v.ownBlock → K (a.put o.dst (.slice (some ⟨g, 0, none⟩) (ts.length + 1) cap)) w') :
    if Region.wanted o (yielded ops a.tmps) = true then Oper.wp Try.prog o a w K Q else E := by
  obtain ⟨i0, hi, hz0, hz1, hz2⟩ := info_parts infoT
  refine step_append_lies w hgd s x 28 ho base 57 i0 (.agg #[.string ⟨#[]⟩, .int .i64 0]) 2 24 Try.underlying28 hi hz0 hz1 hz2 rfl (by decide) v _ _ hs hown ⟨Bn, 0, none⟩ 1 1 (tc (c, m)) hx rfl (fun j u hj => World.news_of_block hb j u hj) ?_ (by omega) (by unfold maxLen; omega) (by omega) hbase w.heap.size rfl (fun g cap w' h1 h2 _ _ => h g cap w' (own_snocT h1) h2)
  intro u hu
  simp [tc] at hu
  rcases hu with rfl | rfl <;> rfl
def tz (f : Fl) : ByteArray × Int := (f.c, f.a)
/-- What the document's Totals answers. -/
def TotR (fs : List Fl) (B : Nat) (v : Value) (q : Int) (w : World) : Prop :=
  (tots fs = none ∧ v = .slice none 0 0 ∧ q = 1) ∨ ∃ A, tots fs = some A ∧ q = 0 ∧ w.ownsRow B 57 2 v ((exsort fLt (A.map fz)).map tz).length (tcs ((exsort fLt (A.map fz)).map tz))
theorem alloc_at (w : World) (b : Obj) : (w.alloc b).heap[w.heap.size]? = some b := by show (w.heap.push b)[w.heap.size]? = some b; simp
theorem take_next {l : List (ByteArray × Int)} {k : Nat} (hk : k < l.length) : l.take (k + 1) = l.take k ++ [l[k]] := by rw [List.take_add_one, List.getElem?_eq_getElem hk]; rfl
theorem apartTF {w : World} {B B' : Nat} {v v' : Value} {n n' : Nat} {xs ys : List Value} (h : w.ownsRow B 57 2 v n xs) (k : w.ownsRow B' 40 3 v' n' ys) : ∀ x, v'.ownBlock = some x → v.ownBlock ≠ some x := by
  intro x hx he
  rcases k.2 with ⟨rfl, _⟩ | ⟨g, c, cur, rfl, _, hg, _⟩
  · cases hx
  · simp [Value.ownBlock] at hx
    subst hx
    rcases h.2 with ⟨rfl, _⟩ | ⟨g', c', cur', rfl, _, hg', _⟩
    · cases he
    · simp [Value.ownBlock] at he
      subst he
      rw [hg] at hg'
      injection hg' with hg'
      injection hg' with _ hg' _
      revert hg'; decide
set_option maxRecDepth 100000 in
set_option maxHeartbeats 2000000 in
theorem totalsR_any (a : Option Addr) (n cap : Nat) (fs : List Fl) (w : World) (h : FL w a n fs) (hw : ∀ i, i < n → inR (fs.getD i default).a ∧ (fs.getD i default).c.size ≤ maxLen) (hlen : ∀ A, tots fs = some A → A.length ≤ 4398046511000) :
    Calls Try.prog 16 #[.slice a n cap] w fun e w' => ∃ v q, e = .returned (.tuple #[v, .int .i64 q]) ∧ Below w.heap.size w w' ∧ TotR fs w.heap.size v q w' := by
  have K := Lib.hid (sumsT_any a n cap fs w h hw)
  clear h hw
  go_enter Try.func16, Try.ntmps16
  go_wp2_with fail
  refine K.out.mono ?_
  rintro e w1 ⟨hS, hB⟩
  have B1 := Lib.hid hB
  rcases hS with ⟨hN, rfl⟩ | ⟨A, v1, hA, rfl, hO⟩
  · clear hB
    go_wp2
    go_ret2
    exact ⟨_, 1, rfl, B1.out, .inl ⟨hN, rfl, rfl⟩⟩
  · have LA := Lib.hid (p := (exsort fLt (A.map fz)).length ≤ 4398046511000) (by rw [(exsort_perm fLt _ _ rfl).length_eq, List.length_map]; exact hlen A hA)
    have TA := Lib.hid (p := ∀ v w', w'.ownsRow w.heap.size 57 2 v ((exsort fLt (A.map fz)).map tz).length (tcs ((exsort fLt (A.map fz)).map tz)) → TotR fs w.heap.size v 0 w') (fun v w' o => .inr ⟨A, hA, rfl, o⟩)
    generalize exsort fLt (A.map fz) = ls at *
    obtain ⟨m, hm⟩ : ∃ m, ls.length = m := ⟨_, rfl⟩
    have HM := Lib.hid hm
    obtain ⟨aL, cL, rfl⟩ := formF' hO
    have O1 := Lib.hid hO
    have GF := Lib.hid (p := 0 < m → ∃ g, aL = some ⟨g, 0, none⟩) (fun h0 => by
      rcases formF hO with ⟨_, q⟩ | ⟨g, cc, q⟩
      · omega
      · injection q with q1; exact ⟨g, q1⟩)
    rw [hm] at O1 ⊢
    have m43 : m ≤ 4398046511000 := by rw [← hm]; exact LA.out
    clear hO hB hm hA hlen
    go_wp2
    go_loopw [6, 7] (fun v t wr => ∃ i : Nat, i ≤ m ∧ t = .int .i64 (i : Int) ∧ wr.ownsRow w.heap.size 57 2 v ((ls.map tz).take i).length (tcs ((ls.map tz).take i)) ∧ OwnF wr w.heap.size (.slice aL m cL) ls ∧ Below w.heap.size w wr) (fun _ t _ => m - (intOf t).toNat)
    case atStart => exact ⟨0, by omega, rfl, ⟨rfl, .inl ⟨rfl, rfl⟩⟩, O1.out, B1.out⟩
    case round =>
      rename World => wr
      obtain ⟨i, hi, rfl, hT, hO, hB⟩ := hrel
      have TT := Lib.hid hT
      have OO := Lib.hid hO
      have BB := Lib.hid hB
      by_cases hlt : i < m
      · obtain ⟨g, rfl⟩ := GF.out (by omega)
        have hil : i < ls.length := by rw [HM.out]; exact hlt
        obtain ⟨c0, c1, c2⟩ := fcF' hO HM.out i hlt (ls[i]'hil) (by simp [hil])
        have ic : (i : Int) < (m : Int) := by omega
        have NX := Lib.hid (p := (ls.map tz).take (i + 1) = (ls.map tz).take i ++ [((ls[i]'hil).c, (ls[i]'hil).a)]) (by rw [take_next (by simpa using hil)]; simp [tz])
        have TLN := Lib.hid (p := ((ls.map tz).take i).length = i) (by simp; omega)
        have gw := (OO.out.lt g rfl).2
        have FX := Lib.hid (fun W (o : OwnF W w.heap.size (.slice (some ⟨g, 0, none⟩) m cL) ls) => (fcF' o HM.out i hlt (ls[i]'hil) (by simp [hil])).2)
        generalize (ls[i]'hil).c = fc at *
        generalize (ls[i]'hil).a = fa at *
        clear hT hO hB c0
        have A0 := Lib.hid (BB.out.alloc BB.out.size (.cells #[.string fc, .int .i64 fa] 57))
        have T0 := Lib.hid (TT.out.alloc (.cells #[.string fc, .int .i64 fa] 57))
        have F0 := Lib.hid (OO.out.alloc (.cells #[.string fc, .int .i64 fa] 57))
        have L0 := Lib.hid (p := ((ls.map tz).take i).length ≤ 4398046511000) (by rw [TLN.out]; omega)
        have H0 := Lib.hid (alloc_at wr (.cells #[.string fc, .int .i64 fa] 57))
        have D0 := Lib.hid (p := Below w.heap.size w (wr.alloc (.cells #[.string fc, .int .i64 fa] 57)).drew) ⟨A0.out.os, A0.out.tape, A0.out.output, A0.out.size, A0.out.block⟩
        have AP := Lib.hid (p := (Value.slice (some ⟨g, 0, none⟩) m cL).ownBlock ≠ u6.ownBlock) (fun e => apartTF T0.out F0.out g rfl e.symm)
        have N0 := Lib.hid (p := ∀ w1, (wr.alloc (.cells #[.string fc, .int .i64 fa] 57)).drew.grownBy w1 u6.ownBlock → Below w.heap.size w w1 ∧ OwnF w1 w.heap.size (.slice (some ⟨g, 0, none⟩) m cL) ls) (fun w1 h2 => ⟨Below.grown D0.out h2 D0.out.size (fun k e => (T0.out.lt k e).1), by
          refine World.ownsRow.kept ?_ h2 (.inr AP.out)
          exact F0.out⟩)
        go_wp2
        go_region_held3 (fun w' => w'.cell? ⟨g, i * 3 + 1, none⟩ = some (.string fc) ∧ w'.cell? ⟨g, i * 3 + 2, none⟩ = some (.int .i64 fa))
          (refine ⟨?_, ?_⟩ <;> first | assumption | (go_simp; done))
          (first | (refine step_total _ rfl _ _ rfl w.heap.size u6 ((ls.map tz).take i) rfl T0.out wr.heap.size fc fa (0, 0) rfl H0.out L0.out D0.out.size ?_; intro g' cap' w1 h1 h2; have T1 := Lib.hid h1; have B1 := Lib.hid (N0.out w1 h2).1; have O1 := Lib.hid (N0.out w1 h2).2; obtain ⟨d1, d2⟩ := FX.out w1 O1.out; clear h1 h2))
        go_wp2
        go_roundw
        case rel => exact ⟨i + 1, by omega, by go_num, by rw [NX.out]; first | exact T1.out | (have := T1.out; simpa using this), O1.out, B1.out⟩
        case measure => simp [intOf]; omega
      · obtain rfl : i = m := by omega
        have EX := Lib.hid (p := (ls.map tz).take i = ls.map tz) (by rw [List.take_of_length_le]; simp [HM.out])
        go_wp2
        go_ret2
        exact ⟨_, 0, rfl, BB.out, TA.out _ _ (by have := TT.out; rw [EX.out] at this; exact this)⟩
end Go.Proofs.Ythhacbelbkkcmaa

namespace Go.Proofs.Ythhacbelbkkcmaa
open Go.RowKit
set_option linter.unusedVariables false
set_option linter.unusedSimpArgs false

/-- A row of totals, read. -/
def TC (w : World) (a : Option Addr) (ts : List (ByteArray × Int)) : Prop :=
  ts.length = 0 ∨ ∃ b, a = some ⟨b, 0, none⟩ ∧ b < w.heap.size ∧ ∀ i, i < ts.length → w.cell? ⟨b, i * 2, none⟩ = some (.string (ts.getD i default).1) ∧ w.cell? ⟨b, i * 2 + 1, none⟩ = some (.int .i64 (ts.getD i default).2)
theorem tcs_two : ∀ (ts : List (ByteArray × Int)) (i : Nat), i < ts.length → (tcs ts)[i * 2]? = some (.string (ts.getD i default).1) ∧ (tcs ts)[i * 2 + 1]? = some (.int .i64 (ts.getD i default).2)
  | [], i, h => by simp at h
  | t :: ts, 0, _ => by simp [tcs, tc]
  | t :: ts, i + 1, h => by
    have := tcs_two ts i (by simpa using h)
    rw [show (i + 1) * 2 = i * 2 + 2 by omega, show i * 2 + 2 + 1 = i * 2 + 1 + 2 by omega]
    have e : tcs (t :: ts) = tc t ++ tcs ts := by simp [tcs]
    rw [e, List.getElem?_append_right (by simp [tc]), List.getElem?_append_right (by simp [tc])]
    simpa [tc] using this
theorem tc_of_own {w : World} {B : Nat} {v : Value} {ts : List (ByteArray × Int)} (h : w.ownsRow B 57 2 v ts.length (tcs ts)) : ∃ a c, v = .slice a ts.length c ∧ TC w a ts := by
  have hl := h.lt
  rcases h.2 with ⟨rfl, q⟩ | ⟨g, c, cur, rfl, _⟩
  · exact ⟨none, 0, by rw [q], .inl q⟩
  · refine ⟨_, c, rfl, .inr ⟨g, rfl, (hl g rfl).2, fun i hi => ?_⟩⟩
    have t := tcs_two ts i hi
    constructor
    · rw [World.ownsRow.cellAt h (i * 2) (by omega), t.1]
    · rw [World.ownsRow.cellAt h (i * 2 + 1) (by omega), t.2]
theorem TC.later {w w' : World} {a : Option Addr} {ts : List (ByteArray × Int)} (h : TC w a ts) (hb : Below w.heap.size w w') : TC w' a ts := by
  rcases h with h | ⟨b, rfl, hlt, hc⟩
  · exact .inl h
  · exact .inr ⟨b, rfl, Nat.lt_of_lt_of_le hlt hb.size, fun i hi => ⟨(hb.cell (p := ⟨b, i * 2, none⟩) hlt).trans (hc i hi).1, (hb.cell (p := ⟨b, i * 2 + 1, none⟩) hlt).trans (hc i hi).2⟩⟩

set_option maxHeartbeats 2000000 in
theorem sameT_any (a b : Option Addr) (n c1 c2 : Nat) (ts : List (ByteArray × Int)) (w : World) (hn : ts.length = n) (h43 : n ≤ 4398046511000) (h : TC w a ts) (h' : TC w b ts) :
    Calls Try.prog 8 #[.slice a n c1, .slice b n c2] w fun e w' => e = .returned (.bool true) ∧ Below w.heap.size w w' := by
  rcases h with h3 | ⟨x, rfl, hx, hc⟩
  · obtain rfl : n = 0 := by omega
    go_enter Try.func8, Try.ntmps8
    go_wp2
    go_loopw [5] (fun t wr => t = .int .i64 0 ∧ wr = w) (fun t _ => 0)
    case atStart => exact ⟨rfl, rfl⟩
    case round =>
      obtain ⟨rfl, rfl⟩ := hrel
      go_wp2
      go_ret
      exact ⟨rfl, Below.refl _ _⟩
  · rcases h' with h3' | ⟨y, rfl, hy, hd⟩
    · obtain rfl : n = 0 := by omega
      go_enter Try.func8, Try.ntmps8
      go_wp2
      go_loopw [5] (fun t wr => t = .int .i64 0 ∧ wr = w) (fun t _ => 0)
      case atStart => exact ⟨rfl, rfl⟩
      case round =>
        obtain ⟨rfl, rfl⟩ := hrel
        go_wp2
        go_ret
        exact ⟨rfl, Below.refl _ _⟩
    · rw [hn] at hc hd
      have HC := Lib.hid hc
      have HD := Lib.hid hd
      clear hc hd
      go_enter Try.func8, Try.ntmps8
      go_wp2
      go_loopw [5] (fun t wr => ∃ k : Nat, k ≤ n ∧ t = .int .i64 k ∧ Below w.heap.size w wr) (fun t _ => n - (intOf t).toNat)
      case atStart => exact ⟨0, by omega, rfl, Below.refl _ _⟩
      case round =>
        obtain ⟨k, hk, rfl, hB⟩ := hrel
        have BB := Lib.hid hB
        by_cases hlt : k < n
        · obtain ⟨c0, c1⟩ := HC.out k hlt
          obtain ⟨e0, e1⟩ := HD.out k hlt
          rw [← hB.cell (p := ⟨x, k * 2, none⟩) hx] at c0
          rw [← hB.cell (p := ⟨x, k * 2 + 1, none⟩) hx] at c1
          rw [← hB.cell (p := ⟨y, k * 2, none⟩) hy] at e0
          rw [← hB.cell (p := ⟨y, k * 2 + 1, none⟩) hy] at e1
          have kc : (k : Int) < (n : Int) := by omega
          generalize ts.getD k default = f at *
          obtain ⟨fc, fa⟩ := f
          simp only at c0 c1 e0 e1
          clear hB
          go_wp2
          go_region
          all_goals
            go_wp2
            go_roundw
            case rel => exact ⟨k + 1, by omega, by go_num, BB.out.drew⟩
            case measure => simp [intOf]; omega
        · obtain rfl : k = n := by omega
          clear hB
          go_wp2
          go_ret
          exact ⟨rfl, BB.out⟩
end Go.Proofs.Ythhacbelbkkcmaa

namespace Go.Proofs.Ythhacbelbkkcmaa
open Go.RowKit Go.Maps
set_option linter.unusedVariables false
set_option linter.unusedSimpArgs false

theorem lawS : Keyed Try.prog 9 := string_keyed Try.underlying9
theorem zeroIT (w : World) : (zeroValue 3).run Try.prog w = .ok (.int .i64 0) w := by kernel_rfl
theorem keyS {c : ByteArray} (h : c.size ≤ maxLen) : keyOf Try.prog 9 (.string c) = some (lit c) := WideMaps.keyOf_string_mk Try.underlying9 h
theorem wf_ofT {x : Int} (h : inR x) : (Lit.int .i64 x).wf = true := WalkArith.wf_i64 (by unfold inR at h; omega)

set_option maxHeartbeats 2000000 in
set_option maxRecDepth 100000 in
theorem addUpT_out (b o n cap : Nat) (fs : List Fl) (w : World) (h1 : fs.length = n) (h2 : n ≤ 4398046511000) (hb : b < w.heap.size) (hc : ∀ i, i < n → FC w b (o + i * 3) (fs.getD i default)) (hw : ∀ i, i < n → inR (fs.getD i default).a ∧ (fs.getD i default).c.size ≤ maxLen)
    (ht : tots fs = none) :
    Calls Try.prog 31 #[.slice (some ⟨b, o, none⟩) n cap, .func (.func 29) #[] #[], .func (.func 30) #[] #[], .func (.func 32) #[] #[]] w fun e w' => e = .returned (.tuple #[.slice none 0 0, .int .i64 1]) ∧ Below w.heap.size w w' := by
  have HC := Lib.hid hc
  have HW := Lib.hid hw
  have HT := Lib.hid ht
  clear hc hw ht
  have hmm := @run_makeMap Try.prog
  go_enter Try.func31, Try.ntmps31
  go_wp2
  go_loopw [22] (fun t wr => ∃ k : Nat, ∃ D acc, k ≤ n ∧ t = .int .i64 k ∧ wr.ownsMap Try.prog 9 (plainElem Try.prog 3) w.heap.size k D ∧ RowKit.Hid (tots (fs.take k) = some acc) ∧ RowKit.Hid (Sums D acc) ∧ Below w.heap.size w wr) (fun t _ => n - (intOf t).toNat)
  case atStart => exact ⟨0, _, _, by omega, rfl, World.ownsMap_made _ _ _ _, rfl, sums_none, (Below.refl _ _).alloc (Nat.le_refl _) _⟩
  case round =>
    obtain ⟨k, D, acc, hk, rfl, hown, hT, hS, hB⟩ := hrel
    by_cases hlt : k < n
    · obtain ⟨c0, c1, c2⟩ := (HC.out k hlt).later hB hb
      have kc : (k : Int) < (n : Int) := by omega
      obtain ⟨f, hf⟩ : ∃ f, fs.getD k default = f := ⟨_, rfl⟩
      have HN := Lib.hid (tots_step (k := k) (f := f) (by omega) hf)
      have HV := Lib.hid (HW.out k hlt)
      rw [hf] at c0 c1 c2 HV
      clear hf
      obtain ⟨fd, fc, fa⟩ := f
      simp only at c0 c1 c2
      obtain ⟨s, hs⟩ : ∃ s, (sumAt fc acc).getD 0 = s := ⟨_, rfl⟩
      have HD := Lib.hid (p := ∀ c : Int, D.atKey (lit fc) (.lit (.int .i64 0)) = .lit (.int .i64 c) → c = s) (fun c e => by
        rw [hS.out.2.1 fc, hs] at e; injection e with e; injection e with _ e; exact e.symm)
      have hkey := keyS HV.out.2
      have BB := Lib.hid hB
      clear hB
      by_cases hfit : inR (s + fa)
      · have KA := Lib.hid (p := ∀ c : Int, D.atKey (lit fc) (.lit (.int .i64 0)) = .lit (.int .i64 c) → (Lit.int .i64 c).wf = true → ∀ W, Calls Try.prog 41 #[.int .i64 c, .int .i64 fa] W fun e w' => e = .returned (.tuple #[.int .i64 (s + fa), .int .i64 0]) ∧ w' = W) (fun c e hwc W => by
          refine (add_any c fa (wf_inR hwc) HV.out.1 W).mono ?_
          rw [HD.out c e, fitV_in hfit, fitF_in hfit]
          exact fun _ _ h => h)
        have NX := Lib.hid (p := tots (fs.take (k + 1)) = some (setAt fc (s + fa) acc)) (by
          rw [HN.out, hT.out]; simp only [Option.bind_some, hs]; rw [if_pos (fitB_in hfit)])
        have SX := Lib.hid (hS.out.set fc (s + fa))
        have WX := Lib.hid (wf_ofT hfit)
        generalize s + fa = S at *
        clear HN HD hs
        go_wp2_with (first
          | (go_at_call 29; refine (totKey_any fd fa fc _).mono ?_; rintro e w1 ⟨rfl, rfl⟩)
          | (at_lookup; refine wpList_lookup_own_int _ rfl _ _ 90 rfl 9 3 .i64 lawS Try.underlying90 Try.underlying3 (zeroIT _) w.heap.size k _ rfl ((hown.alloc _).alloc _) _ _ rfl hkey ?_; intro c hat hwc; have HA := Lib.hid (KA.out c hat hwc); clear hat hwc)
          | (go_at_call 41; refine (HA.out _).mono ?_; rintro e w1 ⟨rfl, rfl⟩)
          | (at_mapUpdate; refine wpList_mapUpdate_own _ rfl _ _ _ 90 rfl 9 3 lawS Try.underlying90 _ w.heap.size k _ rfl ((hown.alloc _).alloc _) (by unfold maxLen; omega) _ _ _ rfl rfl hkey _ [] (plainElem_int Try.underlying3 WX.out) ?_; intro w1 hown1 hgrow1))
        have R1 := Lib.hid hown1
        have R2 := Lib.hid (((BB.out.alloc BB.out.size _).alloc (Nat.le_trans BB.out.size (by simp)) _).grown hgrow1 (Nat.le_trans BB.out.size (by simp; omega)) (fun j hj => by cases hj; exact Nat.le_refl _))
        clear hown1 hgrow1
        go_roundw
        case rel => exact ⟨k + 1, _, _, by omega, by go_num, R1.out, NX.out, SX.out, R2.out⟩
        case measure => simp [intOf]; omega
      · have KA := Lib.hid (p := ∀ c : Int, D.atKey (lit fc) (.lit (.int .i64 0)) = .lit (.int .i64 c) → (Lit.int .i64 c).wf = true → ∀ W, Calls Try.prog 41 #[.int .i64 c, .int .i64 fa] W fun e w' => e = .returned (.tuple #[.int .i64 0, .int .i64 1]) ∧ w' = W) (fun c e hwc W => by
          refine (add_any c fa (wf_inR hwc) HV.out.1 W).mono ?_
          rw [HD.out c e, fitV_out hfit, fitF_out hfit]
          exact fun _ _ h => h)
        clear HN HD hs hfit
        go_wp2_with (first
          | (go_at_call 29; refine (totKey_any fd fa fc _).mono ?_; rintro e w1 ⟨rfl, rfl⟩)
          | (at_lookup; refine wpList_lookup_own_int _ rfl _ _ 90 rfl 9 3 .i64 lawS Try.underlying90 Try.underlying3 (zeroIT _) w.heap.size k _ rfl ((hown.alloc _).alloc _) _ _ rfl hkey ?_; intro c hat hwc; have HA := Lib.hid (KA.out c hat hwc); clear hat hwc)
          | (go_at_call 41; refine (HA.out _).mono ?_; rintro e w1 ⟨rfl, rfl⟩))
        go_ret2
        exact ⟨rfl, (BB.out.alloc BB.out.size _).alloc (Nat.le_trans BB.out.size (by simp)) _⟩
    · exfalso
      obtain rfl : k = n := by omega
      have := hT.out
      rw [List.take_of_length_le (by omega), HT.out] at this
      cases this
end Go.Proofs.Ythhacbelbkkcmaa

namespace Go.Proofs.Ythhacbelbkkcmaa
open Go.RowKit Go.Maps
set_option linter.unusedVariables false
set_option linter.unusedSimpArgs false

theorem keyS_inv {key : Value} {kl : Lit} (h : keyOf Try.prog 9 key = some kl) : ∃ s, key = .string s ∧ kl = lit s := by
  cases key <;> simp [keyOf, Try.underlying9, mapKey] at h
  exact ⟨_, rfl, h.2.symm⟩

theorem wp_next_s {ops : Array Oper} {rest : List Oper} {o : Oper} {a : Act} {Q : Exit → Act → World → Prop} (w : World) (hg : o.guard = none) (it : Operand) (hop : o.op = Op.next it false)
    (b r n : Nat) (D : DataW Unit) (left : Lit → Bool) (cnt : Nat) (hit : a.eval it = .pointer (some ⟨r, 0, none⟩)) (h : w.ranges Try.prog 9 (plainElem Try.prog 3) b r n D left cnt)
    (hDone : cnt = 0 → (∀ kl, left kl = false) → wpList Try.prog ops Q rest (a.put o.dst (.tuple #[.bool false])) w)
    (hMore : ∀ (x : ByteArray) (c : Int) (w' : World) (cnt' : Nat), left (lit x) = true → (∀ zd, D.atKey (lit x) zd = .lit (.int .i64 c)) → w'.ranges Try.prog 9 (plainElem Try.prog 3) b r n D (fun z => left z && !z.sameKey (lit x)) cnt' → cnt' < cnt →
      w.grownBy w' (some r) → w'.heap.size = w.heap.size → (Instr.entry (.pointer (some ⟨r, 0, none⟩))).run Try.prog w' = .ok (.tuple #[.string x, .int .i64 c]) w' → wpList Try.prog ops Q rest (a.put o.dst (.tuple #[.bool true, .string x, .int .i64 c])) w') :
    wpList Try.prog ops Q (o :: rest) a w :=
  wpList_next_ranges w hg it hop 9 lawS (plainElem Try.prog 3) Value.string (Value.int .i64) (fun key kl hkey => by obtain ⟨x, rfl, _⟩ := keyS_inv hkey; exact ⟨x, rfl⟩) (fun v y hv => by obtain ⟨c, rfl, _⟩ := plainElem_int_inv Try.underlying3 hv; exact ⟨c, rfl⟩)
    b r n D left cnt hit h hDone (fun x c kl y w' cnt' hkey hlk hv hat hrg hlt hgr hsz hen => by
      obtain ⟨x', ex, rfl⟩ := keyS_inv hkey
      cases ex
      obtain ⟨c', ec, rfl, hwc⟩ := plainElem_int_inv Try.underlying3 hv
      cases ec
      exact hMore x c w' cnt' hlk hat hrg hlt hgr hsz hen)
end Go.Proofs.Ythhacbelbkkcmaa

namespace Go.Proofs.Ythhacbelbkkcmaa
open Go.RowKit Go.Maps
set_option linter.unusedVariables false
set_option linter.unusedSimpArgs false

/-- What is asked of slices.SortFunc at Totals (WSort pays it). -/
def SortsT : Prop := ∀ (B g cap : Nat) (ts : List (ByteArray × Int)) (w : World), ts.length ≤ 4398046511000 → w.ownsRow B 57 2 (.slice (some ⟨g, 0, none⟩) ts.length cap) ts.length (tcs ts) →
  Calls Try.prog 47 #[.slice (some ⟨g, 0, none⟩) ts.length cap, .func (.func 32) #[] #[]] w fun e w' => e = .returned (.tuple #[]) ∧ ∃ ts' : List (ByteArray × Int), ts'.Perm ts ∧ ts'.Pairwise (fun x y => sLt y.1 x.1 = false) ∧ (∀ N, N ≤ g → N ≤ w.heap.size → Below N w w') ∧ w'.ownsRow B 57 2 (.slice (some ⟨g, 0, none⟩) ts.length cap) ts'.length (tcs ts')

theorem row_apart {w : World} {base : Nat} {e : TypeId} {sz : Nat} {v : Value} {m : Nat} {xs : List Value} {b r n : Nat} {D : DataW Unit} {left : Lit → Bool} {cnt : Nat} (h : w.ownsRow base e sz v m xs) (hr : w.ranges Try.prog 9 (plainElem Try.prog 3) b r n D left cnt) : some b ≠ v.ownBlock ∧ some r ≠ v.ownBlock := by
  obtain ⟨es, clock, since, seen, c0, hb, _, _, _, hr, _⟩ := hr
  rcases h.2 with ⟨rfl, _⟩ | ⟨g, cap, cur, rfl, _, hg, _⟩
  · simp [Value.ownBlock]
  · constructor
    · intro q; simp [Value.ownBlock] at q; subst q; rw [hg] at hb; cases hb
    · intro q; simp [Value.ownBlock] at q; subst q; rw [hg] at hr; cases hr

set_option maxHeartbeats 2000000 in
set_option maxRecDepth 100000 in
theorem addUpT_fits (b o n cap : Nat) (fs : List Fl) (w : World) (h1 : fs.length = n) (h2 : n ≤ 4398046511000) (hb : b < w.heap.size) (hc : ∀ i, i < n → FC w b (o + i * 3) (fs.getD i default)) (hw : ∀ i, i < n → inR (fs.getD i default).a ∧ (fs.getD i default).c.size ≤ maxLen)
    (A : List (ByteArray × Int)) (ht : tots fs = some A) (hsort : SortsT) :
    Calls Try.prog 31 #[.slice (some ⟨b, o, none⟩) n cap, .func (.func 29) #[] #[], .func (.func 30) #[] #[], .func (.func 32) #[] #[]] w fun e w' => ∃ v ts, e = .returned (.tuple #[v, .int .i64 0]) ∧ Below w.heap.size w w' ∧ ts.Perm A ∧ ts.Pairwise (fun x y => sLt y.1 x.1 = false) ∧ w'.ownsRow w.heap.size 57 2 v ts.length (tcs ts) := by
  have HC := Lib.hid hc
  have HW := Lib.hid hw
  have HT := Lib.hid ht
  clear hc hw ht
  have hmm := @run_makeMap Try.prog
  go_enter Try.func31, Try.ntmps31
  go_wp2
  go_loopw [22] (fun t wr => ∃ k : Nat, ∃ D acc, k ≤ n ∧ t = .int .i64 k ∧ wr.ownsMap Try.prog 9 (plainElem Try.prog 3) w.heap.size k D ∧ RowKit.Hid (tots (fs.take k) = some acc) ∧ RowKit.Hid (Sums D acc) ∧ Below w.heap.size w wr) (fun t _ => n - (intOf t).toNat)
  case atStart => exact ⟨0, _, _, by omega, rfl, World.ownsMap_made _ _ _ _, rfl, sums_none, (Below.refl _ _).alloc (Nat.le_refl _) _⟩
  case round =>
    obtain ⟨k, D, acc, hk, rfl, hown, hT, hS, hB⟩ := hrel
    by_cases hlt : k < n
    · obtain ⟨c0, c1, c2⟩ := (HC.out k hlt).later hB hb
      have kc : (k : Int) < (n : Int) := by omega
      obtain ⟨f, hf⟩ : ∃ f, fs.getD k default = f := ⟨_, rfl⟩
      have HN := Lib.hid (tots_step (k := k) (f := f) (by omega) hf)
      have HV := Lib.hid (HW.out k hlt)
      rw [hf] at c0 c1 c2 HV
      clear hf
      obtain ⟨fd, fc, fa⟩ := f
      simp only at c0 c1 c2
      obtain ⟨s, hs⟩ : ∃ s, (sumAt fc acc).getD 0 = s := ⟨_, rfl⟩
      have HD := Lib.hid (p := ∀ c : Int, D.atKey (lit fc) (.lit (.int .i64 0)) = .lit (.int .i64 c) → c = s) (fun c e => by
        rw [hS.out.2.1 fc, hs] at e; injection e with e; injection e with _ e; exact e.symm)
      have hkey := keyS HV.out.2
      have BB := Lib.hid hB
      clear hB
      by_cases hfit : inR (s + fa)
      · have KA := Lib.hid (p := ∀ c : Int, D.atKey (lit fc) (.lit (.int .i64 0)) = .lit (.int .i64 c) → (Lit.int .i64 c).wf = true → ∀ W, Calls Try.prog 41 #[.int .i64 c, .int .i64 fa] W fun e w' => e = .returned (.tuple #[.int .i64 (s + fa), .int .i64 0]) ∧ w' = W) (fun c e hwc W => by
          refine (add_any c fa (wf_inR hwc) HV.out.1 W).mono ?_
          rw [HD.out c e, fitV_in hfit, fitF_in hfit]
          exact fun _ _ h => h)
        have NX := Lib.hid (p := tots (fs.take (k + 1)) = some (setAt fc (s + fa) acc)) (by
          rw [HN.out, hT.out]; simp only [Option.bind_some, hs]; rw [if_pos (fitB_in hfit)])
        have SX := Lib.hid (hS.out.set fc (s + fa))
        have WX := Lib.hid (wf_ofT hfit)
        generalize s + fa = S at *
        clear HN HD hs
        go_wp2_with (first
          | (go_at_call 29; refine (totKey_any fd fa fc _).mono ?_; rintro e w1 ⟨rfl, rfl⟩)
          | (at_lookup; refine wpList_lookup_own_int _ rfl _ _ 90 rfl 9 3 .i64 lawS Try.underlying90 Try.underlying3 (zeroIT _) w.heap.size k _ rfl ((hown.alloc _).alloc _) _ _ rfl hkey ?_; intro c hat hwc; have HA := Lib.hid (KA.out c hat hwc); clear hat hwc)
          | (go_at_call 41; refine (HA.out _).mono ?_; rintro e w1 ⟨rfl, rfl⟩)
          | (at_mapUpdate; refine wpList_mapUpdate_own _ rfl _ _ _ 90 rfl 9 3 lawS Try.underlying90 _ w.heap.size k _ rfl ((hown.alloc _).alloc _) (by unfold maxLen; omega) _ _ _ rfl rfl hkey _ [] (plainElem_int Try.underlying3 WX.out) ?_; intro w1 hown1 hgrow1))
        have R1 := Lib.hid hown1
        have R2 := Lib.hid (((BB.out.alloc BB.out.size _).alloc (Nat.le_trans BB.out.size (by simp)) _).grown hgrow1 (Nat.le_trans BB.out.size (by simp; omega)) (fun j hj => by cases hj; exact Nat.le_refl _))
        clear hown1 hgrow1
        go_roundw
        case rel => exact ⟨k + 1, _, _, by omega, by go_num, R1.out, NX.out, SX.out, R2.out⟩
        case measure => simp [intOf]; omega
      · exfalso
        have q := HN.out
        rw [hT.out] at q
        simp only [Option.bind_some, hs] at q
        rw [if_neg (by rw [fitB_out hfit]; simp)] at q
        have := tots_no q
        rw [HT.out] at this
        cases this
    · obtain rfl : k = n := by omega
      have hA : acc = A := by
        have := hT.out
        rw [List.take_of_length_le (by omega), HT.out] at this
        injection this with this; exact this.symm
      subst hA
      have HND := Lib.hid (tally_apart (acc := []) List.nodup_nil HT.out)
      have hsl := hown.size_le
      obtain ⟨i0, hi, hz0, hz1, hz2⟩ := info_parts infoT
      have BB := Lib.hid hB
      go_wp2_with (first
        | (at_len; refine wpList_len_own _ rfl _ 90 rfl 9 3 Try.underlying90 _ w.heap.size k _ rfl hown ?_)
        | (at_make; refine wpList_make_own _ rfl _ _ 28 rfl w.heap.size 57 i0 (.agg #[.string ⟨#[]⟩, .int .i64 0]) 2 Try.underlying28 hi hz0 hz1 .i64 .i64 _ (Maps.size D) rfl rfl rfl (by rw [hz2]; omega) (by unfold maxLen; omega) BB.out.size ?_; intro w0 hown0 hg0)
        | (at_range; refine wpList_range_own _ rfl _ 90 rfl 9 3 lawS Try.underlying90 _ w.heap.size k _ rfl (hown.kept hg0 (by simp)) ?_; intro w1 hrg1 hg1 hs1))
      go_frame
      go_loopw [16] (fun v wr2 => ∃ (left : Lit → Bool) (cnt : Nat) (out : List (ByteArray × Int)), wr2.ranges Try.prog 9 (plainElem Try.prog 3) w.heap.size w0.heap.size k D left cnt ∧ wr2.ownsRow w.heap.size 57 2 v out.length (tcs out) ∧ RowKit.Hid (Gath acc left out) ∧ out.length + cnt ≤ Maps.size D ∧ (∃ g cp, v = .slice (some ⟨g, 0, none⟩) out.length cp) ∧ Below w.heap.size w wr2) (fun _ wr2 => wr2.rangeLeft w.heap.size w0.heap.size)
      case atStart => exact ⟨_, _, [], hrg1, hown0.kept hg1 (.inr (by simp [Value.ownBlock])), gath_start hS.out, by simp, ⟨_, _, rfl⟩, (BB.out.grown hg0 BB.out.size (fun j hj => by cases hj)).grown hg1 (Nat.le_trans BB.out.size hg0.size) (fun j hj => by cases hj)⟩
      case round =>
        obtain ⟨left, cnt, out, hrg, hO, hG, hL, ⟨g, cp, rfl⟩, hB2⟩ := hrel
        have hap := row_apart hO hrg
        go_wp2_with (at_next; refine wp_next_s _ rfl _ rfl w.heap.size w0.heap.size k _ _ _ rfl hrg ?_ ?_)
        · intro hc0 hl0
          have HP := Lib.hid (gath_end HND.out hG.out hl0)
          have hgB : w.heap.size ≤ g := (hO.lt g rfl).1
          clear hc0 hl0
          go_wp2_with (go_at_call 47; refine (hsort w.heap.size g cp out _ (by omega) hO).mono ?_; rintro e w3 ⟨rfl, ts, hp, hs, hb3, ho3⟩)
          go_ret2
          exact ⟨_, ts, rfl, hB2.trans (hb3 _ hgB hB2.size), hp.trans HP.out, hs, ho3⟩
        · intro x c w2 cnt2 hlx hat hrg2 hlt2 hg2 hs2 hen
          have hO2 := hO.kept hg2 (.inr hap.2.symm)
          have HX := Lib.hid (gath_step hS.out hG.out hlx (has_true_of_atKey hat) (hat _))
          have B2 := Lib.hid (hB2.grown hg2 hB2.size (fun j hj => by cases hj; exact Nat.le_trans BB.out.size hg0.size))
          clear hat hlx hs2
          go_wp2_with (first
            | (go_at_call 30; refine (totTold_any x c _).mono ?_; rintro e w3 ⟨rfl, rfl⟩)
            | (at_builtin; refine wp_total _ c x rfl _ _ rfl w.heap.size _ out rfl (by simp only [World.size_alloc]; rfl) (hO2.alloc _) (by omega) (Nat.le_trans B2.out.size (by simp)) ?_; intro v' w4 ho4 hg4))
          obtain ⟨g', cp', rfl⟩ := own_sliceT ho4
          have hg5 := ((World.grownBy_alloc w2 _ _).trans (World.grownBy_alloc _ _ _)).trans hg4
          have R1 := Lib.hid (hrg2.kept hg5 hap.1 hap.2)
          have R2 := Lib.hid (B2.out.grown hg5 B2.out.size (fun j e => (hO2.lt j e).1))
          have R3 := Lib.hid ho4
          clear ho4 hg4
          go_wp2
          go_roundw
          case rel => exact ⟨_, cnt2, _, R1.out, R3.out, HX.out, by simp; omega, ⟨_, _, rfl⟩, R2.out⟩
          case measure => rw [R1.out.left_eq, hrg.left_eq]; exact hlt2
end Go.Proofs.Ythhacbelbkkcmaa
