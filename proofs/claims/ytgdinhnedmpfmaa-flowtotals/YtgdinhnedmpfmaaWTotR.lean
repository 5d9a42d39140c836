/-
  WALKS: Totals (the document's), sameTotals, twin.
-/
import Derived.Test.YtgdinhnedmpfmaaWSumsR
import Derived.Test.YtgdinhnedmpfmaaWTotals
import Derived.Deep.AppendLies
namespace Go.Proofs.Ytgdinhnedmpfmaa
open Go.RowKit
set_option linter.unusedVariables false
set_option linter.unusedSimpArgs false

theorem step_total {ops : Array Oper} {o : Oper} {a : Act} {K : Act → World → Prop} {Q : Exit → Act → World → Prop} {E : Prop} (w : World) (hgd : o.guard = none) (s x : Operand)
    (ho : o.op = .call { callee := .builtin .append, args := #[s, x], argTypes := #[24, 24] }) (base : Nat) (v : Value) (ts : List (ByteArray × Int)) (hs : a.eval s = v)
    (hown : w.ownsRow base 55 2 v ts.length (tcs ts)) (Bn : Nat) (c : ByteArray) (m : Int) (fr : Nat × Nat) (hx : a.eval x = .slice (some ⟨Bn, 0, none⟩) 1 1) (hb : w.heap[Bn]? = some (.cells #[.string c, .int .i64 m] 55 fr)) (hl : ts.length ≤ 4398046511000) (hbase : base ≤ w.heap.size)
    (h : ∀ g cap w', w'.ownsRow base 55 2 (.slice (some ⟨g, 0, none⟩) (ts.length + 1) cap) (ts ++ [(c, m)]).length (tcs (ts ++ [(c, m)])) → w.grownBy w' v.ownBlock → K (a.put o.dst (.slice (some ⟨g, 0, none⟩) (ts.length + 1) cap)) w') :
    if Region.wanted o (yielded ops a.tmps) = true then Oper.wp Try.prog o a w K Q else E := by
  obtain ⟨i0, hi, hz0, hz1, hz2⟩ := info_parts infoT
  refine step_append_lies w hgd s x 24 ho base 55 i0 (.agg #[.string ⟨#[]⟩, .int .i64 0]) 2 24 Try.underlying24 hi hz0 hz1 hz2 rfl (by decide) v _ _ hs hown ⟨Bn, 0, none⟩ 1 1 (tc (c, m)) hx rfl (fun j u hj => World.news_of_block hb j u hj) ?_ (by omega) (by unfold maxLen; omega) (by omega) hbase w.heap.size rfl (fun g cap w' h1 h2 _ _ => h g cap w' (own_snocT h1) h2)
  intro u hu
  simp [tc] at hu
  rcases hu with rfl | rfl <;> rfl
def tz (f : Fl) : ByteArray × Int := (f.c, f.a)
/-- What the document's Totals answers. -/
def TotR (fs : List Fl) (B : Nat) (v : Value) (q : Int) (w : World) : Prop :=
  (tots fs = none ∧ v = .slice none 0 0 ∧ q = 1) ∨ ∃ A, tots fs = some A ∧ q = 0 ∧ w.ownsRow B 55 2 v ((exsort fLt (A.map fz)).map tz).length (tcs ((exsort fLt (A.map fz)).map tz))
theorem alloc_at (w : World) (b : Obj) : (w.alloc b).heap[w.heap.size]? = some b := by show (w.heap.push b)[w.heap.size]? = some b; simp
theorem take_next {l : List (ByteArray × Int)} {k : Nat} (hk : k < l.length) : l.take (k + 1) = l.take k ++ [l[k]] := by rw [List.take_add_one, List.getElem?_eq_getElem hk]; rfl
theorem apartTF {w : World} {B B' : Nat} {v v' : Value} {n n' : Nat} {xs ys : List Value} (h : w.ownsRow B 55 2 v n xs) (k : w.ownsRow B' 52 3 v' n' ys) : ∀ x, v'.ownBlock = some x → v.ownBlock ≠ some x := by
  intro x hx he
  rcases k.2 with ⟨rfl, _⟩ | ⟨g, c, cur, rfl, _, hg, _⟩
  · cases hx
  · simp [Value.ownBlock] at hx
    subst hx
    rcases h.2 with ⟨rfl, _⟩ | ⟨g', c', cur', rfl, _, hg', _⟩
    · cases he
    · simp [Value.ownBlock] at he
      subst he
      rw [hg] at hg'
      injection hg' with hg'
      injection hg' with _ hg' _
      revert hg'; decide
set_option maxRecDepth 100000 in
set_option maxHeartbeats 2000000 in
theorem totalsR_any (a : Option Addr) (n cap : Nat) (fs : List Fl) (w : World) (h : FL w a n fs) (hw : ∀ i, i < n → inR (fs.getD i default).a ∧ (fs.getD i default).c.size ≤ maxLen) (hlen : ∀ A, tots fs = some A → A.length ≤ 4398046511000) :
    Calls Try.prog 9 #[.slice a n cap] w fun e w' => ∃ v q, e = .returned (.tuple #[v, .int .i64 q]) ∧ Below w.heap.size w w' ∧ TotR fs w.heap.size v q w' := by
  have K := Lib.hid (sumsT_any a n cap fs w h hw)
  clear h hw
  go_enter Try.func9, Try.ntmps9
  go_wp2_with fail
  refine K.out.mono ?_
  rintro e w1 ⟨hS, hB⟩
  have B1 := Lib.hid hB
  rcases hS with ⟨hN, rfl⟩ | ⟨A, v1, hA, rfl, hO⟩
  · clear hB
    go_wp2
    go_ret2
    exact ⟨_, 1, rfl, B1.out, .inl ⟨hN, rfl, rfl⟩⟩
  · have LA := Lib.hid (p := (exsort fLt (A.map fz)).length ≤ 4398046511000) (by rw [(exsort_perm fLt _ _ rfl).length_eq, List.length_map]; exact hlen A hA)
    have TA := Lib.hid (p := ∀ v w', w'.ownsRow w.heap.size 55 2 v ((exsort fLt (A.map fz)).map tz).length (tcs ((exsort fLt (A.map fz)).map tz)) → TotR fs w.heap.size v 0 w') (fun v w' o => .inr ⟨A, hA, rfl, o⟩)
    generalize exsort fLt (A.map fz) = ls at *
    obtain ⟨m, hm⟩ : ∃ m, ls.length = m := ⟨_, rfl⟩
    have HM := Lib.hid hm
    obtain ⟨aL, cL, rfl⟩ := formF' hO
    have O1 := Lib.hid hO
    have GF := Lib.hid (p := 0 < m → ∃ g, aL = some ⟨g, 0, none⟩) (fun h0 => by
      rcases formF hO with ⟨_, q⟩ | ⟨g, cc, q⟩
      · omega
      · injection q with q1; exact ⟨g, q1⟩)
    rw [hm] at O1 ⊢
    have m43 : m ≤ 4398046511000 := by rw [← hm]; exact LA.out
    clear hO hB hm hA hlen
    go_wp2
    go_loopw [6, 7] (fun v t wr => ∃ i : Nat, i ≤ m ∧ t = .int .i64 (i : Int) ∧ wr.ownsRow w.heap.size 55 2 v ((ls.map tz).take i).length (tcs ((ls.map tz).take i)) ∧ OwnF wr w.heap.size (.slice aL m cL) ls ∧ Below w.heap.size w wr) (fun _ t _ => m - (intOf t).toNat)
    case atStart => exact ⟨0, by omega, rfl, ⟨rfl, .inl ⟨rfl, rfl⟩⟩, O1.out, B1.out⟩
    case round =>
      rename World => wr
      obtain ⟨i, hi, rfl, hT, hO, hB⟩ := hrel
      have TT := Lib.hid hT
      have OO := Lib.hid hO
      have BB := Lib.hid hB
      by_cases hlt : i < m
      · obtain ⟨g, rfl⟩ := GF.out (by omega)
        have hil : i < ls.length := by rw [HM.out]; exact hlt
        obtain ⟨c0, c1, c2⟩ := fcF' hO HM.out i hlt (ls[i]'hil) (by simp [hil])
        have ic : (i : Int) < (m : Int) := by omega
        have NX := Lib.hid (p := (ls.map tz).take (i + 1) = (ls.map tz).take i ++ [((ls[i]'hil).c, (ls[i]'hil).a)]) (by rw [take_next (by simpa using hil)]; simp [tz])
        have TLN := Lib.hid (p := ((ls.map tz).take i).length = i) (by simp; omega)
        have gw := (OO.out.lt g rfl).2
        have FX := Lib.hid (fun W (o : OwnF W w.heap.size (.slice (some ⟨g, 0, none⟩) m cL) ls) => (fcF' o HM.out i hlt (ls[i]'hil) (by simp [hil])).2)
        generalize (ls[i]'hil).c = fc at *
        generalize (ls[i]'hil).a = fa at *
        clear hT hO hB c0
        have A0 := Lib.hid (BB.out.alloc BB.out.size (.cells #[.string fc, .int .i64 fa] 55))
        have T0 := Lib.hid (TT.out.alloc (.cells #[.string fc, .int .i64 fa] 55))
        have F0 := Lib.hid (OO.out.alloc (.cells #[.string fc, .int .i64 fa] 55))
        have L0 := Lib.hid (p := ((ls.map tz).take i).length ≤ 4398046511000) (by rw [TLN.out]; omega)
        have H0 := Lib.hid (alloc_at wr (.cells #[.string fc, .int .i64 fa] 55))
        have D0 := Lib.hid (p := Below w.heap.size w (wr.alloc (.cells #[.string fc, .int .i64 fa] 55)).drew) ⟨A0.out.os, A0.out.tape, A0.out.output, A0.out.size, A0.out.block⟩
        have AP := Lib.hid (p := (Value.slice (some ⟨g, 0, none⟩) m cL).ownBlock ≠ u6.ownBlock) (fun e => apartTF T0.out F0.out g rfl e.symm)
        have N0 := Lib.hid (p := ∀ w1, (wr.alloc (.cells #[.string fc, .int .i64 fa] 55)).drew.grownBy w1 u6.ownBlock → Below w.heap.size w w1 ∧ OwnF w1 w.heap.size (.slice (some ⟨g, 0, none⟩) m cL) ls) (fun w1 h2 => ⟨Below.grown D0.out h2 D0.out.size (fun k e => (T0.out.lt k e).1), by
          refine World.ownsRow.kept ?_ h2 (.inr AP.out)
          exact F0.out⟩)
        go_wp2
        go_region_held3 (fun w' => w'.cell? ⟨g, i * 3 + 1, none⟩ = some (.string fc) ∧ w'.cell? ⟨g, i * 3 + 2, none⟩ = some (.int .i64 fa))
          (refine ⟨?_, ?_⟩ <;> first | assumption | (go_simp; done))
          (first | (refine step_total _ rfl _ _ rfl w.heap.size u6 ((ls.map tz).take i) rfl T0.out wr.heap.size fc fa (0, 0) rfl H0.out L0.out D0.out.size ?_; intro g' cap' w1 h1 h2; have T1 := Lib.hid h1; have B1 := Lib.hid (N0.out w1 h2).1; have O1 := Lib.hid (N0.out w1 h2).2; obtain ⟨d1, d2⟩ := FX.out w1 O1.out; clear h1 h2))
        go_wp2
        go_roundw
        case rel => exact ⟨i + 1, by omega, by go_num, by rw [NX.out]; first | exact T1.out | (have := T1.out; simpa using this), O1.out, B1.out⟩
        case measure => simp [intOf]; omega
      · obtain rfl : i = m := by omega
        have EX := Lib.hid (p := (ls.map tz).take i = ls.map tz) (by rw [List.take_of_length_le]; simp [HM.out])
        go_wp2
        go_ret2
        exact ⟨_, 0, rfl, BB.out, TA.out _ _ (by have := TT.out; rw [EX.out] at this; exact this)⟩
end Go.Proofs.Ytgdinhnedmpfmaa
