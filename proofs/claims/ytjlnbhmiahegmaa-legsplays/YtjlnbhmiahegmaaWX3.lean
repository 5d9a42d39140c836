/-
  WALK: legs.Nodes (a list of lists that are left).
-/
import Derived.Test.YtjlnbhmiahegmaaWX1
import Derived.Laws.AppendOwn
import Derived.Laws.AppendOwnNone
import Derived.Laws.OwnMore
import Derived.Maps.AppendAt
namespace Go.Proofs.Ytjlnbhmiahegmaa
open Go.RowKit
set_option linter.unusedVariables false
set_option linter.unusedSimpArgs false

/-- A list of expressions, where it lies. -/
def XL (w : World) (v : Value) (es : List Xt) : Prop := ∃ (a : Option Addr) (c : Nat) (V : Nat → List Value), v = .slice a es.length c ∧ Hd a es.length c ∧ es.length ≤ 8796093021952 ∧ Row w a es.length 4 V ∧ ∀ i, i < es.length → XV w (es.getD i default) (V i)
def Xt.nss : List (List Xt) → Nat
  | [] => 0
  | l :: r => Xt.ns l + Xt.nss r
theorem Xt.nss_append (a b : List (List Xt)) : Xt.nss (a ++ b) = Xt.nss a + Xt.nss b := by
  induction a with
  | nil => simp [Xt.nss]
  | cons x r ih => simp only [List.cons_append, Xt.nss, ih]; omega
def lenOf : Value → Nat
  | .slice _ n _ => n
  | _ => 0
theorem lenOf_slice (a : Option Addr) (n c : Nat) : lenOf (.slice a n c) = n := rfl
theorem infoXL : (Try.prog.info? 22).map (fun i => (i.zero, i.size, i.bytes)) = some (some (.slice none 0 0), 1, 24) := by kernel_rfl
/-- What is left to be looked at: lists in a row of one's own. -/
def Lft (w0 : World) (B : Nat) (wr : World) (v : Value) (Ls : List (List Xt)) : Prop := ∃ xs : List Value, wr.ownsRow B 22 1 v Ls.length xs ∧ ∀ i, i < Ls.length → XL w0 (xs.getD i default) (Ls.getD i [])
theorem XL.later {w w' : World} {v es} (h : XL w v es) (b : Below w.heap.size w w') : XL w' v es := by
  obtain ⟨a, c, V, h1, h2, h3, h4, h5⟩ := h
  exact ⟨a, c, V, h1, h2, h3, h4.later b, fun i hi => (h5 i hi).later b⟩
theorem xown_zero {w : World} {B e : Nat} {v : Value} {xs : List Value} (h : w.ownsRow B e 1 v 0 xs) : v = .slice none 0 0 ∨ ∃ g cap, v = .slice (some ⟨g, 0, none⟩) 0 cap := by
  rcases h.2 with ⟨h, _⟩ | ⟨g, cap, _, h, _⟩
  · exact .inl h
  · exact .inr ⟨g, cap, h⟩
theorem xown_one {w : World} {B e n : Nat} {v : Value} {xs : List Value} (h : w.ownsRow B e 1 v (n + 1) xs) : ∃ g cap, v = .slice (some ⟨g, 0, none⟩) (n + 1) cap := by
  rcases h.2 with ⟨_, h⟩ | ⟨g, cap, _, h, _⟩
  · omega
  · exact ⟨g, cap, h⟩
/-- A row of one's own without its last one. -/
theorem xown_pop {w : World} {B e : Nat} {a : Option Addr} {n m cap : Nat} {xs : List Value} (h : w.ownsRow B e 1 (.slice a (n + 1) cap) (n + 1) xs) : w.ownsRow B e 1 (.slice a n cap) n (xs.take n) := by
  obtain ⟨h1, h2⟩ := h
  rcases h2 with ⟨h2, h3⟩ | ⟨g, cap', cur, h2, h3, h4, h5, h6, h7, h8⟩
  · omega
  · injection h2 with e1 e2 e3
    subst e1 e3
    refine ⟨by simp; omega, .inr ⟨g, cap, cur, rfl, h3, h4, by omega, h6, h7, ?_⟩⟩
    rw [← h8, List.take_take]; congr 1; omega
theorem xown_cell {w : World} {B e : Nat} {g n cap : Nat} {xs : List Value} (h : w.ownsRow B e 1 (.slice (some ⟨g, 0, none⟩) n cap) n xs) : B ≤ g ∧ n ≤ cap ∧ xs.length = n ∧ ∀ i, i < n → w.cell? ⟨g, i, none⟩ = some (xs.getD i default) := by
  obtain ⟨h1, h2⟩ := h
  rcases h2 with ⟨h2, h3⟩ | ⟨g', cap', cur, h2, h3, h4, h5, h6, h7, h8⟩
  · cases h2
  · injection h2 with e1 e2 e3
    injection e1 with e1
    injection e1 with e1
    subst e1 e3
    refine ⟨h3, h5, by omega, fun i hi => ?_⟩
    have e : w.cell? ⟨g, i, none⟩ = cur[i]? := by simp [World.cell?, h4]
    rw [e, ← h8, List.getD_eq_getElem?_getD, List.getElem?_take_of_lt (by omega)]
    have : i < cur.size := by omega
    simp [this]
/-- 'l = append(l, x)' of a row of lists. -/
theorem wp_xl {ops : Array Oper} {rest : List Oper} {o : Oper} {a : Act} {Q : Exit → Act → World → Prop} (w : World) (x : Value) (hx1 : x.oneCell' = true) (hgd : o.guard = none) (s y : Operand)
    (ho : o.op = .call { callee := .builtin .append, args := #[s, y], argTypes := #[91, 91] }) (base : Nat) (v : Value) (n : Nat) (xs : List Value) (hs : a.eval s = v)
    (hx : a.eval y = .slice (some ⟨w.heap.size, 0, none⟩) 1 1) (hown : w.ownsRow base 22 1 v n xs) (hl : n ≤ 4398046511000) (hb : base ≤ w.heap.size)
    (h : ∀ v' w', w'.ownsRow base 22 1 v' (n + 1) (xs ++ [x]) → (w.alloc (.cells #[x] 22)).grownBy w' v.ownBlock → wpList Try.prog ops Q rest (a.put o.dst v') w') :
    wpList Try.prog ops Q (o :: rest) a (w.alloc (.cells #[x] 22)) := by
  obtain ⟨i0, hi, hz0, hz1, hz2⟩ := info_parts infoXL
  refine wpList_append_own _ hgd s y 91 ho base 22 i0 (.slice none 0 0) 1 24 Try.underlying91 hi hz0 hz1 hz2 rfl (by decide) v _ _ hs (hown.alloc _) ⟨w.heap.size, 0, none⟩ 1 1 [x] hx rfl ?_ ?_ (by unfold maxLen; omega) (by omega) (by simp; omega) ?_
  · intro j u hj
    match j, hj with
    | 0, hj => simp at hj; subst hj; simp [Addr.add]
  · intro u hu
    simp at hu
    subst hu
    exact hx1
  · intro v' w' h1 h2 _
    exact h v' w' h1 h2
theorem wrap64_nat (n : Nat) (h : n ≤ 4398046511000) : IntKind.i64.wrap (n : Int) = (n : Int) := by simp [IntKind.wrap, IntKind.bits, IntKind.signed]; omega
theorem wrap64_sum (n m d : Nat) (e : n + m = d) (h : d ≤ 4398046511000) : IntKind.i64.wrap ((n : Int) + (m : Int)) = (d : Int) := by simp [IntKind.wrap, IntKind.bits, IntKind.signed]; omega
theorem ns_drop : ∀ (l : List Xt) (i : Nat), i < l.length → Xt.ns (l.drop i) = (l.getD i default).n + Xt.ns (l.drop (i + 1))
  | e :: r, 0, _ => by simp [Xt.ns]
  | e :: r, i + 1, h => by
    have := ns_drop r i (by simpa using h)
    simpa using this
theorem lft_snoc {w0 w w' : World} {B : Nat} {v v' : Value} {x : Value} {Ms : List (List Xt)} {ks : List Xt} {xs : List Value} (ho : w.ownsRow B 22 1 v Ms.length xs) (hx : ∀ i, i < Ms.length → XL w0 (xs.getD i default) (Ms.getD i []))
    (h : w'.ownsRow B 22 1 v' (Ms.length + 1) (xs ++ [x])) (hk : XL w0 x ks) : Lft w0 B w' v' (Ms ++ [ks]) := by
  have hl : xs.length = Ms.length := by have := ho.1; omega
  refine ⟨xs ++ [x], by simpa using h, fun i hi => ?_⟩
  by_cases e : i < Ms.length
  · have := hx i e
    rw [show (xs ++ [x]).getD i default = xs.getD i default by simp only [List.getD_eq_getElem?_getD, List.getElem?_append_left (show i < xs.length by omega)],
      show (Ms ++ [ks]).getD i [] = Ms.getD i [] by simp only [List.getD_eq_getElem?_getD, List.getElem?_append_left e]]
    exact this
  · obtain rfl : i = Ms.length := by simp at hi; omega
    rw [show (xs ++ [x]).getD Ms.length default = x by rw [← hl]; simp [List.getD], show (Ms ++ [ks]).getD Ms.length [] = ks by simp [List.getD]]
    exact hk
set_option maxHeartbeats 800000 in
theorem nodes_any {w0 : World} {e : Xt} {vs : List Value} (hE : XV w0 e vs) (w : World) (hB : Below w0.heap.size w0 w) (h1 : e.n ≤ 1048576) :
    Calls Try.prog 36 #[.agg vs.toArray] w (NdP e.n w) := by
  cases hE with
  | @mk op num day kids ka kc V wop wnum wday hk hn hr hkids =>
    obtain ⟨w1, hw1⟩ : ∃ w1, w.alloc (.cells #[.int .i64 op, .int .i64 num, .int .i64 day, .slice ka kids.length kc] 24) = w1 := ⟨_, rfl⟩
    obtain ⟨b1, x1, z1⟩ := NW.is hw1
    have B1 := Lib.hid b1
    have L0 := Lib.hid (show XL w0 (.slice ka kids.length kc) kids from ⟨ka, kc, V, rfl, hk, hn, hr, hkids⟩)
    have HB := Lib.hid hB
    obtain ⟨N, hN⟩ : ∃ N, (Xt.mk op num day kids).n = N := ⟨_, rfl⟩
    rw [hN] at h1 ⊢
    have HN := Lib.hid (show 1 + Xt.ns kids = N by rw [← hN]; rfl)
    have c3 := x1.c3
    clear b1 x1 hr hkids hB hN hk hn
    go_enter Try.func36, Try.ntmps36
    go_wp2
    go_region_held3 (fun w' => w'.cell? ⟨w.heap.size, 3, none⟩ = some (.slice ka kids.length kc)) (first | assumption | (go_simp; done)) (fail)
    go_wp2
    go_loopw [3, 4] (fun c l wr => ∃ (n : Nat) (Ls : List (List Xt)), c = .int .i64 n ∧ lenOf l = Ls.length ∧ RowKit.Hid (n + Xt.nss Ls = N ∧ Ls.length ≤ n) ∧ Lft w0 w1.heap.size wr l Ls ∧ Below w1.heap.size w1 wr) (fun c l _ => 2 * (N - (intOf c).toNat) + lenOf l)
    case atStart =>
      refine ⟨1, [kids], rfl, rfl, ⟨by have := HN.out; simp [Xt.nss]; omega, by simp⟩, ⟨[.slice ka kids.length kc], ⟨by simp, .inr ⟨w1.heap.size, 1, #[.slice ka kids.length kc], by rw [z1]; rfl, Nat.le_refl _, show (w1.alloc _).heap[w1.heap.size]? = _ from heap_alloc_new w1 _, by simp, by unfold maxLen; omega, rfl, rfl⟩⟩, fun i hi => ?_⟩, ((Below.refl _ _).alloc (Nat.le_refl _) _).drew⟩
      obtain rfl : i = 0 := by simpa using hi
      exact L0.out
    case round =>
      obtain ⟨n, Ls, rfl, hlen, hI, hL, hBr⟩ := hrel
      have BR := Lib.hid (B1.out.trans (hBr.mono B1.out.size))
      have BQ := Lib.hid hBr
      clear hBr c3
      rcases List.eq_nil_or_concat Ls with rfl | ⟨Ls, K, rfl⟩
      · obtain ⟨xs, ho, _⟩ := hL
        have e0 := xown_zero ho
        obtain rfl : n = N := by have := hI.out.1; simpa [Xt.nss] using this
        clear ho hlen hI
        rcases e0 with rfl | ⟨g, cap, rfl⟩
        · go_wp2
          go_ret
          exact ⟨rfl, BR.out⟩
        · go_wp2
          go_ret
          exact ⟨rfl, BR.out⟩
      · simp only [List.concat_eq_append] at *
        obtain ⟨xs, ho, hx⟩ := hL
        rw [List.length_append, List.length_singleton] at ho hx hlen
        obtain ⟨g, cap, rfl⟩ := xown_one ho
        obtain ⟨hg, hcap, hxl, hcell⟩ := xown_cell ho
        have q0 := hcell Ls.length (by omega)
        obtain ⟨a, c, V', hv, k1, k2, k3, k4⟩ := hx Ls.length (by omega)
        have eK : (Ls ++ [K]).getD Ls.length [] = K := by simp [List.getD]
        rw [eK] at hv k1 k2 k3 k4
        rw [hv] at q0
        have KR := Lib.hid k3
        have KV := Lib.hid k4
        have P0 := Lib.hid (xown_pop (m := 0) ho)
        have PX := Lib.hid (show ∀ i, i < Ls.length → XL w0 ((xs.take Ls.length).getD i default) (Ls.getD i []) from fun i hi => by
          have h := hx i (by omega)
          rw [show (Ls ++ [K]).getD i [] = Ls.getD i [] by simp [List.getD, List.getElem?_append_left hi]] at h
          rw [show (xs.take Ls.length).getD i default = xs.getD i default by simp only [List.getD_eq_getElem?_getD, List.getElem?_take_of_lt hi]]
          exact h)
        have NI := Lib.hid (show n + (Xt.nss Ls + Xt.ns K) = N ∧ Ls.length + 1 ≤ n by have := hI.out; rw [Xt.nss_append] at this; simp [Xt.nss] at this; omega)
        have KL := Lib.hid (ns_len K)
        obtain ⟨m, hm⟩ : ∃ m, K.length = m := ⟨_, rfl⟩
        obtain ⟨l, hl⟩ : ∃ l, Ls.length = l := ⟨_, rfl⟩
        have nb : n + m ≤ N := by have := NI.out.1; have := KL.out; omega
        have lb : l + 1 ≤ n := by have := NI.out.2; omega
        rw [hm] at q0 k1 k2 KR KV KL
        rw [hl] at q0 P0 PX hcap
        have h3 : l ≤ cap := by omega
        have h4 : (l : Int) ≤ (cap : Int) := by omega
        have h5 : (0 : Int) ≤ (l : Int) := by omega
        have HM := Lib.hid hm
        have HL := Lib.hid hl
        obtain ⟨d, hd⟩ : ∃ d, n + m = d := ⟨_, rfl⟩
        have nc : (d : Int) ≤ 1048576 := by omega
        have db : d ≤ N := by omega
        have l1 : l ≤ 4398046511000 := by omega
        have d1 : d ≤ 4398046511000 := by omega
        have kw2 := wrap64_nat l l1
        have kw3 := wrap64_sum n m d hd d1
        have HD := Lib.hid hd
        rw [hl]
        clear hm hl hd
        clear ho hx hcell hv k3 k4 eK hI hlen
        go_wp2
        rw [show decide ((1048576 : Int) < (d : Int)) = false from decide_eq_false (by omega)]
        go_loopw [4, 32] (fun v t wi => ∃ (i : Nat) (Ms : List (List Xt)), i ≤ m ∧ t = .int .i64 i ∧ lenOf v = Ms.length ∧ RowKit.Hid (d + Xt.nss Ms + Xt.ns (K.drop i) + i = N + m ∧ Ms.length ≤ l + i) ∧ Lft w0 w1.heap.size wi v Ms ∧ Below w1.heap.size w1 wi) (fun _ t _ => m - (intOf t).toNat)
        case atStart => exact ⟨0, Ls, by omega, rfl, HL.out.symm, (by have := NI.out.1; have := HD.out; have := HL.out; simp only [List.drop_zero]; exact (by omega : d + Xt.nss Ls + Xt.ns K + 0 = N + m ∧ Ls.length ≤ l + 0)), ⟨_, by rw [HL.out]; exact P0.out, fun i hi => PX.out i (by have := HL.out; omega)⟩, BQ.out⟩
        case round =>
          rename World => wi
          obtain ⟨i, Ms, hi, rfl, hln, hJ, hLf, hBi⟩ := hrel
          have BI := Lib.hid hBi
          by_cases il : i < m
          · have ic : (i : Int) < (m : Int) := by omega
            obtain ⟨x, of, rfl, hx, hc⟩ := KR.out.at (HB.out.trans ((B1.out.trans (hBi.mono B1.out.size)).mono HB.out.size)) (by omega)
            have e3 := hc i il 3 (by omega)
            have hv := KV.out i il
            obtain ⟨xs', ho', hx'⟩ := hLf
            have ND := Lib.hid (ns_drop K i (by have := HM.out; omega))
            clear hc hBi q0
            cases hk' : K.getD i default with
            | mk o2 n2 d2 ks =>
              rw [hk'] at hv ND
              generalize V' i = vs at hv e3
              cases hv with
              | @mk _ _ _ _ ka' kc' V2 q1 q2 q3 q4 q5 q6 q7 =>
                have XX := Lib.hid (show XL w0 (.slice ka' ks.length kc') ks from ⟨ka', kc', V2, rfl, q4, q5, q6, q7⟩)
                clear q6 q7 hk'
                simp only [List.getD_cons_succ, List.getD_cons_zero] at e3
                obtain ⟨s, hs⟩ : ∃ s, ks.length = s := ⟨_, rfl⟩
                have SN := Lib.hid (show (s = 0 → Xt.ns ks = 0) ∧ (Xt.mk o2 n2 d2 ks).n = 1 + Xt.ns ks from ⟨fun h => by rw [List.length_eq_zero_iff.1 (hs.trans h)]; rfl, rfl⟩)
                rw [hs] at e3 XX q4
                clear hs
                by_cases s0 : s = 0
                · subst s0
                  go_wp2
                  go_roundw
                  case rel => exact ⟨i + 1, Ms, by omega, by go_num, hln, (by have := hJ.out; have := ND.out; have := SN.out.1 rfl; have := SN.out.2; exact (by omega : d + Xt.nss Ms + Xt.ns (K.drop (i + 1)) + (i + 1) = N + m ∧ Ms.length ≤ l + (i + 1))), ⟨xs', ho', hx'⟩, BI.out⟩
                  case measure => simp [intOf]; omega
                · have s1 : (0 : Int) < (s : Int) := by omega
                  have s2 : ¬ (s : Int) = 0 := by omega
                  have OO := Lib.hid ho'
                  have HX := Lib.hid hx'
                  have ML : Ms.length ≤ 4398046511000 := by have := hJ.out.2; omega
                  clear ho' hx'
                  go_wp2_with (at_builtin; refine wp_xl _ _ rfl rfl _ _ rfl w1.heap.size _ Ms.length xs' rfl rfl OO.out ML BI.out.size ?_; intro v' w5 ho hg)
                  obtain ⟨g', cap', rfl⟩ := xown_one ho
                  have O5 := Lib.hid ho
                  have B5 := Lib.hid ((BI.out.alloc BI.out.size _).grown hg (Nat.le_trans BI.out.size (by simp)) (fun k e => (OO.out.lt k e).1))
                  clear ho hg
                  go_roundw
                  case rel => exact ⟨i + 1, Ms ++ [ks], by omega, by go_num, by simp [lenOf], (by have := hJ.out; have := ND.out; have := SN.out.2; rw [Xt.nss_append, List.length_append, List.length_singleton]; simp only [Xt.nss]; exact (by omega : d + (Xt.nss Ms + (Xt.ns ks + 0)) + Xt.ns (K.drop (i + 1)) + (i + 1) = N + m ∧ Ms.length + 1 ≤ l + (i + 1))), lft_snoc OO.out HX.out O5.out XX.out, B5.out⟩
                  case measure => simp [intOf]; omega
          · obtain rfl : i = m := by omega
            have E0 := Lib.hid (show d + Xt.nss Ms = N ∧ Ms.length ≤ l + i by have := hJ.out; rw [List.drop_of_length_le (by have := HM.out; omega)] at this; simp only [Xt.ns] at this; omega)
            have LF := Lib.hid hLf
            have hdn := HD.out
            have hml : Ms.length ≤ l + i := E0.out.2
            clear hBi hLf
            go_wp2
            go_roundw
            case rel => exact ⟨d, Ms, rfl, hln, (by have := E0.out; exact (by omega : d + Xt.nss Ms = N ∧ Ms.length ≤ d)), LF.out, BI.out⟩
            case measure => simp [intOf, lenOf_slice, hln]; omega
end Go.Proofs.Ytjlnbhmiahegmaa
