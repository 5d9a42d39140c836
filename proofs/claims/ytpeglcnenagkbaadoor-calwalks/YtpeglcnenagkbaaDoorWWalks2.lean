/-
  WALK: CalWalks.
-/
import Derived.Test.YtpeglcnenagkbaaDoorWWalks1
import Derived.Laws.EntriesVeiled
namespace Go.Proofs.YtpeglcnenagkbaaDoor
open Go.RowKit Go.Shelf
attribute [local go_sem] Oper.semAt_some
set_option linter.unusedVariables false
set_option linter.unusedSimpArgs false

/-- The deferred calls behind p passes. -/
def DS (w5 : World) (p : Nat) (ds : List Deferred) (W : World) : Prop :=
  (p = 0 ∧ ds = []) ∨ (p = 1 ∧ ∃ E1, ds = [{ target := .collected E1, args := #[] }] ∧ w5.heap.size ≤ E1 ∧ W.heap[E1]? = some (.deferred (some []))) ∨
  (p = 2 ∧ ∃ E1 E2, ds = [{ target := .collected E2, args := #[] }, { target := .collected E1, args := #[] }] ∧ w5.heap.size ≤ E1 ∧ E1 < E2 ∧ W.heap[E1]? = some (.deferred (some [])) ∧ W.heap[E2]? = some (.deferred (some [])))
/-- Between two passes. -/
def PassI (w w5 : World) (bw bs : Nat) (a : Act) (W : World) : Prop := ∃ (p pb : Nat) (ds : List Deferred) (u0 u1 u2 u3 u4 u5 u6 u7 u12 u14 u15 u17 u18 u19 u20 u21 u22 u23 u24 u25 u26 u27 u28 u29 u30 u31 u32 u33 u34 u35 u36 u37 u38 u39 u40 u41 u42 u43 u44 u45 u46 u47 u48 u49 u50 u51 u52 u53 u54 u55 u56 u57 u58 u59 u60 u61 u62 u63 u64 u65 u66 u67 u68 u69 u70 u71 u72 u73 u74 u75 u76 u77 u78 u79 u80 u81 u82 u83 u84 u85 u86 u87 u88 u89 u90 u91 u92 u93 u94 u95 u96 u97 u98 u99 u100 u101 : Value),
  a = { tmps := #[u0, u1, u2, u3, u4, u5, u6, u7, .pointer (some ⟨w.heap.size, 0, none⟩), .pointer (some ⟨w.heap.size + 1, 0, none⟩), .pointer (some ⟨w.heap.size + 1 + 1, 0, none⟩), .pointer (some ⟨bw, 0, none⟩), u12, .pointer (some ⟨bs, 0, none⟩), u14, u15, .pointer (some ⟨pb, 0, none⟩), u17, u18, u19, u20, u21, u22, u23, u24, u25, u26, u27, u28, u29, u30, u31, u32, u33, u34, u35, u36, u37, u38, u39, u40, u41, u42, u43, u44, u45, u46, u47, u48, u49, u50, u51, u52, u53, u54, u55, u56, u57, u58, u59, u60, u61, u62, u63, u64, u65, u66, u67, u68, u69, u70, u71, u72, u73, u74, u75, u76, u77, u78, u79, u80, u81, u82, u83, u84, u85, u86, u87, u88, u89, u90, u91, u92, u93, u94, u95, u96, u97, u98, u99, u100, u101], defers := ds } ∧ Boxed W pb 3 (.int .i64 (p : Int)) ∧ w5.heap.size ≤ pb ∧ Below w5.heap.size w5 W ∧ DS w5 p ds W

theorem cw0 (w : World) (stop inner : Int) : (((w.alloc (.cells #[.int .i64 stop] 3)).alloc (.cells #[.int .i64 inner] 3)).alloc (.cells #[.bool false] 4)).cell? ⟨w.heap.size, 0, none⟩ = some (.int .i64 stop) ∧ (((w.alloc (.cells #[.int .i64 stop] 3)).alloc (.cells #[.int .i64 inner] 3)).alloc (.cells #[.bool false] 4)).cell? ⟨w.heap.size + 1, 0, none⟩ = some (.int .i64 inner) ∧ (((w.alloc (.cells #[.int .i64 stop] 3)).alloc (.cells #[.int .i64 inner] 3)).alloc (.cells #[.bool false] 4)).cell? ⟨w.heap.size + 1 + 1, 0, none⟩ = some (.bool false) ∧ (((w.alloc (.cells #[.int .i64 stop] 3)).alloc (.cells #[.int .i64 inner] 3)).alloc (.cells #[.bool false] 4)).frozen? ⟨w.heap.size + 1 + 1, 0, none⟩ = false ∧ (((w.alloc (.cells #[.int .i64 stop] 3)).alloc (.cells #[.int .i64 inner] 3)).alloc (.cells #[.bool false] 4)).heap.size = w.heap.size + 3 :=
  ⟨by go_simp, by go_simp, by go_simp, by go_simp, by simp⟩
set_option maxRecDepth 100000 in
set_option maxHeartbeats 8000000 in
theorem calWalks_walk (f t stop inner : Int) (ha : Option Addr) (hc hcap : Nat) (zs : List Int) (w : World) (hT : Tz w) (hH : Hol w ha hc hcap zs) (f0 : -9223372036854775808 ≤ f) (f1 : f ≤ 9223372036854775807) :
    Calls Tryd.prog 4 #[.int .i64 f, .int .i64 t, .slice ha hc hcap, .int .i64 stop, .int .i64 inner] w fun e w' => e = .returned (.bool true) ∧ Below w.heap.size w w' := by
  obtain ⟨w0, hw0⟩ : ∃ w0, ((w.alloc (.cells #[.int .i64 stop] 3)).alloc (.cells #[.int .i64 inner] 3)).alloc (.cells #[.bool false] 4) = w0 := ⟨_, rfl⟩
  have B0 := Lib.hid (p := Below w.heap.size w w0) (by rw [← hw0]; exact (((Below.refl _ _).alloc (Nat.le_refl _) _).alloc (by simp) _).alloc (by simp; omega) _)
  have X0 := Lib.hid (p := w0.cell? ⟨w.heap.size, 0, none⟩ = some (.int .i64 stop) ∧ w0.cell? ⟨w.heap.size + 1, 0, none⟩ = some (.int .i64 inner) ∧ w0.cell? ⟨w.heap.size + 1 + 1, 0, none⟩ = some (.bool false) ∧ w0.frozen? ⟨w.heap.size + 1 + 1, 0, none⟩ = false ∧ w0.heap.size = w.heap.size + 3) (by rw [← hw0]; exact cw0 w stop inner)
  have KR := Lib.hid (rBetween_any f t ha hc hcap zs w0 (hH.later B0.out).ls)
  have KO := Lib.hid (fun W (q : Below w.heap.size w W) => own_anyW ha hc hcap zs W (hH.later q))
  have KB := Lib.hid (fun W A C (l : Ls W A hc zs) (q : Tz W) => between_port f t A hc C zs W f0 f1 l q)
  have HT := Lib.hid (p := ∀ W, Below w.heap.size w W → Tz W) (fun W b => tz_below (Nat.le_refl _) b hT)
  have ef := eql_fn
  clear hT hH f0 f1
  refine (callsIn_wide (n := 5)).1 ?_
  refine callsIn_of_wp_marks Tryd.func4 rfl trivial ?_ rfl
  simp only [Tryd.ntmps4, List.size_toArray, List.length_cons, List.length_nil, Nat.reduceAdd, Nat.reduceSub, Array.replicate_succ, Array.replicate_zero, List.push_toArray, List.append_toArray, List.nil_append, List.cons_append]
  refine wpIn_wide.2 ?_
  go_wp2_with fail
  try simp only [hw0]
  clear hw0
  go_at_call 11
  refine KR.out.mono ?_
  rintro e w1 ⟨v, rfl, b1, L, bl, ow⟩
  have BLL := Lib.hid bl
  have NL := Lib.hid bl.len
  obtain ⟨xa, ca, rfl, ls⟩ := row_ls (by have := bl.len; omega) ow
  have LS := Lib.hid ls
  obtain ⟨wa, hwa⟩ : ∃ wa, w1.alloc (.cells #[.slice xa L.length ca] 22) = wa := ⟨_, rfl⟩
  have B1 := Lib.hid b1
  have BA := Lib.hid (p := Below w1.heap.size w1 wa) (by rw [← hwa]; exact (Below.refl _ _).alloc (Nat.le_refl _) _)
  have XA := Lib.hid (p := wa.cell? ⟨w1.heap.size, 0, none⟩ = some (.slice xa L.length ca) ∧ wa.heap.size = w1.heap.size + 1) (by rw [← hwa]; exact ⟨(Boxed.new w1 _ _).cell, World.size_alloc _ _⟩)
  have BWA := Lib.hid (p := Below w.heap.size w wa) ((B0.out.trans (b1.mono B0.out.size)).trans (BA.out.mono (Nat.le_trans B0.out.size b1.size)))
  clear b1 bl ow ls KR
  go_wp2_with fail
  try simp only [hwa]
  clear hwa
  go_at_call 8
  refine (KO.out wa BWA.out).mono ?_
  rintro e w2 ⟨A, C, rfl, b2, l2, hin, hw⟩
  have B2 := Lib.hid b2
  have BW2 := Lib.hid (BWA.out.trans (b2.mono BWA.out.size))
  have KBB := Lib.hid (KB.out w2 A C l2 (HT.out _ (BWA.out.trans (b2.mono BWA.out.size))))
  clear b2 l2 KO KB
  go_wp2_with fail
  go_at_call 7
  refine KBB.out.mono ?_
  rintro e w3 ⟨st, sb, L2, rfl, b3, bl2, pt⟩
  obtain rfl : L2 = L := bl2.one BLL.out
  obtain ⟨wb, hwb⟩ : ∃ wb, w3.alloc (.cells #[.func (.func 48) #[] #[.pointer (some ⟨st, 0, none⟩), .pointer (some ⟨sb, 0, none⟩)]] 24) = wb := ⟨_, rfl⟩
  have B3 := Lib.hid b3
  have BB := Lib.hid (p := Below w3.heap.size w3 wb) (by rw [← hwb]; exact (Below.refl _ _).alloc (Nat.le_refl _) _)
  have XB := Lib.hid (p := Boxed wb w3.heap.size 24 (.func (.func 48) #[] #[.pointer (some ⟨st, 0, none⟩), .pointer (some ⟨sb, 0, none⟩)])) (by rw [← hwb]; exact Boxed.new _ _ _)
  have KI := Lib.hid (hin.out wb (b3.trans (BB.out.mono b3.size)))
  clear b3 bl2 hin KBB
  go_wp2_with fail
  try simp only [hwb]
  clear hwb
  go_at_call 12
  refine KI.out.mono ?_
  rintro e w4 ⟨rfl, b4⟩
  have B4 := Lib.hid b4
  have cb := (box_bel XB.out b4).cell
  clear b4 KI
  have HW4 := Lib.hid (p := hc ≤ 20000000000000 ∧ (hc = 0 ∨ (wa.heap.size < w2.heap.size ∧ A = some ⟨wa.heap.size, 0, none⟩ ∧ ∃ xs, Wi w4 wa.heap.size xs ∧ hc ≤ xs.length))) ⟨hw.out.1, by
    rcases hw.out.2 with h | ⟨h1, xs, h2, h3⟩
    · exact .inl h
    · exact .inr ⟨h2.1, h1, xs, (h2.later (B3.out.trans ((BB.out.trans (B4.out.mono BB.out.size)).mono B3.out.size))), h3⟩⟩
  have hcb := HW4.out.1
  clear hw
  go_wp2_with fail
  go_loopw [15] (fun x wr => ∃ i : Nat, i ≤ hc ∧ x = .int .i64 (i : Int) ∧ OB wa.heap.size w2.heap.size w4 wr ∧ RowKit.Hid (hc = 0 ∨ (wa.heap.size < w2.heap.size ∧ A = some ⟨wa.heap.size, 0, none⟩ ∧ ∃ xs, Wi wr wa.heap.size xs ∧ hc ≤ xs.length))) (fun x _ => hc - (intOf x).toNat)
  case atStart => exact ⟨0, by omega, rfl, OB.refl _ _ _, HW4.out.2⟩
  case round =>
    obtain ⟨i, hi, rfl, hO, hX⟩ := hrel
    rename World => wr
    by_cases hlt : i < hc
    · obtain ⟨hg, rfl, xs, hwi, hxl⟩ : wa.heap.size < w2.heap.size ∧ A = some ⟨wa.heap.size, 0, none⟩ ∧ ∃ xs, Wi wr wa.heap.size xs ∧ hc ≤ xs.length := by
        rcases hX.out with h | h
        · omega
        · exact h
      have HWI := Lib.hid hwi
      have q1 := (hwi.2 i (by omega)).1
      have q2 := (hwi.2 i (by omega)).2
      have HO := Lib.hid hO
      have ki : (i : Int) < (hc : Int) := by omega
      have kwi : IntKind.i64.wrap ((i : Int) + 1) = (i : Int) + 1 := by simp [IntKind.wrap, IntKind.bits, IntKind.signed]; omega
      clear hO hX hwi cb
      go_wp2
      go_roundw
      case rel => exact ⟨i + 1, by omega, by first | rfl | simp, HO.out.set _ _ _ (Nat.le_refl _) hg, .inr ⟨hg, by trivial, xs.set i f, HWI.out.set i f (by omega), by simpa using hxl⟩⟩
      case measure => simp [intOf]; omega
    · obtain rfl : i = hc := by omega
      have ki : ¬ (i : Int) < (i : Int) := by omega
      -- what is held
      have BA5 := Lib.hid (p := Below wa.heap.size wa wr) ((B2.out.trans ((B3.out.trans ((BB.out.trans (B4.out.mono BB.out.size)).mono B3.out.size)).mono B2.out.size)).trans (hO.below (Nat.le_refl _)))
      have BW5 := Lib.hid (p := Below w.heap.size w wr) (BWA.out.trans (BA5.out.mono BWA.out.size))
      have CC := Lib.hid (p := CW w wr stop inner w1.heap.size w3.heap.size xa ca L2 st sb) (by
        have x0 := X0.out
        have xa1 := XA.out
        have s1 := B1.out.size
        have s2 := B2.out.size
        have s3 := B3.out.size
        have s4 := BB.out.size
        have s5 := B4.out.size
        have s6 := hO.size
        have xl := XB.out.lt
        have Q0 : Below w0.heap.size w0 wr := B1.out.trans ((BA.out.trans (BA5.out.mono BA.out.size)).mono B1.out.size)
        refine ⟨(Q0.cell (p := ⟨w.heap.size, 0, none⟩) (by show w.heap.size < _; omega)).trans x0.1, (Q0.cell (p := ⟨w.heap.size + 1, 0, none⟩) (by show w.heap.size + 1 < _; omega)).trans x0.2.1, (Q0.cell (p := ⟨w.heap.size + 1 + 1, 0, none⟩) (by show w.heap.size + 1 + 1 < _; omega)).trans x0.2.2.1, (Q0.frozen (p := ⟨w.heap.size + 1 + 1, 0, none⟩) (by show w.heap.size + 1 + 1 < _; omega)).trans x0.2.2.2.1, (BA5.out.cell (p := ⟨w1.heap.size, 0, none⟩) (by show w1.heap.size < _; omega)).trans xa1.1, ?_, LS.out.later (BA.out.trans (BA5.out.mono BA.out.size)), ?_, BW5.out, by omega, by omega, by omega⟩
        · exact (cell_heap (hO.block w3.heap.size (.inr s3))).trans cb
        · refine pt.out wr ⟨by omega, fun k h1 h2 => ?_⟩ (HT.out _ BW5.out)
          exact (hO.block k (.inr h1)).trans (((BB.out.trans (B4.out.mono BB.out.size)).block k h2)))
      clear hO hX cb hcb B0 X0 B1 BA XA BWA B2 BW2 B3 BB XB B4 HW4 pt HT LS BA5 BW5
      generalize w1.heap.size = bw at *
      generalize w3.heap.size = bs at *
      go_wp2_with fail
      refine wp_loop (PassI w wr bw bs) (fun a _ => 2 - a.defers.length) ?start ?round
      case start =>
        exact ⟨0, wr.heap.size, [], _, _, _, _, _, _, _, _, _, _, _, _, _, _, _, _, _, _, _, _, _, _, _, _, _, _, _, _, _, _, _, _, _, _, _, _, _, _, _, _, _, _, _, _, _, _, _, _, _, _, _, _, _, _, _, _, _, _, _, _, _, _, _, _, _, _, _, _, _, _, _, _, _, _, _, _, _, _, _, _, _, _, _, _, _, _, _, _, _, _, _, _, _, _, _, _, rfl, Boxed.new _ _ _, Nat.le_refl _, (Below.refl _ _).alloc (Nat.le_refl _) _, .inl ⟨rfl, rfl⟩⟩
      case round =>
        rintro a W ⟨p, pb, ds, u0, u1, u2, u3, u4, u5, u6, u7, u12, u14, u15, u17, u18, u19, u20, u21, u22, u23, u24, u25, u26, u27, u28, u29, u30, u31, u32, u33, u34, u35, u36, u37, u38, u39, u40, u41, u42, u43, u44, u45, u46, u47, u48, u49, u50, u51, u52, u53, u54, u55, u56, u57, u58, u59, u60, u61, u62, u63, u64, u65, u66, u67, u68, u69, u70, u71, u72, u73, u74, u75, u76, u77, u78, u79, u80, u81, u82, u83, u84, u85, u86, u87, u88, u89, u90, u91, u92, u93, u94, u95, u96, u97, u98, u99, u100, u101, rfl, hP, hpb, hBW, hds⟩
        have CP := Lib.hid (CC.out.later hBW)
        have HP := Lib.hid hP
        have BP := Lib.hid hBW
        have hpl : pb < W.heap.size := hP.lt
        have hpn : ¬ pb = W.heap.size := by omega
        have hpm : ¬ W.heap.size = pb := by omega
        rcases hds with ⟨rfl, rfl⟩ | ⟨rfl, E0, rfl, he0⟩ | ⟨rfl, E0, E2, rfl, he0⟩
        · have cp : W.cell? ⟨pb, 0, none⟩ = some (.int .i64 0) := by simpa using hP.cell
          have HP := Lib.hid (p := Boxed W pb 3 (.int .i64 0)) (by simpa using hP)
          have fp := hP.frozen
          obtain ⟨_, _, _, _, hbl, hsq, _, _, _, _, _, _⟩ := CP.out
          clear hP hBW
          go_wp2_with fail
          clear cp fp hbl hsq
          refine (wpIn_wide (n := 5)).1 ?_
          refine' wpIn_rangeFunc_ownF (w := W.alloc (.cells #[.int .i64 0] 3)) rfl (by omega) (gf := 48) (lb := #[.pointer (some ⟨st, 0, none⟩), .pointer (some ⟨sb, 0, none⟩)]) rfl trivial (enters_of Tryd.func48 (by kernel_rfl) rfl)
            (CP.out.it 4 (by omega)) belowK_t (belowK_b (by simp)) ((Below.refl _ _).alloc (Nat.le_refl _) _) (fun _ => rfl)
            (fun pre X => Boxed X W.heap.size 3 (.int .i64 (pre.length : Int)) ∧ Below W.heap.size W X ∧ pre.map (·.1) <+: L2)
            (fun cx pre X => (cx = .ret ∧ ¬ pre.map (·.1) <+: L2) ∨ (cx = .exit 4 ∧ Boxed X W.heap.size 3 (.int .i64 (pre.length : Int)) ∧ Below W.heap.size W X ∧ (pre.length : Int) = stop))
            (fun s X Y row hs hg hr => ⟨hs.1.kept hg (fun e => by obtain ⟨_, o, ho, hcc⟩ := hr _ e.symm; rw [show X.heap[W.heap.size]? = _ from hs.1] at ho; cases ho; cases hcc), hs.2.1.grown hg hs.2.1.size (fun k e => Nat.le_trans (by simp) (hr k e).1), hs.2.2⟩)
            (fun cx s X Y row hs hg hr => by
            rcases hs with hs | ⟨h1, h2, h3, h4⟩
            · exact .inl hs
            · exact .inr ⟨h1, h2.kept hg (fun e => by obtain ⟨_, o, ho, hcc⟩ := hr _ e.symm; rw [show X.heap[W.heap.size]? = _ from h2] at ho; cases ho; cases hcc), h3.grown hg h3.size (fun k e => Nat.le_trans (by simp) (hr k e).1), h4⟩)
            ⟨Boxed.new W 3 _, (Below.refl _ _).alloc (Nat.le_refl _) _, by simp⟩
            _ ?assign0 ?body0 ?done0 ?stop0
          case assign0 =>
            intro l x X K hK
            gi_wp2
            exact hK
          case body0 =>
            rintro l pre ⟨x, hx⟩ X ⟨hbx, hBX, hpre⟩ hlt
            have CX := Lib.hid (CP.out.later hBX)
            obtain ⟨cs, ci, cr, fr, hbl, hsq, _, _, _, _, _, _⟩ := CX.out
            have cp := (box_bel HP.out hBX).cell
            obtain ⟨_, _, hcase⟩ := CX.out.ls
            obtain ⟨g, o, rfl, hg, hcell⟩ : ∃ b o, xa = some ⟨b, o, none⟩ ∧ b < X.heap.size ∧ ∀ i, i < L2.length → X.cell? ⟨b, o + i, none⟩ = some (.int .i64 (L2.getD i 0)) := by
              rcases hcase with q | q
              · omega
              · exact q
            have qk := hcell pre.length hlt
            have KG := Lib.hid (gone_any st sb (some ⟨g, o, none⟩) L2.length ca L2 X CX.out.it CX.out.ls NL.out)
            have hk1 := hbx.cell
            have hk2 := hbx.frozen
            have HX := Lib.hid hbx
            have HBX := Lib.hid hBX
            have PS := Lib.hid (fun (e : L2.getD pre.length 0 = x) => pre_snoc (x := x) hpre (by simpa using hlt) (by simpa using e))
            have PL := Lib.hid (p := pre.map (·.1) ++ [x] <+: L2 → L2.getD pre.length 0 = x) (fun h => by have := pre_last h; rwa [List.length_map] at this)
            have hn3 : L2.length ≤ 109573 := NL.out
            have EL : ((pre ++ [(⟨x, hx⟩ : { x : Int // x ∈ L2 })]).length : Int) = (pre.length : Int) + 1 := by simp
            have EM : (pre ++ [(⟨x, hx⟩ : { x : Int // x ∈ L2 })]).map (·.1) = pre.map (·.1) ++ [x] := by simp
            have EE := Lib.hid (And.intro EL EM)
            clear hcell hcase hbx hBX hpre EL EM
            obtain ⟨y, hy⟩ : ∃ y, L2.getD pre.length 0 = y := ⟨_, rfl⟩
            rw [hy] at qk PS PL
            obtain ⟨k, hk⟩ : ∃ k, pre.length = k := ⟨_, rfl⟩
            rw [hk] at qk hk1 hlt HX EE
            obtain ⟨n3, hn⟩ : ∃ n3, L2.length = n3 := ⟨_, rfl⟩
            rw [hn] at hbl hlt hn3 KG
            have HH := Lib.hid (And.intro hy (And.intro hk hn))
            clear hy hk hn
            have g1 : decide ((n3 : Int) ≤ (k : Int)) = false := decide_eq_false (by omega)
            have g2 : (k : Int) < (n3 : Int) := by omega
            have kwk : IntKind.i64.wrap ((k : Int) + 1) = (k : Int) + 1 := by simp [IntKind.wrap, IntKind.bits, IntKind.signed]; omega
            by_cases hxe : y = x
            · subst hxe
              have PS1 := Lib.hid (PS.out rfl)
              clear PS PL
              by_cases hin : (k : Int) = inner
              · have hin1 : ((k : Int) == inner) = true := by simpa using hin
                have hin2 : decide ((k : Int) = inner) = true := by simpa using hin
                have HIN := Lib.hid hin
                clear hin
                gi_wp2_with fail
                refine ⟨trivial, ?_⟩
                gi_at_call 13
                refine (CallsIn.inRound l (callsIn_wide.2 KG.out)).mono ?_
                rintro e X2 ⟨rfl, b2⟩
                have BG := Lib.hid b2
                have cg := CX.out.later b2
                have hk3 := (box_bel HX.out b2).cell
                have hk4 := (box_bel HX.out b2).frozen
                have cp2 := (box_bel HP.out (HBX.out.trans (b2.mono HBX.out.size))).cell
                obtain ⟨cs2, _, _, _, _, _, _, _, _, _, _, _⟩ := cg
                clear b2 cs ci cr fr hbl hsq cp hk1 hk2
                by_cases hst : (k : Int) + 1 = stop
                · have hst1 : ((k : Int) + 1 == stop) = true := by simpa using hst
                  have hst2 : decide ((k : Int) + 1 = stop) = true := by simpa using hst
                  have HST := Lib.hid hst
                  clear hst
                  gi_wp2
                  refine ⟨(others_bel BG.out).trans (KeepsOthers.setCell _ _ _), .inr ⟨rfl, ?_, (HBX.out.trans (BG.out.mono HBX.out.size)).setCell (p := ⟨W.heap.size, 0, none⟩) (Nat.le_refl _) _, ?_⟩⟩
                  · rw [EE.out.1]; exact (box_bel HX.out BG.out).set _
                  · rw [EE.out.1]; exact HST.out
                · have hst1 : ((k : Int) + 1 == stop) = false := by simpa using hst
                  have hst2 : decide ((k : Int) + 1 = stop) = false := by simpa using hst
                  gi_wp2
                  refine ⟨(others_bel BG.out).trans (KeepsOthers.setCell _ _ _), (BG.out.mono HBX.out.size).setCell (p := ⟨W.heap.size, 0, none⟩) (Nat.le_refl _) _, ?_, (HBX.out.trans (BG.out.mono HBX.out.size)).setCell (p := ⟨W.heap.size, 0, none⟩) (Nat.le_refl _) _, ?_⟩
                  · rw [EE.out.1]; exact (box_bel HX.out BG.out).set _
                  · have r := PS1.out; rw [← EE.out.2] at r; exact r
              · have hin1 : ((k : Int) == inner) = false := by simpa using hin
                have hin2 : decide ((k : Int) = inner) = false := by simpa using hin
                by_cases hst : (k : Int) + 1 = stop
                · have hst1 : ((k : Int) + 1 == stop) = true := by simpa using hst
                  have hst2 : decide ((k : Int) + 1 = stop) = true := by simpa using hst
                  have HST := Lib.hid hst
                  clear hst
                  gi_wp2
                  refine ⟨KeepsOthers.setCell _ _ _, .inr ⟨rfl, ?_, HBX.out.setCell (p := ⟨W.heap.size, 0, none⟩) (Nat.le_refl _) _, ?_⟩⟩
                  · rw [EE.out.1]; exact HX.out.set _
                  · rw [EE.out.1]; exact HST.out
                · have hst1 : ((k : Int) + 1 == stop) = false := by simpa using hst
                  have hst2 : decide ((k : Int) + 1 = stop) = false := by simpa using hst
                  gi_wp2
                  refine ⟨KeepsOthers.setCell _ _ _, (Below.refl W.heap.size X).setCell (p := ⟨W.heap.size, 0, none⟩) (Nat.le_refl _) _, ?_, HBX.out.setCell (p := ⟨W.heap.size, 0, none⟩) (Nat.le_refl _) _, ?_⟩
                  · rw [EE.out.1]; exact HX.out.set _
                  · have r := PS1.out; rw [← EE.out.2] at r; exact r
            · clear KG
              have g3 : (y != x) = true := by simpa using hxe
              have g4 : (y == x) = false := by simpa using hxe
              gi_wp2
              refine ⟨KeepsOthers.setCell _ _ _, .inl ⟨rfl, ?_⟩⟩
              intro h
              have h' : (pre ++ [(⟨x, hx⟩ : { x : Int // x ∈ L2 })]).map (·.1) <+: L2 := h
              rw [EE.out.2] at h'
              exact hxe (PL.out h')
          case stop0 =>
            rintro E1 cx pre X hE1 hp h hK
            rcases h with ⟨rfl, hn⟩ | ⟨rfl, hbx, hBX, hst⟩
            · exact absurd hp hn
            · have CX := Lib.hid (CP.out.later hBX)
              obtain ⟨cs, ci, cr, fr, hbl, hsq, _, _, _, _, _, _⟩ := CX.out
              have cp := (box_bel HP.out hBX).cell
              have hk1 := hbx.cell
              have BX5 := Lib.hid (BP.out.trans (hBX.mono BP.out.size))
              have K1 := Lib.hid hK
              have G1 := Lib.hid (p := wr.heap.size ≤ E1) (by have := BP.out.size; simp at hE1; omega)
              rw [hst] at hk1
              generalize L2.length = n3 at *
              clear hbx hBX hK hE1 hst
              refine wpIn_wide.2 ?_
              have g1 : (stop != stop) = false := by simp
              by_cases hs : stop = (n3 : Int)
              · have g2 : (stop != (n3 : Int)) = false := by simpa using hs
                have g3 : (stop == (n3 : Int)) = true := by simpa using hs
                have HS := Lib.hid hs
                clear hs
                go_wp2
                exact ⟨⟨1, X.heap.size, _, _, _, _, _, _, _, _, _, _, _, _, _, _, _, _, _, _, _, _, _, _, _, _, _, _, _, _, _, _, _, _, _, _, _, _, _, _, _, _, _, _, _, _, _, _, _, _, _, _, _, _, _, _, _, _, _, _, _, _, _, _, _, _, _, _, _, _, _, _, _, _, _, _, _, _, _, _, _, _, _, _, _, _, _, _, _, _, _, _, _, _, _, _, _, _, _, rfl, Boxed.new _ _ _, BX5.out.size, BX5.out.alloc BX5.out.size _, .inr (.inl ⟨rfl, E1, rfl, G1.out, (KeepsOthers.alloc X _).same E1 _ K1.out rfl⟩)⟩, by simp⟩
              · have g2 : (stop != (n3 : Int)) = true := by simpa using hs
                have g3 : (stop == (n3 : Int)) = false := by simpa using hs
                have HS := Lib.hid hs
                clear hs
                go_wp2
                exact ⟨⟨1, X.heap.size, _, _, _, _, _, _, _, _, _, _, _, _, _, _, _, _, _, _, _, _, _, _, _, _, _, _, _, _, _, _, _, _, _, _, _, _, _, _, _, _, _, _, _, _, _, _, _, _, _, _, _, _, _, _, _, _, _, _, _, _, _, _, _, _, _, _, _, _, _, _, _, _, _, _, _, _, _, _, _, _, _, _, _, _, _, _, _, _, _, _, _, _, _, _, _, _, _, rfl, Boxed.new _ _ _, BX5.out.size, BX5.out.alloc BX5.out.size _, .inr (.inl ⟨rfl, E1, rfl, G1.out, (KeepsOthers.alloc X _).same E1 _ K1.out rfl⟩)⟩, by simp⟩
          case done0 =>
            rintro E1 ys X hE1 hy ⟨hbx, hBX, hpre⟩ hK
            have hyl : (ys.length : Int) = (L2.length : Int) := by have := congrArg List.length hy; rw [List.length_map] at this; omega
            rw [hyl] at hbx
            have CX := Lib.hid (CP.out.later hBX)
            obtain ⟨cs, ci, cr, fr, hbl, hsq, _, _, _, _, _, _⟩ := CX.out
            have cp := (box_bel HP.out hBX).cell
            have hk1 := hbx.cell
            have BX5 := Lib.hid (BP.out.trans (hBX.mono BP.out.size))
            have K1 := Lib.hid hK
            have G1 := Lib.hid (p := wr.heap.size ≤ E1) (by have := BP.out.size; simp at hE1; omega)
            generalize L2.length = n3 at *
            clear hy hyl hbx hBX hpre hK hE1
            go_wp2
            exact ⟨⟨1, X.heap.size, _, _, _, _, _, _, _, _, _, _, _, _, _, _, _, _, _, _, _, _, _, _, _, _, _, _, _, _, _, _, _, _, _, _, _, _, _, _, _, _, _, _, _, _, _, _, _, _, _, _, _, _, _, _, _, _, _, _, _, _, _, _, _, _, _, _, _, _, _, _, _, _, _, _, _, _, _, _, _, _, _, _, _, _, _, _, _, _, _, _, _, _, _, _, _, _, _, rfl, Boxed.new _ _ _, BX5.out.size, BX5.out.alloc BX5.out.size _, .inr (.inl ⟨rfl, E1, rfl, G1.out, (KeepsOthers.alloc X _).same E1 _ K1.out rfl⟩)⟩, by simp⟩
        · have cp : W.cell? ⟨pb, 0, none⟩ = some (.int .i64 1) := by simpa using hP.cell
          have HP := Lib.hid (p := Boxed W pb 3 (.int .i64 1)) (by simpa using hP)
          have fp := hP.frozen
          have HE0 := Lib.hid he0
          obtain ⟨_, _, _, _, hbl, hsq, _, _, _, _, _, _⟩ := CP.out
          clear hP hBW he0
          go_wp2_with fail
          clear cp fp hbl hsq
          refine (wpIn_wide (n := 5)).1 ?_
          refine' wpIn_rangeFunc_ownF (w := W.alloc (.cells #[.int .i64 0] 3)) rfl (by omega) (gf := 48) (lb := #[.pointer (some ⟨st, 0, none⟩), .pointer (some ⟨sb, 0, none⟩)]) rfl trivial (enters_of Tryd.func48 (by kernel_rfl) rfl)
            (CP.out.it 4 (by omega)) belowK_t (belowK_b (by simp)) ((Below.refl _ _).alloc (Nat.le_refl _) _) (fun _ => rfl)
            (fun pre X => Boxed X W.heap.size 3 (.int .i64 (pre.length : Int)) ∧ Below W.heap.size W X ∧ pre.map (·.1) <+: L2)
            (fun cx pre X => ¬ pre.map (·.1) <+: L2)
            (fun s X Y row hs hg hr => ⟨hs.1.kept hg (fun e => by obtain ⟨_, o, ho, hcc⟩ := hr _ e.symm; rw [show X.heap[W.heap.size]? = _ from hs.1] at ho; cases ho; cases hcc), hs.2.1.grown hg hs.2.1.size (fun k e => Nat.le_trans (by simp) (hr k e).1), hs.2.2⟩)
            (fun _ _ _ _ _ hs _ _ => hs)
            ⟨Boxed.new W 3 _, (Below.refl _ _).alloc (Nat.le_refl _) _, by simp⟩
            _ ?assign1 ?body1 ?done1 ?stop1
          case assign1 =>
            intro l x X K hK
            gi_wp2
            exact hK
          case body1 =>
            rintro l pre ⟨x, hx⟩ X ⟨hbx, hBX, hpre⟩ hlt
            have CX := Lib.hid (CP.out.later hBX)
            obtain ⟨cs, ci, cr, fr, hbl, hsq, _, _, _, _, _, _⟩ := CX.out
            have cp := (box_bel HP.out hBX).cell
            obtain ⟨_, _, hcase⟩ := CX.out.ls
            obtain ⟨g, o, rfl, hg, hcell⟩ : ∃ b o, xa = some ⟨b, o, none⟩ ∧ b < X.heap.size ∧ ∀ i, i < L2.length → X.cell? ⟨b, o + i, none⟩ = some (.int .i64 (L2.getD i 0)) := by
              rcases hcase with q | q
              · omega
              · exact q
            have qk := hcell pre.length hlt
            have KG := Lib.hid (gone_any st sb (some ⟨g, o, none⟩) L2.length ca L2 X CX.out.it CX.out.ls NL.out)
            have hk1 := hbx.cell
            have hk2 := hbx.frozen
            have HX := Lib.hid hbx
            have HBX := Lib.hid hBX
            have PS := Lib.hid (fun (e : L2.getD pre.length 0 = x) => pre_snoc (x := x) hpre (by simpa using hlt) (by simpa using e))
            have PL := Lib.hid (p := pre.map (·.1) ++ [x] <+: L2 → L2.getD pre.length 0 = x) (fun h => by have := pre_last h; rwa [List.length_map] at this)
            have hn3 : L2.length ≤ 109573 := NL.out
            have EL : ((pre ++ [(⟨x, hx⟩ : { x : Int // x ∈ L2 })]).length : Int) = (pre.length : Int) + 1 := by simp
            have EM : (pre ++ [(⟨x, hx⟩ : { x : Int // x ∈ L2 })]).map (·.1) = pre.map (·.1) ++ [x] := by simp
            have EE := Lib.hid (And.intro EL EM)
            clear hcell hcase hbx hBX hpre EL EM
            obtain ⟨y, hy⟩ : ∃ y, L2.getD pre.length 0 = y := ⟨_, rfl⟩
            rw [hy] at qk PS PL
            obtain ⟨k, hk⟩ : ∃ k, pre.length = k := ⟨_, rfl⟩
            rw [hk] at qk hk1 hlt HX EE
            obtain ⟨n3, hn⟩ : ∃ n3, L2.length = n3 := ⟨_, rfl⟩
            rw [hn] at hbl hlt hn3 KG
            have HH := Lib.hid (And.intro hy (And.intro hk hn))
            clear hy hk hn
            have g1 : decide ((n3 : Int) ≤ (k : Int)) = false := decide_eq_false (by omega)
            have g2 : (k : Int) < (n3 : Int) := by omega
            have kwk : IntKind.i64.wrap ((k : Int) + 1) = (k : Int) + 1 := by simp [IntKind.wrap, IntKind.bits, IntKind.signed]; omega
            by_cases hxe : y = x
            · subst hxe
              have PS1 := Lib.hid (PS.out rfl)
              clear PS PL
              clear KG
              by_cases hin : (k : Int) = inner
              · have hin1 : ((k : Int) == inner) = true := by simpa using hin
                have hin2 : decide ((k : Int) = inner) = true := by simpa using hin
                have HIN := Lib.hid hin
                clear hin
                by_cases hst : (k : Int) + 1 = stop
                · have hst1 : ((k : Int) + 1 == stop) = true := by simpa using hst
                  have hst2 : decide ((k : Int) + 1 = stop) = true := by simpa using hst
                  have HST := Lib.hid hst
                  clear hst
                  gi_wp2
                  refine ⟨KeepsOthers.setCell _ _ _, (Below.refl W.heap.size X).setCell (p := ⟨W.heap.size, 0, none⟩) (Nat.le_refl _) _, ?_, HBX.out.setCell (p := ⟨W.heap.size, 0, none⟩) (Nat.le_refl _) _, ?_⟩
                  · rw [EE.out.1]; exact HX.out.set _
                  · have r := PS1.out; rw [← EE.out.2] at r; exact r
                · have hst1 : ((k : Int) + 1 == stop) = false := by simpa using hst
                  have hst2 : decide ((k : Int) + 1 = stop) = false := by simpa using hst
                  have HST := Lib.hid hst
                  clear hst
                  gi_wp2
                  refine ⟨KeepsOthers.setCell _ _ _, (Below.refl W.heap.size X).setCell (p := ⟨W.heap.size, 0, none⟩) (Nat.le_refl _) _, ?_, HBX.out.setCell (p := ⟨W.heap.size, 0, none⟩) (Nat.le_refl _) _, ?_⟩
                  · rw [EE.out.1]; exact HX.out.set _
                  · have r := PS1.out; rw [← EE.out.2] at r; exact r
              · have hin1 : ((k : Int) == inner) = false := by simpa using hin
                have hin2 : decide ((k : Int) = inner) = false := by simpa using hin
                have HIN := Lib.hid hin
                clear hin
                by_cases hst : (k : Int) + 1 = stop
                · have hst1 : ((k : Int) + 1 == stop) = true := by simpa using hst
                  have hst2 : decide ((k : Int) + 1 = stop) = true := by simpa using hst
                  have HST := Lib.hid hst
                  clear hst
                  gi_wp2
                  refine ⟨KeepsOthers.setCell _ _ _, (Below.refl W.heap.size X).setCell (p := ⟨W.heap.size, 0, none⟩) (Nat.le_refl _) _, ?_, HBX.out.setCell (p := ⟨W.heap.size, 0, none⟩) (Nat.le_refl _) _, ?_⟩
                  · rw [EE.out.1]; exact HX.out.set _
                  · have r := PS1.out; rw [← EE.out.2] at r; exact r
                · have hst1 : ((k : Int) + 1 == stop) = false := by simpa using hst
                  have hst2 : decide ((k : Int) + 1 = stop) = false := by simpa using hst
                  have HST := Lib.hid hst
                  clear hst
                  gi_wp2
                  refine ⟨KeepsOthers.setCell _ _ _, (Below.refl W.heap.size X).setCell (p := ⟨W.heap.size, 0, none⟩) (Nat.le_refl _) _, ?_, HBX.out.setCell (p := ⟨W.heap.size, 0, none⟩) (Nat.le_refl _) _, ?_⟩
                  · rw [EE.out.1]; exact HX.out.set _
                  · have r := PS1.out; rw [← EE.out.2] at r; exact r
            · clear KG
              have g3 : (y != x) = true := by simpa using hxe
              have g4 : (y == x) = false := by simpa using hxe
              gi_wp2
              refine ⟨KeepsOthers.setCell _ _ _, ?_⟩
              intro h
              have h' : (pre ++ [(⟨x, hx⟩ : { x : Int // x ∈ L2 })]).map (·.1) <+: L2 := h
              rw [EE.out.2] at h'
              exact hxe (PL.out h')
          case stop1 =>
            rintro E1 cx pre X hE1 hp h hK
            exact absurd hp h
          case done1 =>
            rintro E1 ys X hE1 hy ⟨hbx, hBX, hpre⟩ hK
            have hyl : (ys.length : Int) = (L2.length : Int) := by have := congrArg List.length hy; rw [List.length_map] at this; omega
            rw [hyl] at hbx
            have CX := Lib.hid (CP.out.later hBX)
            obtain ⟨cs, ci, cr, fr, hbl, hsq, _, _, _, _, _, _⟩ := CX.out
            have cp := (box_bel HP.out hBX).cell
            have hk1 := hbx.cell
            have BX5 := Lib.hid (BP.out.trans (hBX.mono BP.out.size))
            have K1 := Lib.hid hK
            have G1 := Lib.hid (p := wr.heap.size ≤ E1) (by have := BP.out.size; simp at hE1; omega)
            have K0 := Lib.hid ((hBX.block E0 (Array.getElem?_eq_some_iff.1 HE0.out.2).1).trans HE0.out.2)
            have G0 := Lib.hid HE0.out.1
            have GE := Lib.hid (p := E0 < E1) (by have := (Array.getElem?_eq_some_iff.1 HE0.out.2).1; simp at hE1; omega)
            generalize L2.length = n3 at *
            clear hy hyl hbx hBX hpre hK hE1
            go_wp2
            exact ⟨⟨2, X.heap.size, _, _, _, _, _, _, _, _, _, _, _, _, _, _, _, _, _, _, _, _, _, _, _, _, _, _, _, _, _, _, _, _, _, _, _, _, _, _, _, _, _, _, _, _, _, _, _, _, _, _, _, _, _, _, _, _, _, _, _, _, _, _, _, _, _, _, _, _, _, _, _, _, _, _, _, _, _, _, _, _, _, _, _, _, _, _, _, _, _, _, _, _, _, _, _, _, _, rfl, Boxed.new _ _ _, BX5.out.size, BX5.out.alloc BX5.out.size _, .inr (.inr ⟨rfl, E0, E1, rfl, G0.out, GE.out, (KeepsOthers.alloc X _).same E0 _ K0.out rfl, (KeepsOthers.alloc X _).same E1 _ K1.out rfl⟩)⟩, by simp⟩
        · have cp : W.cell? ⟨pb, 0, none⟩ = some (.int .i64 2) := by simpa using hP.cell
          have HE0 := Lib.hid he0
          obtain ⟨_, _, cr, fr, _, _, _, _, bel, sz, _, _⟩ := CP.out
          have e1 := World.cell?_setCell_same' W ⟨w.heap.size + 1 + 1, 0, none⟩ (.bool true) (by rw [cr]; rfl)
          have KO1 := KeepsOthers.setCell W ⟨w.heap.size + 1 + 1, 0, none⟩ (.bool true)
          have p1 := Lib.hid (KO1.same E0 _ he0.2.2.1 rfl)
          have p2 := Lib.hid (KO1.same E2 _ he0.2.2.2 rfl)
          have BE := Lib.hid (bel.setCell (p := ⟨w.heap.size + 1 + 1, 0, none⟩) (by simp; omega) (.bool true))
          have CE := Lib.hid e1
          have GG := Lib.hid (p := w.heap.size ≤ E0 ∧ w.heap.size ≤ E2 ∧ E0 < E2) (by have := CC.out.bel.size; have := he0.1; have := he0.2.1; omega)
          clear hP hBW he0 e1 KO1 bel
          go_wp2
          have s1 := put_other (l := E2) (o' := .deferred none) p1.out (by have := GG.out; omega)
          refine ⟨by simp, .inl ⟨_, _, rfl, run_takeDeferred p2.out, ?_⟩⟩
          refine ⟨by simp, .inl ⟨_, _, rfl, run_takeDeferred s1, ?_⟩⟩
          have c1 := cell_kept CE.out (grownBy_putObj' _ E2 (.deferred none)) (fun r e => by cases e; exact ⟨_, p2.out, rfl⟩)
          have c2 := cell_kept c1 (grownBy_putObj' _ E0 (.deferred none)) (fun r e => by cases e; exact ⟨_, s1, rfl⟩)
          refine ⟨.bool true, by simp [results, Tryd.f4, go_sem, c2], rfl, ?_⟩
          exact (BE.out.trans (belowK_b (w := w) (Nat.le_refl _) _ E2 _ _ GG.out.2.1 p2.out rfl rfl)).trans (belowK_b (w := w) (Nat.le_refl _) _ E0 _ _ GG.out.1 s1 rfl rfl)
end Go.Proofs.YtpeglcnenagkbaaDoor
