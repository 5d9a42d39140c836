import Derived.Test.YthhacbelbkkcmaaXAC
import Derived.Test.YthhacbelbkkcmaaXAB
import Derived.Deep.RegionHeld3
import Derived.Test.YthhacbelbkkcmaaXAA
namespace Go.Proofs.Ythhacbelbkkcmaa
open Go.RowKit
set_option linter.unusedVariables false
set_option linter.unusedSimpArgs false

/-- A sum as a flow of day 0. -/
def fz (e : ByteArray × Int) : Fl := ⟨0, e.1, e.2⟩
theorem sumAt_atR {c : ByteArray} : ∀ {l : List (ByteArray × Int)} {j : Nat}, (l.map (·.1)).Nodup → (hj : j < l.length) → (l[j]).1 = c → sumAt c l = some (l[j]).2 ∧ ∀ v, setAt c v l = l.set j (c, v)
  | [], j, _, hj, _ => by simp at hj
  | e :: l, 0, _, _, h => by
    simp at h
    constructor
    · simp [sumAt, h]
    · intro v; simp [setAt, h]
  | e :: l, j + 1, nd, hj, h => by
    simp at h hj
    have nd' : (l.map (·.1)).Nodup := by simp at nd; exact nd.2
    have hne : ¬ e.1 = c := by
      intro q
      simp at nd
      have := nd.1 (l[j]).2
      rw [q, ← h] at this
      exact this (List.getElem_mem _)
    obtain ⟨i1, i2⟩ := sumAt_atR nd' hj h
    constructor
    · simp [sumAt, hne]; exact i1
    · intro v; simp [setAt, hne]; exact i2 v

/-- A sum set in its place, in memory. -/
theorem ownF_setR {w : World} {B g cap : Nat} {acc : List (ByteArray × Int)} {j : Nat} (c : ByteArray) (s : Int) (h : OwnF w B (.slice (some ⟨g, 0, none⟩) (acc.map fz).length cap) (acc.map fz)) (hj : j < acc.length) (hc : (acc[j]).1 = c) : OwnF (w.setCell ⟨g, j * 3 + 2, none⟩ (.int .i64 s)) B (.slice (some ⟨g, 0, none⟩) ((acc.set j (c, s)).map fz).length cap) ((acc.set j (c, s)).map fz) := by
  have q := (World.ownsRow.stored h (j * 3 + 2) (.int .i64 s)).1
  have e : (fcs (acc.map fz)).set (j * 3 + 2) (.int .i64 s) = fcs ((acc.set j (c, s)).map fz) := by
    have hl : j < (acc.map fz).length := by simpa using hj
    have k := fcs_set (acc.map fz) j (fz (c, s)) hl
    have k0 : (fcs (acc.map fz)).set (j * 3) (.int .i64 (fz (c, s)).d) = fcs (acc.map fz) := by
      have a := fcs_at (acc.map fz) j hl 0 (by omega)
      apply List.ext_getElem?
      intro x
      rw [List.getElem?_set]
      split
      · rename_i e
        subst e
        have : j * 3 < (fcs (acc.map fz)).length := by rw [fcs_len]; omega
        rw [if_pos this]
        rw [Nat.add_zero] at a
        rw [a]
        simp [fz, Fl.cells, List.getD, hj]
      · rfl
    have k1 : (fcs (acc.map fz)).set (j * 3 + 1) (.string (fz (c, s)).c) = fcs (acc.map fz) := by
      have a := fcs_at (acc.map fz) j hl 1 (by omega)
      apply List.ext_getElem?
      intro x
      rw [List.getElem?_set]
      split
      · rename_i e
        subst e
        have : j * 3 + 1 < (fcs (acc.map fz)).length := by rw [fcs_len]; omega
        rw [if_pos this, a]
        simp [fz, Fl.cells, List.getD, hj, hc]
      · rfl
    rw [k0, k1] at k
    rw [← List.map_set] at k
    exact k
  have el : ((acc.set j (c, s)).map fz).length = (acc.map fz).length := by simp
  rw [e] at q
  rw [OwnF, el]
  exact q
/-- What sums answers. -/
def SumE (fs : List Fl) (B : Nat) (e : Ending) (w' : World) : Prop :=
  (tots fs = none ∧ e = .returned (.tuple #[.slice none 0 0, .bool false])) ∨ ∃ A v, tots fs = some A ∧ e = .returned (.tuple #[v, .bool true]) ∧ OwnF w' B v (exsort fLt (A.map fz))

set_option maxRecDepth 100000 in
set_option maxHeartbeats 4000000 in
theorem sumsT_any (a : Option Addr) (n cap : Nat) (fs : List Fl) (w : World) (h : FL w a n fs) (hw : ∀ i, i < n → inR (fs.getD i default).a ∧ (fs.getD i default).c.size ≤ maxLen) :
    Calls Try.prog 28 #[.slice a n cap, .bool false] w fun e w' => SumE fs w.heap.size e w' ∧ Below w.heap.size w w' := by
  have HL := Lib.hid h.1
  have hn := h.2.1
  have HW := Lib.hid hw
  have HA := Lib.hid (p := 0 < n → ∃ b o, a = some ⟨b, o, none⟩ ∧ b < w.heap.size ∧ ∀ i, i < n → FC w b (o + i * 3) (fs.getD i default)) (fun h0 => by
    rcases h.2.2 with h3 | h3
    · omega
    · exact h3)
  clear h hw
  go_enter Try.func28, Try.ntmps28
  go_wp2
  go_loopw [6, 7] (fun v t wr => ∃ (i : Nat) (acc : List (ByteArray × Int)), i ≤ n ∧ t = .int .i64 (i : Int) ∧ RowKit.Hid (tots (fs.take i) = some acc ∧ acc.length ≤ i ∧ ∀ e ∈ acc, inR e.2) ∧ OwnF wr w.heap.size v (acc.map fz) ∧ Below w.heap.size w wr) (fun _ t _ => n - (intOf t).toNat)
  case atStart => exact ⟨0, [], by omega, rfl, ⟨rfl, by simp, by simp⟩, ⟨rfl, .inl ⟨rfl, rfl⟩⟩, Below.refl _ _⟩
  case round =>
    rename World => wr
    obtain ⟨i, acc, hi, rfl, hT, hO, hB⟩ := hrel
    obtain ⟨aL, cL, rfl⟩ := formF' hO
    have OO := Lib.hid hO
    have BB := Lib.hid hB
    by_cases hlt : i < n
    · obtain ⟨b, o, rfl, hb, hc⟩ := HA.out (by omega)
      obtain ⟨c0, c1, c2⟩ := (hc i hlt).later hB hb
      have ic : (i : Int) < (n : Int) := by omega
      have HF := Lib.hid (HW.out i hlt)
      have TS := Lib.hid (tots_step (fs := fs) (k := i) (by rw [HL.out]; omega) rfl)
      have ND := Lib.hid (p := (acc.map (·.1)).Nodup) (tally_apart (acc := []) (by simp) hT.out.1)
      have TN := Lib.hid (p := tots (fs.take (i + 1)) = none → tots fs = none) tots_no
      generalize fs.getD i default = f at *
      obtain ⟨fd, fc, fa⟩ := f
      simp only at c0 c1 c2
      obtain ⟨m, hm⟩ : ∃ m : Nat, acc.length = m := ⟨_, rfl⟩
      have hm2 : (acc.map fz).length = m := by simp [hm]
      rw [hm2] at OO
      have HM := Lib.hid hm
      have m43 : m ≤ 4398046511000 := by have := hT.out.2.1; omega
      have LG := Lib.hid (p := 0 < m → ∃ g, aL = some ⟨g, 0, none⟩ ∧ ∀ k, k < m → ∃ (hk : k < acc.length), FC wr g (k * 3) (fz (acc[k]'hk))) (fun h0 => by
        rcases formF hO with ⟨_, q⟩ | ⟨g, cc, q⟩
        · omega
        · injection q with q1 _ q2
          subst q1 q2
          exact ⟨g, rfl, fun k hk => ⟨by omega, by
            have := fcF hO k (by rw [hm2]; exact hk)
            simpa [List.getD, show k < acc.length by omega] using this⟩⟩)
      rw [hm2]
      clear hO hB hc hm hm2
      go_wp2
      go_loopw [9, 10] (fun s t wi => ∃ (k : Nat) (A : Int), k ≤ m ∧ t = .int .i64 (k : Int) ∧ s = .int .i64 A ∧ RowKit.Hid ((A = -1 ∧ ∀ j (hj : j < acc.length), j < k → (acc[j]).1 ≠ fc) ∨ ∃ (j : Nat) (hj : j < acc.length), j < k ∧ A = (j : Int) ∧ (acc[j]).1 = fc) ∧ ∃ q, wi = (wr.alloc (.cells #[.int .i64 0, .string fc, .int .i64 fa] 40)).drewN q) (fun _ t _ => m - (intOf t).toNat)
      case atStart => exact ⟨0, -1, by omega, rfl, rfl, .inl ⟨rfl, fun j hj hk => absurd hk (by omega)⟩, 0, rfl⟩
      case round =>
        obtain ⟨k, A, hk, rfl, rfl, hK, q, rfl⟩ := hrel
        by_cases hlk : k < m
        · obtain ⟨g, rfl, hg⟩ := LG.out (by omega)
          obtain ⟨hka, e0, e1, e2⟩ := hg k hlk
          simp only [fz] at e0 e1 e2
          have kc : (k : Int) < (m : Int) := by omega
          have e0' := Lib.cell?_alloc_some (.cells #[.int .i64 0, .string fc, .int .i64 fa] 40) e0
          have e1' := Lib.cell?_alloc_some (.cells #[.int .i64 0, .string fc, .int .i64 fa] 40) e1
          clear hg e0 e1 e2
          by_cases hce : (acc[k]'hka).1 = fc
          · have NX := Lib.hid (p := ((k : Int) = -1 ∧ ∀ j (hj : j < acc.length), j < k + 1 → (acc[j]).1 ≠ fc) ∨ ∃ (j : Nat) (hj : j < acc.length), j < k + 1 ∧ (k : Int) = (j : Int) ∧ (acc[j]).1 = fc) (.inr ⟨k, hka, by omega, rfl, hce⟩)
            rw [hce] at e1'
            have ss : (fc.toList == fc.toList) = true := by simp
            clear hce
            go_wp2
            go_quiet (fail)
            go_wp2
            go_roundw
            case rel => exact ⟨k + 1, (k : Int), by omega, by go_num, rfl, NX.out, _, rfl⟩
            case measure => simp [intOf]; omega
          · have NX := Lib.hid (p := (A = -1 ∧ ∀ j (hj : j < acc.length), j < k + 1 → (acc[j]).1 ≠ fc) ∨ ∃ (j : Nat) (hj : j < acc.length), j < k + 1 ∧ A = (j : Int) ∧ (acc[j]).1 = fc) (by
              rcases hK.out with ⟨r1, r2⟩ | ⟨j, hj, r1, r2, r3⟩
              · refine .inl ⟨r1, fun j hj hjk => ?_⟩
                rcases (show j < k ∨ j = k by omega) with r | r
                · exact r2 j hj r
                · subst r; exact hce
              · exact .inr ⟨j, hj, by omega, r2, r3⟩)
            have ss := str_eq hce
            generalize (acc[k]'hka).1 = cc at *
            go_wp2
            go_quiet (fail)
            go_wp2
            go_roundw
            case rel => exact ⟨k + 1, A, by omega, by go_num, rfl, NX.out, _, rfl⟩
            case measure => simp [intOf]; omega
        · obtain rfl : k = m := by omega
          have BZ := Lib.hid (BB.out.alloc BB.out.size (.cells #[.int .i64 0, .string fc, .int .i64 fa] 40))
          have OZ := Lib.hid (p := OwnF (wr.alloc (.cells #[.int .i64 0, .string fc, .int .i64 fa] 40)) w.heap.size (.slice aL k cL) (acc.map fz)) (OO.out.alloc _)
          rcases (show (A = -1 ∧ ∀ j (hj : j < acc.length), (acc[j]).1 ≠ fc) ∨ ∃ (j : Nat) (hj : j < acc.length), A = (j : Int) ∧ (acc[j]).1 = fc from by
            rcases hK.out with ⟨r1, r2⟩ | ⟨j, hj, r1, r2, r3⟩
            · exact .inl ⟨r1, fun j hj => r2 j hj (by rw [← HM.out]; exact hj)⟩
            · exact .inr ⟨j, hj, r2, r3⟩) with ⟨rfl, hno⟩ | ⟨j, hj, rfl, hje⟩
          · have SN : sumAt fc acc = none := sumAt_none.2 (fun e he => by
              obtain ⟨j, hj, rfl⟩ := List.getElem_of_mem he
              exact hno j hj)
            have T1 := Lib.hid (p := tots (fs.take (i + 1)) = some (acc ++ [(fc, fa)]) ∧ (acc ++ [(fc, fa)]).length ≤ i + 1 ∧ ∀ e ∈ acc ++ [(fc, fa)], inR e.2) (by
              refine ⟨?_, by have := hT.out.2.1; simp; omega, fun e he => ?_⟩
              · rw [TS.out, hT.out.1]
                simp only [Option.bind_some, SN, Option.getD_none, Int.zero_add]
                rw [if_pos (fitB_in HF.out.1), setAt_new SN]
              · rcases List.mem_append.1 he with r | r
                · exact hT.out.2.2 e r
                · simp at r; subst r; exact HF.out.1)
            have MF := Lib.hid (p := (acc ++ [(fc, fa)]).map fz = acc.map fz ++ [Fl.mk 0 fc fa]) (by simp [fz])
            clear hno SN
            go_wp2_with (at_builtin; refine wp_flowN _ _ (by simp) 0 fa fc rfl _ _ rfl w.heap.size _ (acc.map fz) rfl rfl (ownF_drewN OZ.out q) (by have := HM.out; simp; omega) (below_dN BZ.out q).size ?_; intro v1 w1 h1 h2; have O1 := Lib.hid h1; have B1 := Lib.hid (((below_dN BZ.out q).alloc (below_dN BZ.out q).size _).trans ((Below.refl _ _).grown h2 (Nat.le_trans (below_dN BZ.out q).size (by simp)) (fun k e => (OZ.out.lt k e).1))); clear h1 h2)
            go_roundw
            case rel => exact ⟨i + 1, acc ++ [(fc, fa)], by omega, by go_num, T1.out, by rw [OwnF, MF.out]; exact O1.out, B1.out⟩
            case measure => simp [intOf]; omega
          · obtain ⟨SA, ST⟩ := sumAt_atR ND.out hj hje
            obtain ⟨g, rfl, hg⟩ := LG.out (by rw [← HM.out]; omega)
            obtain ⟨_, e0, e1, e2⟩ := hg j (by rw [← HM.out]; exact hj)
            simp only [fz] at e0 e1 e2
            have e2' := Lib.cell?_alloc_some (.cells #[.int .i64 0, .string fc, .int .i64 fa] 40) e2
            have vR := hT.out.2.2 _ (List.getElem_mem hj)
            have j0 : ¬ (j : Int) < 0 := by omega
            have jm : (j : Int) < (k : Int) := by have := HM.out; omega
            have HJ := Lib.hid hje
            obtain ⟨vj, hvj⟩ : ∃ v, (acc[j]).2 = v := ⟨_, rfl⟩
            rw [hvj] at e2' vR SA
            have FZ := Lib.hid (frozenF OZ.out (by simp [HM.out]) (j * 3 + 2))
            have fz2 := FZ.out
            clear hg e0 e1 e2 hvj hje
            by_cases hin : inR (vj + fa)
            · have KA := Lib.hid (fun W => rAdd_fits vj fa vR HF.out.1 hin W)
              have T1 := Lib.hid (p := tots (fs.take (i + 1)) = some (acc.set j (fc, vj + fa)) ∧ (acc.set j (fc, vj + fa)).length ≤ i + 1 ∧ ∀ e ∈ acc.set j (fc, vj + fa), inR e.2) (by
                refine ⟨?_, by have := hT.out.2.1; simp; omega, fun e he => ?_⟩
                · rw [TS.out, hT.out.1]
                  simp only [Option.bind_some, SA, Option.getD_some]
                  rw [if_pos (fitB_in hin), ST]
                · rcases List.mem_or_eq_of_mem_set he with r | r
                  · exact hT.out.2.2 e r
                  · subst r; exact hin)
              clear ST SA
              go_wp2
              go_quiet (first | (go_at_call 45; exact (KA.out _).mono (fun e w'' h => ⟨h.1, _, h.2⟩)))
              go_wp2
              go_roundw
              case rel => exact ⟨i + 1, acc.set j (fc, vj + fa), by omega, by go_num, T1.out, by have o := ownF_setR fc (vj + fa) (show OwnF ((wr.alloc (.cells #[.int .i64 0, .string fc, .int .i64 fa] 40)).drewN (q + nq)) w.heap.size (.slice (some ⟨g, 0, none⟩) (acc.map fz).length cL) (acc.map fz) from by have oo := ownF_drewN OZ.out (q + nq); simpa [HM.out] using oo) hj HJ.out; simpa [HM.out] using o, (below_dN BZ.out _).setCell (OZ.out.lt g rfl).1 _⟩
              case measure => simp [intOf]; omega
            · have KA := Lib.hid (fun W => rAdd_out vj fa vR HF.out.1 hin W)
              have T1 := Lib.hid (p := tots fs = none) (TN.out (by
                rw [TS.out, hT.out.1]
                simp only [Option.bind_some, SA, Option.getD_some]
                rw [if_neg (by rw [fitB_out hin]; simp)]))
              clear ST SA
              go_wp2
              go_quiet (first | (go_at_call 45; exact (KA.out _).mono (fun e w'' h => ⟨h.1, _, h.2⟩)))
              go_wp2
              go_ret2
              exact ⟨.inl ⟨T1.out, rfl⟩, below_dN BZ.out _⟩
    · obtain rfl : i = n := by omega
      have TF := Lib.hid (p := tots fs = some acc) (by have := hT.out.1; rwa [List.take_of_length_le (by rw [HL.out]; omega)] at this)
      obtain ⟨m, hm⟩ : ∃ m : Nat, acc.length = m := ⟨_, rfl⟩
      have hm2 : (acc.map fz).length = m := by simp [hm]
      have M43 : m ≤ 4398046511000 := by have := hT.out.2.1; omega
      rw [hm2] at OO
      have GF := Lib.hid (p := 0 < m → ∃ g, aL = some ⟨g, 0, none⟩ ∧ w.heap.size ≤ g) (fun h0 => by
        rcases hO.2 with ⟨_, q⟩ | ⟨g, cc, _, q, hBg, _⟩
        · omega
        · injection q with q1; exact ⟨g, q1, hBg⟩)
      generalize hl0 : acc.map fz = l0 at *
      have LL := Lib.hid hm2
      have HL0 := Lib.hid hl0
      rw [hm2]
      clear hO hB hm hm2 hT hl0
      go_wp2
      go_loopw [13] (fun t wq => ∃ (j : Nat) (done rest : List Fl), j ≤ m ∧ t = .int .i64 (j : Int) ∧ RowKit.Hid (done.length = j ∧ (done ++ rest).length = m ∧ done ++ exsort fLt rest = exsort fLt l0) ∧ OwnF wq w.heap.size (.slice aL m cL) (done ++ rest) ∧ Below w.heap.size w wq) (fun t _ => m - (intOf t).toNat)
      case atStart => exact ⟨0, [], l0, by omega, rfl, ⟨rfl, LL.out, rfl⟩, OO.out, BB.out⟩
      case round =>
        rename World => wq
        obtain ⟨j, done, rest, hj, rfl, hD, hO, hB⟩ := hrel
        have OQ := Lib.hid hO
        have BQ := Lib.hid hB
        by_cases hlj : j < m
        · obtain ⟨g, rfl, hBg⟩ := GF.out (by omega)
          have jc : (j : Int) < (m : Int) := by omega
          have jw : IntKind.i64.wrap ((j : Int) + 1) = (j : Int) + 1 := by simp [IntKind.wrap, IntKind.bits, IntKind.signed]; omega
          obtain ⟨x0, r0, rfl⟩ : ∃ x r, rest = x :: r := by
            cases rest with
            | nil => have := hD.out; simp at this; omega
            | cons x r => exact ⟨x, r, rfl⟩
          clear hO hB
          go_wp2
          go_loopw [14] (fun t wi => ∃ (k : Nat) (x : Fl) (mid r : List Fl), k ≤ m ∧ t = .int .i64 (k : Int) ∧ RowKit.Hid (k = j + 1 + mid.length ∧ (done ++ x :: (mid ++ r)).length = m ∧ sel fLt x0 r0 = ((sel fLt x r).1, mid ++ (sel fLt x r).2)) ∧ OwnF wi w.heap.size (.slice (some ⟨g, 0, none⟩) m cL) (done ++ x :: (mid ++ r)) ∧ Below w.heap.size w wi) (fun t _ => m - (intOf t).toNat)
          case atStart => exact ⟨j + 1, x0, [], r0, by omega, by go_num, ⟨by simp, by have := hD.out.2.1; simpa using this, by simp⟩, by simpa using OQ.out, BQ.out⟩
          case round =>
            rename World => wi
            obtain ⟨k, x, mid, r, hk, rfl, hS, hO, hB⟩ := hrel
            have OI := Lib.hid hO
            have BI := Lib.hid hB
            by_cases hlk : k < m
            · obtain ⟨y, r1, rfl⟩ : ∃ y r1, r = y :: r1 := by
                cases r with
                | nil => have := hS.out; have := hD.out; simp at *; omega
                | cons y r1 => exact ⟨y, r1, rfl⟩
              have kc : (k : Int) < (m : Int) := by omega
              have DL := Lib.hid hD.out.1
              have KE := Lib.hid (p := k = done.length + 1 + mid.length) (by rw [DL.out]; exact hS.out.1)
              obtain ⟨y0, y1, y2⟩ := fcF' hO hS.out.2.1 k hlk y (at_mid KE.out)
              obtain ⟨z0, z1, z2⟩ := fcF' hO hS.out.2.1 j hlj x (by rw [← DL.out]; exact at_head)
              have gw := (OI.out.lt g rfl).2
              obtain ⟨yd, yc, ya⟩ := y
              obtain ⟨xd, xc, xa⟩ := x
              simp only at y0 y1 y2 z0 z1 z2
              have KC := Lib.hid (fun W => rCompare_any yd ya xd xa yc xc W)
              have SEL := Lib.hid (p := sel fLt ⟨xd, xc, xa⟩ (⟨yd, yc, ya⟩ :: r1) = if fLt ⟨yd, yc, ya⟩ ⟨xd, xc, xa⟩ then ((sel fLt ⟨yd, yc, ya⟩ r1).1, ⟨xd, xc, xa⟩ :: (sel fLt ⟨yd, yc, ya⟩ r1).2) else ((sel fLt ⟨xd, xc, xa⟩ r1).1, ⟨yd, yc, ya⟩ :: (sel fLt ⟨xd, xc, xa⟩ r1).2)) (by rw [sel])
              have FLT := Lib.hid (p := fLt ⟨yd, yc, ya⟩ ⟨xd, xc, xa⟩ = decide (cmpF ⟨yd, yc, ya⟩ ⟨xd, xc, xa⟩ < 0)) rfl
              generalize cmpF ⟨yd, yc, ya⟩ ⟨xd, xc, xa⟩ = C at *
              clear hO hB
              have HCN := Lib.hid (p := ¬ C < 0 → decide (C < 0) = false) (fun q => decide_eq_false q)
              by_cases hC : C < 0
              · go_wp2
                go_region_held3 (fun w' => w'.cell? ⟨g, k * 3, none⟩ = some (.int .i64 yd) ∧ w'.cell? ⟨g, k * 3 + 1, none⟩ = some (.string yc) ∧ w'.cell? ⟨g, k * 3 + 2, none⟩ = some (.int .i64 ya) ∧ w'.cell? ⟨g, j * 3, none⟩ = some (.int .i64 xd) ∧ w'.cell? ⟨g, j * 3 + 1, none⟩ = some (.string xc) ∧ w'.cell? ⟨g, j * 3 + 2, none⟩ = some (.int .i64 xa))
                  (refine ⟨?_, ?_, ?_, ?_, ?_, ?_⟩ <;> first | assumption | (go_simp; done))
                  (first
                  | (go_at_call 46; refine (KC.out _).mono ?_; rintro e w1 ⟨rfl, b1⟩; have C1 := Lib.hid (show Below wi.heap.size wi w1 from ((Below.refl wi.heap.size wi).drew).trans b1); have B1 := Lib.hid (BI.out.trans (C1.out.mono BI.out.size)); have O1 := Lib.hid (p := OwnF w1 w.heap.size (.slice (some ⟨g, 0, none⟩) m cL) (done ++ ⟨xd, xc, xa⟩ :: (mid ++ ⟨yd, yc, ya⟩ :: r1))) (OI.out.kept (below_gr0F C1.out) (by simp [Value.ownBlock])); have v0 := (C1.out.cell (p := ⟨g, k * 3, none⟩) gw).trans y0; have v1 := (C1.out.cell (p := ⟨g, k * 3 + 1, none⟩) gw).trans y1; have v2 := (C1.out.cell (p := ⟨g, k * 3 + 2, none⟩) gw).trans y2; have u0 := (C1.out.cell (p := ⟨g, j * 3, none⟩) gw).trans z0; have u1 := (C1.out.cell (p := ⟨g, j * 3 + 1, none⟩) gw).trans z1; have u2 := (C1.out.cell (p := ⟨g, j * 3 + 2, none⟩) gw).trans z2; clear b1))
                have gw1 : g < w1.heap.size := Nat.lt_of_lt_of_le gw C1.out.size
                have ne1 : ¬ g = w1.heap.size := by omega
                have ne2 : ¬ w1.heap.size = g := by omega
                have f0 := frozenF O1.out hS.out.2.1 (j * 3)
                have f1 := frozenF O1.out hS.out.2.1 (j * 3 + 1)
                have f2 := frozenF O1.out hS.out.2.1 (j * 3 + 2)
                have f3 := frozenF O1.out hS.out.2.1 (k * 3)
                have f4 := frozenF O1.out hS.out.2.1 (k * 3 + 1)
                have f5 := frozenF O1.out hS.out.2.1 (k * 3 + 2)
                have PUT := Lib.hid (fun (W : World) (o : OwnF W w.heap.size (.slice (some ⟨g, 0, none⟩) m cL) (done ++ ⟨xd, xc, xa⟩ :: (mid ++ ⟨yd, yc, ya⟩ :: r1))) => ownF_put (ownF_put o hS.out.2.1 j hlj ⟨yd, yc, ya⟩) (by rw [List.length_set]; exact hS.out.2.1) k hlk ⟨xd, xc, xa⟩)
                have LST := Lib.hid (p := ((done ++ ⟨xd, xc, xa⟩ :: (mid ++ ⟨yd, yc, ya⟩ :: r1)).set j ⟨yd, yc, ya⟩).set k ⟨xd, xc, xa⟩ = done ++ ⟨yd, yc, ya⟩ :: ((mid ++ [⟨xd, xc, xa⟩]) ++ r1)) (by rw [← DL.out, set_head, set_mid KE.out]; simp)
                have jk : ¬ j * 3 = k * 3 := by have := KE.out; have := DL.out; omega
                have jk1 : j < k := by have := KE.out; have := DL.out; omega
                have n0 : ¬ j * 3 = k * 3 := by omega
                have n1 : ¬ k * 3 = j * 3 := by omega
                have n2 : ¬ j * 3 = k * 3 + 1 := by omega
                have n3 : ¬ k * 3 + 1 = j * 3 := by omega
                have n4 : ¬ j * 3 = k * 3 + 2 := by omega
                have n5 : ¬ k * 3 + 2 = j * 3 := by omega
                have n6 : ¬ j * 3 + 1 = k * 3 := by omega
                have n7 : ¬ k * 3 = j * 3 + 1 := by omega
                have n8 : ¬ j * 3 + 1 = k * 3 + 1 := by omega
                have n9 : ¬ k * 3 + 1 = j * 3 + 1 := by omega
                have n10 : ¬ j * 3 + 1 = k * 3 + 2 := by omega
                have n11 : ¬ k * 3 + 2 = j * 3 + 1 := by omega
                have n12 : ¬ j * 3 + 2 = k * 3 := by omega
                have n13 : ¬ k * 3 = j * 3 + 2 := by omega
                have n14 : ¬ j * 3 + 2 = k * 3 + 1 := by omega
                have n15 : ¬ k * 3 + 1 = j * 3 + 2 := by omega
                have n16 : ¬ j * 3 + 2 = k * 3 + 2 := by omega
                have n17 : ¬ k * 3 + 2 = j * 3 + 2 := by omega
                go_wp2
                go_roundw
                case rel =>
                  refine ⟨k + 1, ⟨yd, yc, ya⟩, mid ++ [⟨xd, xc, xa⟩], r1, by omega, by go_num, ⟨by have := hS.out.1; simp; omega, by have := hS.out.2.1; simp at this ⊢; omega, ?_⟩, ?_, ?_⟩
                  · rw [hS.out.2.2, SEL.out, FLT.out, decide_eq_true hC]; simp
                  · have o := PUT.out _ O1.out
                    rw [LST.out] at o
                    exact o.alloc _
                  · have b6 := (((((B1.out.setCell (p := ⟨g, j * 3, none⟩) hBg (.int .i64 yd)).setCell (p := ⟨g, j * 3 + 1, none⟩) hBg (.string yc)).setCell (p := ⟨g, j * 3 + 2, none⟩) hBg (.int .i64 ya)).setCell (p := ⟨g, k * 3, none⟩) hBg (.int .i64 xd)).setCell (p := ⟨g, k * 3 + 1, none⟩) hBg (.string xc)).setCell (p := ⟨g, k * 3 + 2, none⟩) hBg (.int .i64 xa)
                    exact b6.alloc b6.size _
                case measure => simp [intOf]; omega
              · go_wp2
                go_region_held3 (fun w' => w'.cell? ⟨g, k * 3, none⟩ = some (.int .i64 yd) ∧ w'.cell? ⟨g, k * 3 + 1, none⟩ = some (.string yc) ∧ w'.cell? ⟨g, k * 3 + 2, none⟩ = some (.int .i64 ya) ∧ w'.cell? ⟨g, j * 3, none⟩ = some (.int .i64 xd) ∧ w'.cell? ⟨g, j * 3 + 1, none⟩ = some (.string xc) ∧ w'.cell? ⟨g, j * 3 + 2, none⟩ = some (.int .i64 xa))
                  (refine ⟨?_, ?_, ?_, ?_, ?_, ?_⟩ <;> first | assumption | (go_simp; done))
                  (first
                  | (go_at_call 46; refine (KC.out _).mono ?_; rintro e w1 ⟨rfl, b1⟩; have C1 := Lib.hid (show Below wi.heap.size wi w1 from ((Below.refl wi.heap.size wi).drew).trans b1); have B1 := Lib.hid (BI.out.trans (C1.out.mono BI.out.size)); have O1 := Lib.hid (p := OwnF w1 w.heap.size (.slice (some ⟨g, 0, none⟩) m cL) (done ++ ⟨xd, xc, xa⟩ :: (mid ++ ⟨yd, yc, ya⟩ :: r1))) (OI.out.kept (below_gr0F C1.out) (by simp [Value.ownBlock])); have v0 := (C1.out.cell (p := ⟨g, k * 3, none⟩) gw).trans y0; have v1 := (C1.out.cell (p := ⟨g, k * 3 + 1, none⟩) gw).trans y1; have v2 := (C1.out.cell (p := ⟨g, k * 3 + 2, none⟩) gw).trans y2; have u0 := (C1.out.cell (p := ⟨g, j * 3, none⟩) gw).trans z0; have u1 := (C1.out.cell (p := ⟨g, j * 3 + 1, none⟩) gw).trans z1; have u2 := (C1.out.cell (p := ⟨g, j * 3 + 2, none⟩) gw).trans z2; clear b1))
                go_wp2
                go_roundw
                case rel =>
                  refine ⟨k + 1, ⟨xd, xc, xa⟩, mid ++ [⟨yd, yc, ya⟩], r1, by omega, by go_num, ⟨by have := hS.out.1; simp; omega, by have := hS.out.2.1; simp at this ⊢; omega, ?_⟩, by simpa using O1.out, B1.out⟩
                  rw [hS.out.2.2, SEL.out, FLT.out, HCN.out (by omega)]; simp
                case measure => simp [intOf]; omega
            · obtain rfl : k = m := by omega
              obtain rfl : r = [] := by
                have := hS.out
                have := hD.out
                cases r with
                | nil => rfl
                | cons y r1 => simp at *; omega
              have ND := Lib.hid (p := (done ++ [x]).length = j + 1 ∧ ((done ++ [x]) ++ mid).length = k ∧ (done ++ [x]) ++ exsort fLt mid = exsort fLt l0) (by
                have e1 := hD.out
                have e2 := hS.out
                refine ⟨by simp [e1.1], by have := e2.2.1; simp at this ⊢; omega, ?_⟩
                rw [← e1.2.2, exsort_cons, e2.2.2]
                simp [sel])
              have OL := Lib.hid (p := OwnF wi w.heap.size (.slice (some ⟨g, 0, none⟩) k cL) ((done ++ [x]) ++ mid)) (by simpa using OI.out)
              clear hO hB
              go_wp2
              go_roundw
              case rel => exact ⟨j + 1, done ++ [x], mid, by omega, by go_num, ND.out, OL.out, BI.out⟩
              case measure => simp [intOf]; omega
        · obtain rfl : j = m := by omega
          obtain rfl : rest = [] := by
            have := hD.out
            cases rest with
            | nil => rfl
            | cons y r1 => simp at *; omega
          have DE := Lib.hid (p := done ++ [] = exsort fLt (acc.map fz)) (by
            have := hD.out.2.2
            rw [exsort_nil] at this
            rw [this, HL0.out])
          clear hO hB
          go_wp2
          go_ret2
          refine ⟨.inr ⟨acc, _, TF.out, rfl, ?_⟩, BQ.out⟩
          have o := OQ.out
          rw [DE.out] at o
          exact o
end Go.Proofs.Ythhacbelbkkcmaa

namespace Go.Proofs.Ythhacbelbkkcmaa
open Go.RowKit
set_option linter.unusedVariables false
set_option linter.unusedSimpArgs false

/-- A total's cells; the cells of a list of totals. -/
def tc (x : ByteArray × Int) : List Value := [.string x.1, .int .i64 x.2]
def tcs (ts : List (ByteArray × Int)) : List Value := ts.flatMap tc
theorem tcs_len (ts : List (ByteArray × Int)) : (tcs ts).length = ts.length * 2 := by
  induction ts with
  | nil => rfl
  | cons t ts ih => simp [tcs, tc] at ih ⊢; omega
theorem tcs_snoc (ts : List (ByteArray × Int)) (t : ByteArray × Int) : tcs (ts ++ [t]) = tcs ts ++ tc t := by simp [tcs]
theorem infoT : (Try.prog.info? 57).map (fun i => (i.zero, i.size, i.bytes)) = some (some (.agg #[.string ⟨#[]⟩, .int .i64 0]), 2, 24) := by kernel_rfl

theorem own_snocT {w : World} {B : Nat} {v : Value} {ts : List (ByteArray × Int)} {t : ByteArray × Int} (h : w.ownsRow B 57 2 v (ts.length + 1) (tcs ts ++ tc t)) : w.ownsRow B 57 2 v (ts ++ [t]).length (tcs (ts ++ [t])) := by
  rw [tcs_snoc]; simpa using h
theorem own_sliceT {w : World} {B : Nat} {v : Value} {ts : List (ByteArray × Int)} {t : ByteArray × Int} (h : w.ownsRow B 57 2 v (ts ++ [t]).length (tcs (ts ++ [t]))) : ∃ g cap, v = .slice (some ⟨g, 0, none⟩) (ts ++ [t]).length cap := by
  obtain ⟨h1, h2⟩ := h
  rcases h2 with ⟨rfl, h2⟩ | ⟨g, cap, cur, rfl, _⟩
  · simp at h2
  · exact ⟨g, cap, rfl⟩

/-- 'list = append(list, t)' of a list of totals that the call itself gathers. -/
theorem wp_total {ops : Array Oper} {rest : List Oper} {o : Oper} {a : Act} {Q : Exit → Act → World → Prop} (w : World) (m : Int) (c : ByteArray) (hgd : o.guard = none) (s x : Operand)
    (ho : o.op = .call { callee := .builtin .append, args := #[s, x], argTypes := #[28, 28] }) (base : Nat) (v : Value) (ts : List (ByteArray × Int)) (hs : a.eval s = v)
    (hx : a.eval x = .slice (some ⟨w.heap.size, 0, none⟩) 1 1) (hown : w.ownsRow base 57 2 v ts.length (tcs ts)) (hl : ts.length ≤ 4398046511000) (hb : base ≤ w.heap.size)
    (h : ∀ v' w', w'.ownsRow base 57 2 v' (ts ++ [(c, m)]).length (tcs (ts ++ [(c, m)])) → (w.alloc (.cells #[.string c, .int .i64 m] 57)).grownBy w' v.ownBlock → wpList Try.prog ops Q rest (a.put o.dst v') w') :
    wpList Try.prog ops Q (o :: rest) a (w.alloc (.cells #[.string c, .int .i64 m] 57)) := by
  obtain ⟨i0, hi, hz0, hz1, hz2⟩ := info_parts infoT
  refine wpList_append_own _ hgd s x 28 ho base 57 i0 (.agg #[.string ⟨#[]⟩, .int .i64 0]) 2 24 Try.underlying28 hi hz0 hz1 hz2 rfl (by decide) v _ _ hs (hown.alloc _) ⟨w.heap.size, 0, none⟩ 1 1 (tc (c, m)) hx rfl ?_ ?_ (by unfold maxLen; omega) (by omega) (by simp; omega) ?_
  · intro j u hj
    match j, hj with
    | 0, hj => simp [tc] at hj; subst hj; simp [Addr.add]
    | 1, hj => simp [tc] at hj; subst hj; simp [Addr.add]
  · intro u hu
    simp [tc] at hu
    rcases hu with rfl | rfl <;> rfl
  · intro v' w' h1 h2 _
    exact h v' w' (own_snocT h1) h2
end Go.Proofs.Ythhacbelbkkcmaa
