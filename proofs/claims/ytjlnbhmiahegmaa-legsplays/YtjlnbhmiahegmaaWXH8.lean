/-
  WALK: the law's handRows.
-/
import Derived.Test.YtjlnbhmiahegmaaWXHb
import Derived.Test.YtjlnbhmiahegmaaWXV5
namespace Go.Proofs.Ytjlnbhmiahegmaa
open Go.RowKit
set_option linter.unusedVariables false
set_option linter.unusedSimpArgs false

set_option maxRecDepth 100000 in
set_option maxHeartbeats 1000000 in
theorem handRows_any {w : World} {a : Option Addr} {n k : Nat} {rs : List Rw} (hI : RL w a n rs) :
    Calls Try.prog 7 #[.slice a n k] w fun e' w' => ∃ b, e' = .returned (.slice (some ⟨b, 0, none⟩) n (n + 3)) ∧ RO w' w.heap.size b (Rws rs) ∧ Below w.heap.size w w' := by
  obtain ⟨rfl, hn, hrc, hr⟩ := hI
  have MK := fun W => make_rs3 W rs.length hn
  obtain ⟨w3, hw3⟩ : ∃ w3, w.alloc (.cells (madeCells #[.slice none 0 0] (rs.length + 3)) 56) = w3 := ⟨_, rfl⟩
  have S3 := Lib.hid (OM.new w w3 (Rws rs) rs.length (by simp [Rws]) hw3)
  have HW3 := Lib.hid hw3
  have HR := Lib.hid hr
  have HC := Lib.hid hrc
  clear hw3 hr hrc
  go_enter Try.func7, Try.ntmps7
  go_wp2
  rw [HW3.out]
  clear HW3 MK
  go_loopw [4] (fun t wr => ∃ (i : Nat), i ≤ rs.length + 3 ∧ t = .int .i64 i ∧ ∃ Cur bs, OM w wr (Rws rs) i Cur bs) (fun t _ => rs.length + 3 - (intOf t).toNat)
  case atStart => exact ⟨0, by omega, rfl, S3.out⟩
  case round =>
    rename World => wo
    clear S3
    obtain ⟨i, hi, rfl, Cur, bs, hS⟩ := hrel
    have SS := Lib.hid hS
    have RLn := Lib.hid (show (Rws rs).length = rs.length by simp [Rws])
    by_cases il : i < rs.length + 3
    · have ic : (i : Int) < (rs.length : Int) + 3 := by omega
      by_cases jl : i < rs.length
      · have jc : (i : Int) < (rs.length : Int) := by omega
        rcases HR.out with h0 | ⟨g, o, rfl, hg, hc⟩
        · omega
        obtain ⟨r, hr⟩ : ∃ r, rs.getD i default = r := ⟨_, rfl⟩
        have hmem : r ∈ rs := by rw [← hr]; simp [List.getD, jl]
        have hRi := Lib.hid (show (Rws rs).getD i [] = r.cs by rw [← hr]; simp [Rws, List.getD, jl])
        obtain ⟨⟨hcl, hcn, hcw, hcr⟩, _, _, _⟩ := HC.out r hmem
        have c0 := (hS.bel.cell (p := ⟨g, o + i, none⟩) hg).trans (hc i jl)
        rw [hr] at c0
        have MKC := fun W => make_cs3 W r.n hcn
        obtain ⟨w4, hw4⟩ : ∃ w4, wo.alloc (.cells (madeCells #[.bool false, .int .i64 0] ((r.n + 3) * 2)) 58) = w4 := ⟨_, rfl⟩
        have S4 := Lib.hid (IR.new wo w4 r.cs r.n hcl hw4)
        have HW4 := Lib.hid hw4
        have HCR := Lib.hid hcr
        have HG := Lib.hid hc
        have HCL := Lib.hid hcl
        have SB := Lib.hid hS.bel
        have hr' := Lib.hid hr
        have gw : g < wo.heap.size := Nat.lt_of_lt_of_le hg hS.bel.size
        clear hS hw4 hcr hc hcl hcw hr hmem
        go_wp2
        rw [HW4.out]
        clear HW4 MKC
        go_loopw [7] (fun t wr => ∃ (k : Nat), k ≤ r.n + 3 ∧ t = .int .i64 k ∧ ∃ cur, IR wo wr r.cs k cur) (fun t _ => r.n + 3 - (intOf t).toNat)
        case atStart => exact ⟨0, by omega, rfl, S4.out⟩
        case round =>
          clear S4 c0
          obtain ⟨k, hk, rfl, cur, hT⟩ := hrel
          have TT := Lib.hid hT
          by_cases kl : k < r.n + 3
          · have kc : (k : Int) < (r.n : Int) + 3 := by omega
            by_cases ml : k < r.n
            · have mc : (k : Int) < (r.n : Int) := by omega
              rcases HCR.out with h0 | ⟨g2, o2, e2, hg2, hc2⟩
              · omega
              have ne1 : ¬ g = wo.heap.size := by omega
              have ne2 : ¬ wo.heap.size = g := by omega
              have ne3 : ¬ g2 = wo.heap.size := by have := SB.out.size; omega
              have ne4 : ¬ wo.heap.size = g2 := by omega
              have HC2 := Lib.hid hc2
              have E2 := Lib.hid e2
              clear hT hc2 e2
              go_wp2_with ((go_simp; go_at_call 24); refine (oddCell_any _).mono ?_; rintro e' w5 ⟨rfl, hb5⟩; have B5 := Lib.hid (show Below wr.heap.size wr w5 from hb5); have S5 := Lib.hid (TT.out.later B5.out); obtain ⟨y0, d0⟩ := S5.out.b.some1 (k * 2) (by have := S5.out.sz; have := HCL.out; omega); obtain ⟨y1, d1⟩ := S5.out.b.some1 (k * 2 + 1) (by have := S5.out.sz; have := HCL.out; omega); have f0 := S5.out.b.frozen (k * 2); have f1 := S5.out.b.frozen (k * 2 + 1); have BW := Lib.hid (SB.out.trans (S5.out.bel.mono SB.out.size)); have c0 := (BW.out.cell (p := ⟨g, o + i, none⟩) hg).trans (HG.out i jl); rw [hr'.out, E2.out] at c0; have c2 := (BW.out.cell (p := ⟨g2, o2 + k * 2, none⟩) hg2).trans (HC2.out k ml).1; have c3 := (BW.out.cell (p := ⟨g2, o2 + k * 2 + 1, none⟩) hg2).trans (HC2.out k ml).2; clear hb5)
              go_roundw
              case rel => exact ⟨k + 1, by omega, by go_num, S5.out.two (by have := HCL.out; omega) _ _ _ _ (by simp [dk, HCL.out, ml])⟩
              case measure => simp [intOf]; omega
            · have mc : ¬ (k : Int) < (r.n : Int) := by omega
              clear hT
              go_wp2_with ((go_simp; go_at_call 24); refine (oddCell_any _).mono ?_; rintro e' w5 ⟨rfl, hb5⟩; have B5 := Lib.hid (show Below wr.heap.size wr w5 from hb5); have S5 := Lib.hid (TT.out.later B5.out); obtain ⟨y0, d0⟩ := S5.out.b.some1 (k * 2) (by have := S5.out.sz; have := HCL.out; omega); obtain ⟨y1, d1⟩ := S5.out.b.some1 (k * 2 + 1) (by have := S5.out.sz; have := HCL.out; omega); have f0 := S5.out.b.frozen (k * 2); have f1 := S5.out.b.frozen (k * 2 + 1); clear hb5)
              go_roundw
              case rel => exact ⟨k + 1, by omega, by go_num, S5.out.one (by have := HCL.out; omega) _ _ (by simp [dk, HCL.out, ml])⟩
              case measure => simp [intOf]; omega
          · obtain rfl : k = r.n + 3 := by omega
            have S6 := Lib.hid (SS.out.later hT.bel)
            obtain ⟨y0, d0⟩ := S6.out.b.some1 i (by have := S6.out.sz; have := RLn.out; omega)
            have f0 := S6.out.b.frozen i
            clear hT
            go_wp2
            go_roundw
            case rel => exact ⟨i + 1, by omega, by go_num, SS.out.next (by have := RLn.out; omega) (by rw [hRi.out]; exact HCL.out) (by rw [hRi.out]; exact TT.out)⟩
            case measure => simp [intOf]; omega
      · have jc : ¬ (i : Int) < (rs.length : Int) := by omega
        have hRi := Lib.hid (show (Rws rs).getD i [] = [] by simp [Rws, List.getD, jl])
        have MKC := fun W => make_cs3 W 0 (by omega)
        obtain ⟨w4, hw4⟩ : ∃ w4, wo.alloc (.cells (madeCells #[.bool false, .int .i64 0] ((0 + 3) * 2)) 58) = w4 := ⟨_, rfl⟩
        have S4 := Lib.hid (IR.new wo w4 [] 0 rfl hw4)
        simp only [Int.cast_ofNat_Int, Int.zero_add, Nat.zero_add, Nat.reduceMul] at MKC hw4
        have HW4 := Lib.hid hw4
        clear hS hw4
        go_wp2
        rw [HW4.out]
        clear HW4 MKC
        go_loopw [7] (fun t wr => ∃ (k : Nat), k ≤ 3 ∧ t = .int .i64 k ∧ ∃ cur, IR wo wr [] k cur) (fun t _ => 3 - (intOf t).toNat)
        case atStart => exact ⟨0, by omega, rfl, S4.out⟩
        case round =>
          clear S4
          obtain ⟨k, hk, rfl, cur, hT⟩ := hrel
          have TT := Lib.hid hT
          by_cases kl : k < 3
          · have kc : (k : Int) < 3 := by omega
            have mc : ¬ (k : Int) < 0 := by omega
            clear hT
            go_wp2_with ((go_simp; go_at_call 24); refine (oddCell_any _).mono ?_; rintro e' w5 ⟨rfl, hb5⟩; have B5 := Lib.hid (show Below wr.heap.size wr w5 from hb5); have S5 := Lib.hid (TT.out.later B5.out); obtain ⟨y0, d0⟩ := S5.out.b.some1 (k * 2) (by have := S5.out.sz; simp at this; omega); obtain ⟨y1, d1⟩ := S5.out.b.some1 (k * 2 + 1) (by have := S5.out.sz; simp at this; omega); have f0 := S5.out.b.frozen (k * 2); have f1 := S5.out.b.frozen (k * 2 + 1); clear hb5)
            go_roundw
            case rel => exact ⟨k + 1, by omega, by go_num, S5.out.one (by simpa using kl) _ _ (by simp [dk])⟩
            case measure => simp [intOf]; omega
          · obtain rfl : k = 3 := by omega
            have S6 := Lib.hid (SS.out.later hT.bel)
            obtain ⟨y0, d0⟩ := S6.out.b.some1 i (by have := S6.out.sz; have := RLn.out; omega)
            have f0 := S6.out.b.frozen i
            clear hT
            go_wp2
            go_roundw
            case rel => exact ⟨i + 1, by omega, by go_num, SS.out.next (m := 0) (by have := RLn.out; omega) (by rw [hRi.out]; rfl) (by rw [hRi.out]; exact TT.out)⟩
            case measure => simp [intOf]; omega
    · obtain rfl : i = rs.length + 3 := by omega
      clear hS
      go_wp2
      refine bodyPost_ret (v := .slice (some ⟨w.heap.size, 0, none⟩) rs.length (rs.length + 3)) (by simp [results, Try.results7, go_sem]) rfl ?_
      exact ⟨_, rfl, ⟨Nat.le_refl _, Cur, bs, SS.out.b, SS.out.sz, fun j hj => SS.out.done j (by have := RLn.out; omega)⟩, SS.out.bel⟩
end Go.Proofs.Ytjlnbhmiahegmaa
