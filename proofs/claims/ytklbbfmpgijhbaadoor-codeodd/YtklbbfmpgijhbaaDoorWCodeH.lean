/-
  THE STATEMENT CodeCut.
-/
import Derived.Test.YtklbbfmpgijhbaaDoorWCodeG
import Derived.Test.YtklbbfmpgijhbaaDoorOpenIn
namespace Go.Proofs.YtklbbfmpgijhbaaDoor
open Go.RowKit
set_option linter.unusedVariables false
set_option linter.unusedSimpArgs false

theorem li_of {w : World} {a : Option Addr} {len cap : Nat} {fs : List In} (hb : len * 24 ≤ 140737488351232) (h : IsIns w a len cap fs) : LI w a len fs ∧ (a = none → len = 0 ∧ cap = 0) ∧ len ≤ cap ∧ len ≤ 5864062014634 := by
  rcases h with ⟨rfl, rfl, rfl, rfl⟩ | ⟨x, rfl, h1, h2, h3, h5⟩
  · exact ⟨⟨rfl, by omega, .inl rfl⟩, fun _ => ⟨rfl, rfl⟩, by omega, by omega⟩
  · refine ⟨⟨h3, by omega, ?_⟩, (fun e => by cases e), h1, by omega⟩
    by_cases h0 : len = 0
    · exact .inl h0
    · obtain ⟨b, o, s⟩ := x
      have hc := (h5 0 (by omega)).1
      have hs : s = none := by simpa [Addr.add] using World.cell?_spot hc
      subst hs
      refine .inr ⟨b, o, rfl, ?_, fun i hi => ?_⟩
      · have e : (⟨b, o, none⟩ : Addr).add (0 * 3) = ⟨b, o, none⟩ := by simp [Addr.add]
        rw [e] at hc
        by_cases hlt : b < w.heap.size
        · exact hlt
        · exfalso
          have hn : w.heap[b]? = none := by simp; omega
          simp [World.cell?, hn] at hc
      · obtain ⟨c0, c1, c2⟩ := h5 i hi
        rw [Go.Addr.add_lit] at c0 c1 c2
        exact ⟨c0, c1, c2⟩
theorem all_ok {l m : List In} (h : ∀ i ∈ l, i.okP) (k : ∀ i ∈ m, i.okP) : ∀ i ∈ l ++ m, i.okP := fun i hi => by
  rcases List.mem_append.1 hi with q | q
  · exact h i q
  · exact k i q
theorem pg_ok (l : List In) : ∀ i ∈ plL ++ gdL l, i.okP := all_ok plL_ok (gdL_ok l)
theorem bl_cut {w : World} {a : Option Addr} {n cap : Nat} {xs : List Int} (h : Sl w a n cap xs) (m : Nat) (hm : m ≤ n) : BL w a m (xs.take m) ∧ (a = none → m = 0) := ⟨h.1.upTo m hm, fun e => by have := h.2.1 e; omega⟩
theorem own_liN {w : World} {B N : Nat} {v : Value} {l : List In} (h : OwI w B v l) (hN : l.length = N) (hl : N ≤ 5864062014805) : ∃ a cap, v = .slice a N cap ∧ LI w a N l ∧ (a = none → N = 0 ∧ cap = 0) ∧ N ≤ cap := by
  subst hN; exact own_li h hl
theorem own_slN {w : World} {B N : Nat} {v : Value} {n : Nat} {xs : List Int} (h : Own w B v n xs) (hN : n = N) (hb : ∀ c ∈ xs, 0 ≤ c ∧ c ≤ 255) (hn : N ≤ 140737488355328) : ∃ a cap, v = .slice a N cap ∧ Sl w a N cap xs := by
  subst hN; exact own_sl h hb hn
theorem owi_keep {w w' : World} {B : Nat} {v : Value} {l : List In} (h : OwI w B v l) (g : Below w.heap.size w w') : OwI w' B v l := h.kept (below_gr g none) (by cases v.ownBlock <;> simp)
theorem decA_nat {bs : List Int} {N : Nat} (h : ¬ 262144 < N) : decA bs (N : Int) = decs N bs := by
  unfold decA; rw [if_neg (by omega), if_neg (by omega), Int.toNat_natCast]
theorem plL_len : plL.length = 7 := rfl
set_option maxRecDepth 100000 in
set_option maxHeartbeats 2000000 in
theorem codeCut_go (a : Option Addr) (n cap : Nat) (l : List In) (cut : Int) (w : World) (h : LI w a n l) (hn : n ≤ 5864062014634) (hR : Rws w) :
    Calls Tryd.prog 9 #[.slice a n cap, .int .i64 cut] w fun e w' => e = .returned (.bool true) ∧ Below w.heap.size w w' := by
  have KP := Lib.hid (plain_any w)
  have KG := Lib.hid (fun W (q : Below w.heap.size w W) => good_any a n cap l W (h.later q) (hR.below q))
  have RR := Lib.hid hR
  have OKs := Lib.hid (pg_ok l)
  obtain ⟨gn, hgn⟩ : ∃ gn, (gdL l).length = gn := ⟨_, rfl⟩
  have gnb : gn ≤ 5864062014634 := by have := gdL_len l; have := h.1; omega
  have GN := Lib.hid hgn
  have GB := Lib.hid (p := gn ≤ 5864062014805) (by omega)
  obtain ⟨N, hN⟩ : ∃ N, (plL ++ gdL l).length = N := ⟨_, rfl⟩
  have hN7 : N = 7 + gn := by rw [← hN, List.length_append, hgn, plL_len]
  have NN := Lib.hid hN
  have NB := Lib.hid (p := N ≤ 5864062014805) (by omega)
  have PB := Lib.hid (p := plL.length + gn ≤ 5864062014805) (by rw [plL_len]; omega)
  have KE := Lib.hid (fun A c W (q : LI W A N (plL ++ gdL l)) (r : Rws W) => encode_any A N c (plL ++ gdL l) W q r)
  have KD := Lib.hid (fun A n c xs k W (q : BL W A n xs) (q0 : A = none → n = 0) (r : Rws W) => decode_any A n c xs k W q q0 r)
  clear h hR hN hgn
  unfold EncE at KE
  by_cases hl : 262144 < N
  · have EE := Lib.hid (encR_long (l := plL ++ gdL l) (by rw [NN.out]; exact hl))
    rw [EE.out] at KE
    have hl' : (262144 : Int) < (N : Int) := by omega
    clear hN7 gnb
    go_enter Tryd.func9, Tryd.ntmps9
    go_wp2_with (first
      | (go_at_call 29; refine KP.out.mono ?_; rintro e w1 ⟨⟨v1, rfl, h1⟩, h2⟩; have O1 := Lib.hid h1; have B1 := Lib.hid h2; clear h1 h2)
      | (go_at_call 30; refine (KG.out _ B1.out).mono ?_; rintro e w2 ⟨⟨v2, rfl, h1⟩, h2⟩; obtain ⟨A2, c2, hv2, hl2, hn2, _⟩ := own_liN h1 GN.out GB.out; subst hv2; have L2 := Lib.hid hl2; have N2 := Lib.hid hn2; have B2 := Lib.hid (B1.out.trans (h2.mono B1.out.size)); have P2 := Lib.hid (owi_keep O1.out h2); clear h1 h2 hl2 hn2)
      | (at_builtin; refine wp_joinI _ rfl _ _ rfl w.heap.size _ plL rfl _ _ _ (gdL l) rfl P2.out L2.out N2.out PB.out B2.out.size ?_; intro v3 w3 o3 g3; obtain ⟨A3, c3, hv3, hl3, hn3, hk3⟩ := own_liN o3 NN.out NB.out; subst hv3; have L3 := Lib.hid hl3; have O3 := Lib.hid o3; have M3 := Lib.hid hn3; have K3 := Lib.hid hk3; have B3 := Lib.hid (B2.out.grown g3 B2.out.size (fun k e => (P2.out.lt k e).1)); clear o3 g3 hl3 hn3 hk3)
      | (go_at_call 21; refine (KE.out _ _ _ L3.out (RR.out.below B3.out)).mono ?_; rintro e w4 ⟨v4, rfl, h1, h2⟩; have B4 := Lib.hid (B3.out.trans (h2.mono B3.out.size)); clear h1 h2))
    go_ret
    exact ⟨rfl, B4.out⟩
  · have EE := Lib.hid (encR_ok (l := plL ++ gdL l) (by rw [NN.out]; exact hl) OKs.out)
    rw [EE.out] at KE
    have hl' : ¬ (262144 : Int) < (N : Int) := by omega
    obtain ⟨M, hM⟩ : ∃ M, (encs (plL ++ gdL l)).length = M := ⟨_, rfl⟩
    have MM := Lib.hid hM
    have MB := Lib.hid (p := M ≤ 140737488355328) (by have := (encs_len OKs.out).1; rw [NN.out, hM] at this; omega)
    have EB := Lib.hid (encs_byte OKs.out)
    have DC' := Lib.hid (decs_cut OKs.out)
    rw [NN.out, hM] at DC'
    have DA := Lib.hid (fun bs => decA_nat (bs := bs) hl)
    clear hN7 gnb hM EE
    generalize encs (plL ++ gdL l) = E at *
    by_cases c0 : cut < 0
    · go_enter Tryd.func9, Tryd.ntmps9
      go_wp2_with (first
        | (go_at_call 29; refine KP.out.mono ?_; rintro e w1 ⟨⟨v1, rfl, h1⟩, h2⟩; have O1 := Lib.hid h1; have B1 := Lib.hid h2; clear h1 h2)
        | (go_at_call 30; refine (KG.out _ B1.out).mono ?_; rintro e w2 ⟨⟨v2, rfl, h1⟩, h2⟩; obtain ⟨A2, c2, hv2, hl2, hn2, _⟩ := own_liN h1 GN.out GB.out; subst hv2; have L2 := Lib.hid hl2; have N2 := Lib.hid hn2; have B2 := Lib.hid (B1.out.trans (h2.mono B1.out.size)); have P2 := Lib.hid (owi_keep O1.out h2); clear h1 h2 hl2 hn2)
        | (at_builtin; refine wp_joinI _ rfl _ _ rfl w.heap.size _ plL rfl _ _ _ (gdL l) rfl P2.out L2.out N2.out PB.out B2.out.size ?_; intro v3 w3 o3 g3; obtain ⟨A3, c3, hv3, hl3, hn3, hk3⟩ := own_liN o3 NN.out NB.out; subst hv3; have L3 := Lib.hid hl3; have O3 := Lib.hid o3; have M3 := Lib.hid hn3; have K3 := Lib.hid hk3; have B3 := Lib.hid (B2.out.grown g3 B2.out.size (fun k e => (P2.out.lt k e).1)); clear o3 g3 hl3 hn3 hk3)
        | (go_at_call 21; refine (KE.out _ _ _ L3.out (RR.out.below B3.out)).mono ?_; rintro e w4 ⟨v4, rfl, h1, h2⟩; obtain ⟨A4, c4, hv4, hs4⟩ := own_slN h1 MM.out EB.out MB.out; subst hv4; have B4 := Lib.hid (B3.out.trans (h2.mono B3.out.size)); clear h1 h2 hs4))
      go_ret
      exact ⟨rfl, B4.out⟩
    · obtain ⟨c, rfl⟩ : ∃ c : Nat, cut = (c : Int) := ⟨cut.toNat, by omega⟩
      by_cases c1 : c < M
      · have c2 : decide (M ≤ c) = false := by simp; omega
        have c3 : decide ((M : Int) ≤ (c : Int)) = false := by simp; omega
        have DX := Lib.hid (p := decA (E.take c) (N : Int) = ([], 41, c)) (by rw [DA.out, DC'.out c c1])
        have C1 := Lib.hid c1
        go_enter Tryd.func9, Tryd.ntmps9
        go_wp2_with (first
          | (go_at_call 29; refine KP.out.mono ?_; rintro e w1 ⟨⟨v1, rfl, h1⟩, h2⟩; have O1 := Lib.hid h1; have B1 := Lib.hid h2; clear h1 h2)
          | (go_at_call 30; refine (KG.out _ B1.out).mono ?_; rintro e w2 ⟨⟨v2, rfl, h1⟩, h2⟩; obtain ⟨A2, c2, hv2, hl2, hn2, _⟩ := own_liN h1 GN.out GB.out; subst hv2; have L2 := Lib.hid hl2; have N2 := Lib.hid hn2; have B2 := Lib.hid (B1.out.trans (h2.mono B1.out.size)); have P2 := Lib.hid (owi_keep O1.out h2); clear h1 h2 hl2 hn2)
          | (at_builtin; refine wp_joinI _ rfl _ _ rfl w.heap.size _ plL rfl _ _ _ (gdL l) rfl P2.out L2.out N2.out PB.out B2.out.size ?_; intro v3 w3 o3 g3; obtain ⟨A3, c3, hv3, hl3, hn3, hk3⟩ := own_liN o3 NN.out NB.out; subst hv3; have L3 := Lib.hid hl3; have O3 := Lib.hid o3; have M3 := Lib.hid hn3; have K3 := Lib.hid hk3; have B3 := Lib.hid (B2.out.grown g3 B2.out.size (fun k e => (P2.out.lt k e).1)); clear o3 g3 hl3 hn3 hk3)
          | (go_at_call 21; refine (KE.out _ _ _ L3.out (RR.out.below B3.out)).mono ?_; rintro e w4 ⟨v4, rfl, h1, h2⟩; obtain ⟨A4, c4, hv4, hs4⟩ := own_slN h1 MM.out EB.out MB.out; subst hv4; have S4 := Lib.hid hs4; have B4 := Lib.hid (B3.out.trans (h2.mono B3.out.size)); have r4 : c ≤ c4 := Nat.le_trans (Nat.le_of_lt C1.out) hs4.2.2; clear h1 h2 hs4)
          | (go_at_call 31; refine (KD.out _ _ _ _ _ _ (bl_cut S4.out c (Nat.le_of_lt C1.out)).1 (bl_cut S4.out c (Nat.le_of_lt C1.out)).2 (RR.out.below B4.out)).mono ?_; rintro e w5 ⟨⟨v5, he, h1⟩, h2⟩; rw [DX.out] at he h1; subst he; obtain ⟨A5, c5, hv5, _, _, _⟩ := own_liN (N := 0) h1 rfl (by omega); subst hv5; have B5 := Lib.hid (B4.out.trans (h2.mono B4.out.size)); clear h1 h2))
        go_ret
        exact ⟨rfl, B5.out⟩
      · have c2 : (M : Int) ≤ (c : Int) := by omega
        have c3 : M ≤ c := by omega
        go_enter Tryd.func9, Tryd.ntmps9
        go_wp2_with (first
          | (go_at_call 29; refine KP.out.mono ?_; rintro e w1 ⟨⟨v1, rfl, h1⟩, h2⟩; have O1 := Lib.hid h1; have B1 := Lib.hid h2; clear h1 h2)
          | (go_at_call 30; refine (KG.out _ B1.out).mono ?_; rintro e w2 ⟨⟨v2, rfl, h1⟩, h2⟩; obtain ⟨A2, c2, hv2, hl2, hn2, _⟩ := own_liN h1 GN.out GB.out; subst hv2; have L2 := Lib.hid hl2; have N2 := Lib.hid hn2; have B2 := Lib.hid (B1.out.trans (h2.mono B1.out.size)); have P2 := Lib.hid (owi_keep O1.out h2); clear h1 h2 hl2 hn2)
          | (at_builtin; refine wp_joinI _ rfl _ _ rfl w.heap.size _ plL rfl _ _ _ (gdL l) rfl P2.out L2.out N2.out PB.out B2.out.size ?_; intro v3 w3 o3 g3; obtain ⟨A3, c3, hv3, hl3, hn3, hk3⟩ := own_liN o3 NN.out NB.out; subst hv3; have L3 := Lib.hid hl3; have O3 := Lib.hid o3; have M3 := Lib.hid hn3; have K3 := Lib.hid hk3; have B3 := Lib.hid (B2.out.grown g3 B2.out.size (fun k e => (P2.out.lt k e).1)); clear o3 g3 hl3 hn3 hk3)
          | (go_at_call 21; refine (KE.out _ _ _ L3.out (RR.out.below B3.out)).mono ?_; rintro e w4 ⟨v4, rfl, h1, h2⟩; obtain ⟨A4, c4, hv4, hs4⟩ := own_slN h1 MM.out EB.out MB.out; subst hv4; have B4 := Lib.hid (B3.out.trans (h2.mono B3.out.size)); clear h1 h2 hs4))
        go_ret
        exact ⟨rfl, B4.out⟩
end Go.Proofs.YtklbbfmpgijhbaaDoor
