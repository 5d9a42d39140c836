/-
  WALK: CalScheduled.
-/
import Derived.Test.YtpeglcnenagkbaaDoorPlainSch2
import Derived.Test.YtpeglcnenagkbaaDoorWSch5
import Derived.Deep.RegionHeld3
namespace Go.Proofs.YtpeglcnenagkbaaDoor
open Go.RowKit
open Cal
set_option linter.unusedVariables false
set_option linter.unusedSimpArgs false

theorem ownDates_dl (a : Option Addr) (n cap : Nat) (ds : List Dt) (w : World) (h : HoD w a n cap ds) :
    Calls Tryd.prog 15 #[.slice a n cap] w fun e w' => ∃ A C, e = .returned (.slice A n C) ∧ Below w.heap.size w w' ∧ DL w' A n ds := by
  have hd := h.dl
  refine (ownDates_any a n cap ds w h).mono ?_
  rintro e w' ⟨h1, hb⟩
  rcases h1 with ⟨rfl, rfl, rfl⟩ | ⟨rfl, xs, p, q, _⟩
  · exact ⟨none, 0, rfl, hb, hd.1, hd.2.1, .inl rfl⟩
  · exact ⟨_, _, rfl, hb, own_dl p q hd.1 hd.2.1⟩
theorem own_hol {w : World} {B : Nat} {v : Value} {zs : List Int} (h : OwnD w B v zs) (hn : zs.length ≤ 20000000000000) : ∃ A C, v = .slice A zs.length C ∧ Hol w A zs.length C zs := by
  by_cases h0 : zs.length = 0
  · rcases h.2 with ⟨rfl, _⟩ | ⟨g, cap, cur, rfl, _⟩
    · exact ⟨none, 0, by rw [h0], .inl ⟨rfl, h0, rfl, List.length_eq_zero_iff.1 h0⟩⟩
    · exact ⟨_, _, rfl, .inr (.inl ⟨_, rfl, h0, List.length_eq_zero_iff.1 h0⟩)⟩
  · obtain ⟨g, cap, rfl, _, _, hw⟩ := own_wi h (by omega)
    exact ⟨_, _, rfl, .inr (.inr ⟨g, 0, rfl, hw.1, rfl, hn, fun i hi => by rw [Nat.zero_add]; exact (hw.2 i hi).1⟩)⟩
/-- Schedule's answer, its value told apart. -/
def SchV (y m d y2 m2 d2 N u conv : Int) (ds : List Dt) (v : Value) (x : Int) (w' : World) : Prop :=
  (v = .slice none 0 0 ∧ x ≠ 0 ∧ SchNo y m d y2 m2 d2 N u conv ds) ∨
  (∃ (xa : Option Addr) (cap : Nat) (zs L rs : List Int), v = .slice xa (Lib.compact rs).length cap ∧ x = 0 ∧ (tenB N u = true ∧ (conv = 0 ∨ conv = 1 ∨ conv = 2 ∨ conv = 3) ∧ exB y m d = true ∧ exB y2 m2 d2 = true ∧ NumsOk ds zs ∧ num y m d ≤ num y2 m2 d2) ∧ Reg y m d N u (num y2 m2 d2) L ∧ AdjL conv zs L rs ∧ Ls w' xa (Lib.compact rs).length (Lib.compact rs))
theorem sch_val {y m d y2 m2 d2 N u conv : Int} {ds : List Dt} {e : Ending} {w' : World} (h : SchE y m d y2 m2 d2 N u conv ds e w') : ∃ (v : Value) (x : Int), e = .returned (.tuple #[v, .int .i64 x]) ∧ SchV y m d y2 m2 d2 N u conv ds v x w' := by
  rcases h with ⟨x, rfl, h1, h2⟩ | ⟨xa, cap, zs, L, rs, rfl, h1, h2, h3, h4⟩
  · exact ⟨_, x, rfl, .inl ⟨rfl, h1, h2⟩⟩
  · exact ⟨_, 0, rfl, .inr ⟨xa, cap, zs, L, rs, rfl, rfl, h1, h2, h3, h4⟩⟩
def NumW (w : World) (ds : List Dt) (v : Value) (b : Bool) (w' : World) : Prop := (∃ zs, b = true ∧ NumsOk ds zs ∧ OwnD w' w.heap.size v zs) ∨ (v = .slice none 0 0 ∧ b = false ∧ NumsNo ds)
theorem num_val {w w' : World} {ds : List Dt} {e : Ending} (h : NumV w ds e w') : ∃ (v : Value) (b : Bool), e = .returned (.tuple #[v, .bool b]) ∧ NumW w ds v b w' := by
  rcases h with ⟨v, zs, rfl, h1, h2⟩ | ⟨rfl, h1⟩
  · exact ⟨v, true, rfl, .inl ⟨zs, rfl, h1, h2⟩⟩
  · exact ⟨_, false, rfl, .inr ⟨rfl, rfl, h1⟩⟩
theorem add_bad {y m d N u n Y M D E : Int} (h : AddIs y m d N u n Y M D E) (hE : ¬ E = 0) : exB Y M D = false := by
  have z : exB 0 0 0 = false := by decide
  have da : ∀ k, dayOr k Y M D E → exB Y M D = false := fun k q => by
    unfold dayOr at q
    split at q
    · exact absurd q.2.2 hE
    · obtain ⟨rfl, rfl, rfl, _⟩ := q; exact z
  have mo : ∀ k, monOr k d Y M D E → exB Y M D = false := fun k q => by
    unfold monOr at q
    split at q
    · exact absurd q.2.2.2 hE
    · obtain ⟨rfl, rfl, rfl, _⟩ := q; exact z
  unfold AddIs at h
  split at h
  · obtain ⟨rfl, rfl, rfl, _⟩ := h; exact z
  · split at h
    · obtain ⟨rfl, rfl, rfl, _⟩ := h; exact z
    · split at h
      · obtain ⟨rfl, rfl, rfl, _⟩ := h; exact z
      · split at h
        · exact da _ h
        · split at h
          · exact da _ h
          · split at h
            · exact mo _ h
            · exact mo _ h
/-- The plan's box. -/
structure PB (w W : World) (y m d y2 m2 d2 N u conv : Int) (a : Option Addr) (n cap : Nat) : Prop where
  c0 : W.cell? ⟨w.heap.size, 0, none⟩ = some (.int .i64 y)
  c1 : W.cell? ⟨w.heap.size, 1, none⟩ = some (.int .i64 m)
  c2 : W.cell? ⟨w.heap.size, 2, none⟩ = some (.int .i64 d)
  c3 : W.cell? ⟨w.heap.size, 3, none⟩ = some (.int .i64 y2)
  c4 : W.cell? ⟨w.heap.size, 4, none⟩ = some (.int .i64 m2)
  c5 : W.cell? ⟨w.heap.size, 5, none⟩ = some (.int .i64 d2)
  c6 : W.cell? ⟨w.heap.size, 6, none⟩ = some (.int .i64 N)
  c7 : W.cell? ⟨w.heap.size, 7, none⟩ = some (.int .i64 u)
  c8 : W.cell? ⟨w.heap.size, 8, none⟩ = some (.int .i64 conv)
  c9 : W.cell? ⟨w.heap.size, 9, none⟩ = some (.slice a n cap)
  sz : w.heap.size < W.heap.size
  bel : Below w.heap.size w W
theorem PB.later {w W W' : World} {y m d y2 m2 d2 N u conv : Int} {a : Option Addr} {n cap : Nat} (h : PB w W y m d y2 m2 d2 N u conv a n cap) (k : Below W.heap.size W W') : PB w W' y m d y2 m2 d2 N u conv a n cap := by
  have q : ∀ i v, W.cell? ⟨w.heap.size, i, none⟩ = some v → W'.cell? ⟨w.heap.size, i, none⟩ = some v := fun i v hv => (k.cell (p := ⟨w.heap.size, i, none⟩) h.sz).trans hv
  exact ⟨q _ _ h.c0, q _ _ h.c1, q _ _ h.c2, q _ _ h.c3, q _ _ h.c4, q _ _ h.c5, q _ _ h.c6, q _ _ h.c7, q _ _ h.c8, q _ _ h.c9, Nat.lt_of_lt_of_le h.sz k.size, h.bel.trans (k.mono (Nat.le_of_lt h.sz))⟩
theorem PB.drew {w W : World} {y m d y2 m2 d2 N u conv : Int} {a : Option Addr} {n cap : Nat} (h : PB w W y m d y2 m2 d2 N u conv a n cap) : PB w W.drew y m d y2 m2 d2 N u conv a n cap := h.later ⟨rfl, rfl, rfl, Nat.le_refl _, fun _ _ => rfl⟩
theorem pb_new (w : World) (y m d y2 m2 d2 N u conv : Int) (a : Option Addr) (n cap : Nat) : PB w (w.alloc (.cells #[.int .i64 y, .int .i64 m, .int .i64 d, .int .i64 y2, .int .i64 m2, .int .i64 d2, .int .i64 N, .int .i64 u, .int .i64 conv, .slice a n cap] 40)) y m d y2 m2 d2 N u conv a n cap :=
  ⟨by go_simp, by go_simp, by go_simp, by go_simp, by go_simp, by go_simp, by go_simp, by go_simp, by go_simp, by go_simp, by simp, (Below.refl _ _).alloc (Nat.le_refl _) _⟩

set_option maxRecDepth 100000 in
set_option maxHeartbeats 8000000 in
theorem calScheduled_walk (y m d y2 m2 d2 N u conv : Int) (a : Option Addr) (n cap : Nat) (ds : List Dt) (w : World) (hT : Tz w) (hM : Mon w) (hH : HoD w a n cap ds) :
    Calls Tryd.prog 5 #[.agg #[.int .i64 y, .int .i64 m, .int .i64 d, .int .i64 y2, .int .i64 m2, .int .i64 d2, .int .i64 N, .int .i64 u, .int .i64 conv, .slice a n cap]] w fun e w' => e = .returned (.bool true) ∧ Below w.heap.size w w' := by
  have P0 := Lib.hid (pb_new w y m d y2 m2 d2 N u conv a n cap)
  obtain ⟨w0, hw0⟩ : ∃ w0, w.alloc (.cells #[.int .i64 y, .int .i64 m, .int .i64 d, .int .i64 y2, .int .i64 m2, .int .i64 d2, .int .i64 N, .int .i64 u, .int .i64 conv, .slice a n cap] 40) = w0 := ⟨_, rfl⟩
  rw [hw0] at P0
  have HT := Lib.hid (p := ∀ W, Below w.heap.size w W → Tz W) (fun W b => tz_below (Nat.le_refl _) b hT)
  have HM := Lib.hid (p := ∀ W, Below w.heap.size w W → Mon W) (fun W b => mon_below (Nat.le_refl _) b hM)
  have HD := Lib.hid (p := ∀ W, Below w.heap.size w W → HoD W a n cap ds) (fun W b => hH.later b)
  have LD := Lib.hid (p := ds.length ≤ 5864062014800) (by have := hH.dl; have := this.1; have := hH.dl.2.1; omega)
  have KO := Lib.hid (fun W (q : Below w.heap.size w W) => ownDates_dl a n cap ds W (HD.out W q))
  have KS := Lib.hid (fun W A C (q : Below w.heap.size w W) (l : DL W A n ds) => schedule_any y m d y2 m2 d2 N u conv A n C ds W (HT.out W q) (HM.out W q) l)
  have KL := Lib.hid (fun W (q : Below w.heap.size w W) => lnumbers_any a n cap ds W (HM.out W q) (HD.out W q).dl)
  have KD2 := Lib.hid (fun W (q : Below w.heap.size w W) => day_any y2 m2 d2 W (HM.out W q))
  have KD1 := Lib.hid (fun W (q : Below w.heap.size w W) => day_any y m d W (HM.out W q))
  have KP := Lib.hid (fun W (q : Below w.heap.size w W) => schedule_any 2024 1 31 2024 3 31 1 3 0 none 0 0 [] W (HT.out W q) (HM.out W q) ⟨rfl, by omega, .inl rfl⟩)
  clear hT hM hH
  obtain ⟨c0, c1, c2, c3, c4, c5, c6, c7, c8, c9, _, _⟩ := P0.out
  go_enter Tryd.func5, Tryd.ntmps5
  go_wp2_with fail
  try simp only [hw0]
  clear hw0
  go_region_held3 (fun w' => w'.cell? ⟨w.heap.size, 0, none⟩ = some (.int .i64 y) ∧ w'.cell? ⟨w.heap.size, 1, none⟩ = some (.int .i64 m) ∧ w'.cell? ⟨w.heap.size, 2, none⟩ = some (.int .i64 d) ∧ w'.cell? ⟨w.heap.size, 3, none⟩ = some (.int .i64 y2) ∧ w'.cell? ⟨w.heap.size, 4, none⟩ = some (.int .i64 m2) ∧ w'.cell? ⟨w.heap.size, 5, none⟩ = some (.int .i64 d2) ∧ w'.cell? ⟨w.heap.size, 6, none⟩ = some (.int .i64 N) ∧ w'.cell? ⟨w.heap.size, 7, none⟩ = some (.int .i64 u) ∧ w'.cell? ⟨w.heap.size, 8, none⟩ = some (.int .i64 conv) ∧ w'.cell? ⟨w.heap.size, 9, none⟩ = some (.slice a n cap))
    (refine ⟨?_, ?_, ?_, ?_, ?_, ?_, ?_, ?_, ?_, ?_⟩ <;> first | assumption | (go_simp; done))
    (first
    | (go_at_call 15; refine (KO.out _ P0.out.drew.bel).mono ?_; rintro e w1 ⟨A, C, rfl, b1, l1⟩; have P1 := Lib.hid (P0.out.drew.later b1); have L1 := Lib.hid l1; clear b1 l1 c0 c1 c2 c3 c4 c5 c6 c7 c8 c9; obtain ⟨c0, c1, c2, c3, c4, c5, c6, c7, c8, c9, _, _⟩ := P1.out)
    | (go_at_call 14; refine (KS.out _ _ _ P1.out.bel L1.out).mono ?_; rintro e w2 ⟨hs, b2⟩; obtain ⟨v, x, rfl, hv⟩ := sch_val hs; have HS := Lib.hid hv; have P2 := Lib.hid (P1.out.later b2); clear hs hv b2 c0 c1 c2 c3 c4 c5 c6 c7 c8 c9; obtain ⟨c0, c1, c2, c3, c4, c5, c6, c7, c8, c9, _, _⟩ := P2.out))
  go_wp2_with fail
  go_at_call 16
  refine (KL.out _ P2.out.bel).mono ?_
  rintro e w3 ⟨hn, b3⟩
  obtain ⟨vf, bf, rfl, hv⟩ := num_val hn
  have HN := Lib.hid hv
  have P3 := Lib.hid (P2.out.later b3)
  have R3 := Lib.hid b3
  clear hn hv b3 c0 c1 c2 c3 c4 c5 c6 c7 c8 c9
  obtain ⟨c0, c1, c2, c3, c4, c5, c6, c7, c8, c9, _, _⟩ := P3.out
  go_wp2_with fail
  go_at_call 17
  refine (KD2.out _ P3.out.bel).mono ?_
  rintro e w4 ⟨rfl, b4⟩
  have P4 := Lib.hid (P3.out.later b4)
  have R4 := Lib.hid b4
  clear b4 c0 c1 c2 c3 c4 c5 c6 c7 c8 c9
  obtain ⟨c0, c1, c2, c3, c4, c5, c6, c7, c8, c9, _, _⟩ := P4.out
  go_wp2_with fail
  go_at_call 17
  refine (KD1.out _ P4.out.bel).mono ?_
  rintro e w5 ⟨rfl, b5⟩
  have P5 := Lib.hid (P4.out.later b5)
  have R5 := Lib.hid b5
  clear b5 c0 c1 c2 c3 c4 c5 c6 c7 c8 c9
  go_wp2_with fail
  go_at_call 14
  refine (KP.out _ P5.out.bel).mono ?_
  rintro e w6 ⟨hs, b6⟩
  obtain ⟨vp, xp, rfl, hv⟩ := sch_val hs
  have P6 := Lib.hid (P5.out.later b6)
  have R6 := Lib.hid b6
  rcases hv with ⟨_, _, h⟩ | ⟨xa3, cp3, zs3, L3, rs3, rfl, rfl, _, hR3, hA3, hl3⟩
  · exact (plain_no h).elim
  rw [plain_list hR3 hA3] at hl3
  rw [show (Lib.compact rs3).length = 3 by rw [plain_list hR3 hA3]; rfl]
  obtain ⟨_, _, hcase⟩ := hl3
  obtain ⟨pb, po, rfl, hpb, hpc⟩ : ∃ b o, xa3 = some ⟨b, o, none⟩ ∧ b < w6.heap.size ∧ ∀ i, i < 3 → w6.cell? ⟨b, o + i, none⟩ = some (.int .i64 ([(45320 : Int), 45349, 45380].getD i 0)) := by
    rcases hcase with q | q
    · simp at q
    · exact q
  have p0 : w6.cell? ⟨pb, po, none⟩ = some (.int .i64 45320) := hpc 0 (by omega)
  have p1 : w6.cell? ⟨pb, po + 1, none⟩ = some (.int .i64 45349) := hpc 1 (by omega)
  have p2 : w6.cell? ⟨pb, po + 2, none⟩ = some (.int .i64 45380) := hpc 2 (by omega)
  clear hs b6 hcase hpc hR3 hA3
  have KNUM := Lib.hid (fun x W => lnum_any x W)
  have R26 := Lib.hid (p := Below w2.heap.size w2 w6) (((R3.out.trans (R4.out.mono R3.out.size)).trans (R5.out.mono (R3.out.trans (R4.out.mono R3.out.size)).size)).trans (R6.out.mono ((R3.out.trans (R4.out.mono R3.out.size)).trans (R5.out.mono (R3.out.trans (R4.out.mono R3.out.size)).size)).size))
  have R36 := Lib.hid (p := Below w3.heap.size w3 w6) ((R4.out.trans (R5.out.mono R4.out.size)).trans (R6.out.mono (R4.out.trans (R5.out.mono R4.out.size)).size))
  go_wp2_with fail
  go_at_call 18
  refine (KNUM.out _ _).mono ?_
  rintro e wq ⟨rfl, hq⟩
  have hq' := hq.symm
  subst hq'
  clear hq
  go_wp2_with fail
  go_at_call 18
  refine (KNUM.out _ _).mono ?_
  rintro e wq ⟨rfl, hq⟩
  have hq' := hq.symm
  subst hq'
  clear hq
  rcases HS.out with ⟨rfl, hx, _⟩ | ⟨xa, lcap, zs, L, rs, rfl, rfl, ⟨hten, hcv, hx1, hx2, hok, hle⟩, hR, hA, hls⟩
  · have g1 : (x != 0) = true := by simpa using hx
    go_wp2
    go_ret
    exact ⟨rfl, P6.out.bel⟩
  rw [(day_t hx1).1, (day_t hx1).2, (day_t hx2).1, (day_t hx2).2]
  obtain ⟨zs', rfl, hok', hof⟩ : ∃ zs', bf = true ∧ NumsOk ds zs' ∧ OwnD w3 w2.heap.size vf zs' := by
    rcases HN.out with h | ⟨_, _, hno⟩
    · exact h
    · exact (hok.not hno).elim
  obtain rfl : zs' = zs := hok'.one hok
  obtain ⟨Af, Cf, rfl, hol⟩ := own_hol hof (by have := hok.1; have := LD.out; omega)
  have hpos := hR.pos hten hx1 hle
  have hrl := hA.1
  have HMO := Lib.hid (sched_mono hR hA)
  have HR := Lib.hid hR
  have HA := Lib.hid hA
  have HTC := Lib.hid (And.intro hten (And.intro hx1 hx2))
  have HCV := Lib.hid hcv
  have HRL := Lib.hid (p := rs.length = L.length ∧ 0 < rs.length ∧ rs.length ≤ 109574) ⟨hrl, by omega, by have := hR.len; omega⟩
  have HF := Lib.hid (sta_first (rs := rs) (by omega))
  obtain ⟨lb, lo, rfl, hlb, hlc⟩ : ∃ b o, xa = some ⟨b, o, none⟩ ∧ b < w2.heap.size ∧ ∀ i, i < (Lib.compact rs).length → w2.cell? ⟨b, o + i, none⟩ = some (.int .i64 ((Lib.compact rs).getD i 0)) := by
    rcases hls.2.2 with q | q
    · have := HF.out.2.1; omega
    · exact q
  have LC := Lib.hid (p := ∀ W, Below w6.heap.size w6 W → ∀ i, i < (Lib.compact rs).length → W.cell? ⟨lb, lo + i, none⟩ = some (.int .i64 ((Lib.compact rs).getD i 0))) (fun W b i hi => ((R26.out.trans (b.mono R26.out.size)).cell (p := ⟨lb, lo + i, none⟩) hlb).trans (hlc i hi))
  have KOF := Lib.hid (fun W (b : Below w6.heap.size w6 W) => own_any Af zs'.length Cf zs' W (hol.later (R36.out.trans (b.mono R36.out.size))))
  have KAD := Lib.hid (fun (dy : Nat) A C W (l : Ls W A zs'.length zs') (q : Below w.heap.size w W) (hd : dy < 109573) => Adjust_in A zs'.length C zs' dy conv W l (HT.out W q) (HM.out W q) hd HCV.out)
  have KA := Lib.hid (fun (i : Nat) W (q : Below w.heap.size w W) => add_any y m d N u (i : Int) W (HM.out W q))
  have KDA := Lib.hid (fun Y M D W (q : Below w.heap.size w W) => day_any Y M D W (HM.out W q))
  have hnl := HF.out.2.1
  have hnb : (Lib.compact rs).length ≤ 109574 := by
    have h1 : (Lib.compact rs).length ≤ rs.length := by
      unfold Lib.compact Lib.compactUpTo
      simp only [List.length_map]
      exact Nat.le_trans (List.length_filter_le _ _) (by simp)
    have := HRL.out; omega
  obtain ⟨n1, hn1⟩ : ∃ n1, num y m d = n1 := ⟨_, rfl⟩
  obtain ⟨n2, hn2⟩ : ∃ n2, num y2 m2 d2 = n2 := ⟨_, rfl⟩
  rw [hn1, hn2] at hle ⊢
  rw [hn2] at HR
  obtain ⟨cl, hcl⟩ : ∃ cl, Lib.compact rs = cl := ⟨_, rfl⟩
  rw [hcl] at LC HF hnl hnb ⊢
  obtain ⟨nl, hnl2⟩ : ∃ nl, cl.length = nl := ⟨_, rfl⟩
  rw [hnl2] at LC hnl hnb ⊢
  have HCL := Lib.hid (And.intro hcl hnl2)
  obtain ⟨nz, hnz⟩ : ∃ nz, zs'.length = nz := ⟨_, rfl⟩
  rw [hnz] at KOF KAD ⊢
  clear hR hA hx1 hx2 hten hcv hok hok' hof hol hlc hls hpos hrl HS HN KO KS KL KD1 KD2 KP P0 P1 P2 P3 P4 P5 R3 R4 R5 R6 hn1 hn2 hcl hnl2 hnz p0 p1 p2 L1
  have g1 : ¬ n1 > n2 := by omega
  have g2 : ((nl : Int) == 0) = false := by simp; omega
  go_wp2_with fail
  go_at_call 18
  refine (KNUM.out _ _).mono ?_
  rintro e wq ⟨rfl, hq⟩
  have hq' := hq.symm
  subst hq'
  clear hq
  go_wp2_with fail
  go_at_call 18
  refine (KNUM.out _ _).mono ?_
  rintro e wq ⟨rfl, hq⟩
  have hq' := hq.symm
  subst hq'
  clear hq
  go_wp2_with fail
  go_loopw [13, 14] (fun s t wr => ∃ (i j : Nat), i ≤ rs.length ∧ s = .int .i64 (j : Int) ∧ t = .int .i64 (i : Int) ∧ RowKit.Hid (Sta rs i j) ∧ Below w6.heap.size w6 wr) (fun _ t _ => rs.length - (intOf t).toNat)
  case atStart => exact ⟨0, 0, by omega, rfl, rfl, .inl ⟨rfl, rfl⟩, Below.refl _ _⟩
  case round =>
    obtain ⟨i, j, hi, rfl, rfl, hS, hB⟩ := hrel
    rename World => wr
    have BB := Lib.hid hB
    have PR := Lib.hid (P6.out.later hB)
    obtain ⟨c0, c1, c2, c3, c4, c5, c6, c7, c8, c9, _, _⟩ := PR.out
    have KAW := Lib.hid (KA.out i wr PR.out.bel)
    have hib : i ≤ 109574 := by have := HRL.out; omega
    have kwi : IntKind.i64.wrap ((i : Int) + 1) = (i : Int) + 1 := by simp [IntKind.wrap, IntKind.bits, IntKind.signed]; omega
    clear hB
    go_wp2_with fail
    go_at_call 19
    refine KAW.out.mono ?_
    rintro e wa ⟨Y, M, D, E, rfl, hadd, ba⟩
    obtain ⟨wb, hwb⟩ : ∃ wb, wa.alloc (.cells #[.int .i64 Y, .int .i64 M, .int .i64 D] 35) = wb := ⟨_, rfl⟩
    have BA := Lib.hid (p := Below wa.heap.size wa wb) (by rw [← hwb]; exact (Below.refl _ _).alloc (Nat.le_refl _) _)
    obtain ⟨x0, x1, x2⟩ : wb.cell? ⟨wa.heap.size, 0, none⟩ = some (.int .i64 Y) ∧ wb.cell? ⟨wa.heap.size, 1, none⟩ = some (.int .i64 M) ∧ wb.cell? ⟨wa.heap.size, 2, none⟩ = some (.int .i64 D) := by rw [← hwb]; exact date_box wa Y M D
    have B1 := Lib.hid (p := Below wr.heap.size wr wb) (ba.trans (BA.out.mono ba.size))
    have PW := Lib.hid (PR.out.later B1.out)
    have KDW := Lib.hid (KDA.out Y M D wb PW.out.bel)
    have HAD := Lib.hid hadd
    clear ba hadd c0 c1 c2 c3 c4 c5 c6 c7 c8 c9
    go_wp2_with fail
    try simp only [hwb]
    clear hwb
    go_at_call 17
    refine KDW.out.mono ?_
    rintro e wd ⟨rfl, bd⟩
    have PD := Lib.hid (PW.out.later bd)
    have B2 := Lib.hid (p := Below w6.heap.size w6 wd) (BB.out.trans ((B1.out.trans (bd.mono B1.out.size)).mono BB.out.size))
    clear bd x0 x1 x2
    by_cases hlt : i < rs.length
    · obtain ⟨Y', M', D', ha', hb', hl'⟩ := HR.out.1 i (by have := HRL.out; omega)
      obtain ⟨rfl, rfl, rfl, rfl⟩ := add_fun HAD.out ha'
      have hex := (add_ok ha').2.2.2.1
      rw [(day_t hex).1, (day_t hex).2]
      have hin := HR.out.inC i (by have := HRL.out; omega)
      have hadj := HA.out.2 i (by have := HRL.out; omega)
      rw [hb']
      obtain ⟨dy, hdy⟩ : ∃ dy : Nat, L.getD i 0 = (dy : Int) := ⟨(L.getD i 0).toNat, by omega⟩
      rw [hdy] at hadj hl' hin ⊢
      obtain ⟨ri, hri⟩ : ∃ ri, rs.getD i 0 = ri := ⟨_, rfl⟩
      rw [hri] at hadj
      have HRI := Lib.hid hri
      have HAJ := Lib.hid hadj
      have hd3 : dy < 109573 := by omega
      have g3 : ¬ (dy : Int) > n2 := by omega
      obtain ⟨c0, c1, c2, c3, c4, c5, c6, c7, c8, c9, _, _⟩ := PD.out
      clear ha' hb' hex hadj hdy hri
      go_wp2_with fail
      go_at_call 18
      refine (KNUM.out _ _).mono ?_
      rintro e wq ⟨rfl, hq⟩
      have hq' := hq.symm
      subst hq'
      clear hq
      go_wp2_with fail
      go_at_call 18
      refine (KNUM.out _ _).mono ?_
      rintro e wq ⟨rfl, hq⟩
      have hq' := hq.symm
      subst hq'
      clear hq
      go_wp2_with fail
      go_region_held3 (fun w' => w'.cell? ⟨w.heap.size, 8, none⟩ = some (.int .i64 conv))
        (first | assumption | (go_simp; done))
        (first
        | (go_at_call 8; refine (KOF.out _ (⟨B2.out.os, B2.out.tape, B2.out.output, B2.out.size, B2.out.block⟩ : Below w6.heap.size w6 wd.drew)).mono ?_; rintro e we ⟨Ax, Cx, rfl, be, le, _⟩; have PE := Lib.hid (PD.out.drew.later be); have LE := Lib.hid le; have BE := Lib.hid (p := Below w6.heap.size w6 we) ((⟨B2.out.os, B2.out.tape, B2.out.output, B2.out.size, B2.out.block⟩ : Below w6.heap.size w6 wd.drew).trans (be.mono B2.out.size)); clear be le c0 c1 c2 c3 c4 c5 c6 c7 c8 c9; obtain ⟨_, _, _, _, _, _, _, _, c8, _, _, _⟩ := PE.out)
        | (go_at_call 20; refine (KAD.out dy _ _ _ LE.out PE.out.bel hd3).mono ?_; rintro e wf ⟨⟨r, z, rfl, haj⟩, bf⟩; obtain ⟨rfl, rfl⟩ := adj_one HAJ.out haj; have PF := Lib.hid (PE.out.later bf); have BF := Lib.hid (BE.out.trans (bf.mono BE.out.size)); clear bf haj c8; obtain ⟨_, _, _, _, _, _, _, _, c8, _, _, _⟩ := PF.out))
      go_wp2_with fail
      go_at_call 18
      refine (KNUM.out _ _).mono ?_
      rintro e wq ⟨rfl, hq⟩
      have hq' := hq.symm
      subst hq'
      clear hq
      go_wp2_with fail
      go_at_call 18
      refine (KNUM.out _ _).mono ?_
      rintro e wq ⟨rfl, hq⟩
      have hq' := hq.symm
      subst hq'
      clear hq
      by_cases hi0 : i = 0
      · have hj0 : j = 0 := by
          rcases hS.out with ⟨_, q⟩ | ⟨q, _⟩
          · exact q
          · omega
        have l0 := LC.out wf BF.out j (by omega)
        have e0 : cl.getD j 0 = ri := by rw [hj0, HF.out.1, ← HRI.out, hi0]
        rw [e0] at l0
        have S1 := Lib.hid (p := Sta rs (i + 1) j) (by rw [hi0, hj0]; exact HF.out.2.2)
        have a1 : decide ((0 : Int) < (i : Int)) = false := decide_eq_false (by omega)
        have a2 : decide ((nl : Int) ≤ (j : Int)) = false := decide_eq_false (by omega)
        have a3 : decide ((0 : Int) < (j : Int)) = false := decide_eq_false (by omega)
        have a4 : (j : Int) < (nl : Int) := by omega
        have n1' : decide (0 < i) = false := decide_eq_false (by omega)
        have n2' : (0 < i) = False := eq_false (by omega)
        have n3' : decide (0 < j) = false := decide_eq_false (by omega)
        have n4' : (0 < j) = False := eq_false (by omega)
        clear hi0 hj0 e0 hS
        go_wp2
        go_roundw
        case rel => exact ⟨i + 1, j, by omega, by first | rfl | simp, by first | rfl | simp, S1.out, BF.out⟩
        case measure => simp [intOf]; omega
      · have sn := sta_next HMO.out hS.out (by omega) hlt
        rw [HCL.out.1, HCL.out.2, HRI.out] at sn
        obtain ⟨q1, q2, q3⟩ := sn
        have l1 := LC.out wf BF.out j q1
        have a1 : decide ((0 : Int) < (i : Int)) = true := decide_eq_true (by omega)
        have a2 : decide ((nl : Int) ≤ (j : Int)) = false := decide_eq_false (by omega)
        have a4 : (j : Int) < (nl : Int) := by omega
        have a5 : (0 : Int) < (i : Int) := by omega
        clear hS hi0 q2
        rcases q3 with ⟨e1, e2, e3⟩ | ⟨e1, e2, e3, e4, e5⟩
        · rw [← e1] at l1
          have S1 := Lib.hid e2
          clear e1 e2
          by_cases hj : j = 0
          · have a3 : decide ((0 : Int) < (j : Int)) = false := decide_eq_false (by omega)
            have n3' : decide (0 < j) = false := decide_eq_false (by omega)
            have n4' : (0 < j) = False := eq_false (by omega)
            clear hj e3
            go_wp2
            go_roundw
            case rel => exact ⟨i + 1, j, by omega, by first | rfl | simp, by first | rfl | simp, S1.out, BF.out⟩
            case measure => simp [intOf]; omega
          · have l2 := LC.out wf BF.out (j - 1) (by omega)
            have e3' := e3 (by omega)
            obtain ⟨pv, hpv⟩ : ∃ pv, cl.getD (j - 1) 0 = pv := ⟨_, rfl⟩
            rw [hpv] at l2 e3'
            have a3 : decide ((0 : Int) < (j : Int)) = true := decide_eq_true (by omega)
            have a6 : (0 : Int) < (j : Int) := by omega
            have a7 : decide (ri ≤ pv) = false := decide_eq_false (by omega)
            obtain ⟨j1, hj1⟩ : ∃ j1, j = j1 + 1 := ⟨j - 1, by omega⟩
            have a8 : IntKind.i64.wrap ((j : Int) - 1) = (j1 : Int) := by simp [IntKind.wrap, IntKind.bits, IntKind.signed]; omega
            have a9 : (j : Int) - 1 = (j1 : Int) := by omega
            rw [show j - 1 = j1 by omega] at l2
            have b1 : (j1 : Int) < (nl : Int) := by omega
            clear hj e3 hpv hj1
            go_wp2
            go_roundw
            case rel => exact ⟨i + 1, j, by omega, by first | rfl | simp, by first | rfl | simp, S1.out, BF.out⟩
            case measure => simp [intOf]; omega
        · have l2 := LC.out wf BF.out (j + 1) e3
          rw [e4] at l2
          obtain ⟨pv, hpv⟩ : ∃ pv, cl.getD j 0 = pv := ⟨_, rfl⟩
          rw [hpv] at l1 e1 e5
          have S1 := Lib.hid e2
          have a3 : (ri != pv) = true := by simpa using e1
          have a6 : decide ((nl : Int) ≤ (j : Int) + 1) = false := decide_eq_false (by omega)
          have a7 : (j : Int) + 1 < (nl : Int) := by omega
          have a8 : decide ((0 : Int) < (j : Int) + 1) = true := decide_eq_true (by omega)
          have a9 : (0 : Int) < (j : Int) + 1 := by omega
          have b1 : decide (ri ≤ pv) = false := decide_eq_false (by omega)
          have b2 : IntKind.i64.wrap ((j : Int) + 1) = (j : Int) + 1 := by simp [IntKind.wrap, IntKind.bits, IntKind.signed]; omega
          have b3 : (ri == pv) = false := by simpa using e1
          clear e1 e2 e3 e4 hpv
          go_wp2
          go_roundw
          case rel => exact ⟨i + 1, j + 1, by omega, by first | rfl | simp, by first | rfl | simp, S1.out, BF.out⟩
          case measure => simp [intOf]; omega
    · obtain rfl : i = rs.length := by omega
      have hend := sta_end hS.out HRL.out.2.1
      rw [HCL.out.1, HCL.out.2] at hend
      obtain ⟨Y', M', D', E', ha', hb'⟩ := HR.out.2
      rw [← HRL.out.1] at ha'
      obtain ⟨rfl, rfl, rfl, rfl⟩ := add_fun HAD.out ha'
      obtain ⟨kk, hkk⟩ : ∃ kk, rs.length = kk := ⟨_, rfl⟩
      have a4 : (nl : Int) - 1 = (j : Int) := by omega
      have a5 : IntKind.i64.wrap ((nl : Int) - 1) = (j : Int) := by simp [IntKind.wrap, IntKind.bits, IntKind.signed]; omega
      have BX := Lib.hid PD.out.bel
      by_cases hE : E = 0
      · subst hE
        have hex := (add_ok ha').2.2.2.1
        rw [(day_t hex).1, (day_t hex).2]
        have hgt : n2 < num Y M D := by
          rcases hb' with q | q
          · exact absurd rfl q
          · exact q
        obtain ⟨nn, hnn⟩ : ∃ nn, num Y M D = nn := ⟨_, rfl⟩
        rw [hnn] at hgt ⊢
        have g3 : decide (n2 < nn) = true := decide_eq_true hgt
        clear hb' ha' hex hS hend hnn hkk hlt hi
        go_wp2_with fail
        go_at_call 18
        refine (KNUM.out _ _).mono ?_
        rintro e wq ⟨rfl, hq⟩
        have hq' := hq.symm
        subst hq'
        clear hq
        go_wp2_with fail
        go_at_call 18
        refine (KNUM.out _ _).mono ?_
        rintro e wq ⟨rfl, hq⟩
        have hq' := hq.symm
        subst hq'
        clear hq
        go_wp2
        go_ret
        exact ⟨by simp, BX.out⟩
      · have g3 : (E != 0) = true := by simpa using hE
        have hexf : exB Y M D = false := add_bad ha' hE
        rw [(day_f hexf).1, (day_f hexf).2]
        clear hb' ha' hS hend hkk hlt hi
        go_wp2_with fail
        go_at_call 18
        refine (KNUM.out _ _).mono ?_
        rintro e wq ⟨rfl, hq⟩
        have hq' := hq.symm
        subst hq'
        clear hq
        go_wp2
        go_ret
        exact ⟨by simp, BX.out⟩
end Go.Proofs.YtpeglcnenagkbaaDoor
