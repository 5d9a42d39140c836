import Derived.Test.YtajocakmmgpoaaaGreatDoorXAE
import Derived.Lib.AtoiAll
namespace Go.Proofs.YtajocakmmgpoaaaGreatDoor
open Go.RowKit
set_option linter.unusedVariables false
set_option linter.unusedSimpArgs false

theorem TR.next {w : World} {g : Nat} {s : ByteArray} {k pl n : Nat} {m nm rw : Value} (h : TR w g s k pl m nm rw) (hk : k < s.size) : TR ((w.drewN n).setCell ⟨g, 1, none⟩ (.int .i64 ((k : Int) + 1))) g s (k + 1) pl m nm rw := by
  have := (h.drewN n).setAt (k + 1) (by omega)
  rwa [Int.natCast_add] at this
set_option maxRecDepth 100000 in
set_option maxHeartbeats 4000000 in
theorem word_any (g : Nat) (s : ByteArray) (at_ pl p q : Nat) (m nm rw : Value) (w : World) (h : TR w g s at_ pl m nm rw) (hp : at_ ≤ p) (hq : p ≤ q) (hs : q ≤ s.size)
    (hB : ∀ j, at_ ≤ j → j < p → blB (bt s j) = true) (hP : blB (bt s p) = false ∧ (bt s p == 35) = false) (hQ : ∀ j, p ≤ j → j < q → wdB (bt s j) = true) (hE : wdB (bt s q) = false) :
    Calls Tryz.prog 30 #[.pointer (some ⟨g, 0, none⟩)] w fun e w' => e = .returned (.string (s.extract p q)) ∧ TR w' g s q p m nm rw ∧ Gr g w w' := by
  have T0 := Lib.hid h
  have sz := h.sz
  have BQ := Lib.hid hB
  have PQ := Lib.hid hP
  have QQ := Lib.hid hQ
  have EE := Lib.hid hE
  clear h hB hP hQ hE
  go_enter Tryz.func30, Tryz.ntmps30
  go_wp2
  go_loopw [24] (fun t wr => ∃ k : Nat, at_ ≤ k ∧ k ≤ p ∧ TR wr g s k pl m nm rw ∧ Gr g w wr) (fun t wr => s.size - posT g wr)
  case atStart => exact ⟨at_, Nat.le_refl _, hp, T0.out, Gr.refl g w⟩
  case round =>
    rename World => wr
    obtain ⟨k, kl, kp, hT, hG⟩ := hrel
    have TT := Lib.hid hT
    have GG := Lib.hid hG
    have PS := Lib.hid hT.pos
    obtain ⟨h0, h1, h2, h3, h4, h5⟩ := hT.c
    have f1 := hT.f 1
    have f2 := hT.f 2
    clear hT hG
    by_cases hk : k < p
    · have ks : k < s.size := by omega
      have kc : (k : Int) < (s.size : Int) := by omega
      have YB := BQ.out k kl hk
      obtain ⟨c, hc⟩ : ∃ c : Nat, s[k].toNat = c := ⟨_, rfl⟩
      rw [bt_lt ks, hc] at YB
      have KB := Lib.hid (fun W => isBlank_any (c : Int) W)
      rw [YB] at KB
      have kw : IntKind.i64.wrap ((k : Int) + 1) = (k : Int) + 1 := by simp [IntKind.wrap, IntKind.bits, IntKind.signed]; omega
      clear YB
      go_wp2
      go_quiet ((go_at_call 41; exact Calls.quiet_of_same (KB.out _)))
      go_wp2
      refine ⟨⟨k + 1, by omega, by omega, ?_, ?_⟩, ?_⟩
      · exact TT.out.next ks
      · exact (GG.out.drewN _).set 1 _
      · rw [PS.out, (TT.out.next ks).pos]; omega
    · obtain rfl : k = p := by omega
      by_cases ks : k < s.size
      · have kc : (k : Int) < (s.size : Int) := by omega
        obtain ⟨YB, YH⟩ := PQ.out
        obtain ⟨c, hc⟩ : ∃ c : Nat, s[k].toNat = c := ⟨_, rfl⟩
        rw [bt_lt ks, hc] at YB YH
        have KB := Lib.hid (fun W => isBlank_any (c : Int) W)
        rw [YB] at KB
        clear YB
        go_wp2
        go_quiet ((go_at_call 41; exact Calls.quiet_of_same (KB.out _)))
        go_wp2
        go_quiet (fail)
        go_wp2
        clear h0 h1 h2 h3 h4 h5 f1 f2
        go_loopw [84] (fun t wr => ∃ i : Nat, k ≤ i ∧ i ≤ q ∧ TR wr g s i k m nm rw ∧ Gr g w wr) (fun t wr => s.size - posT g wr)
        case atStart => exact ⟨k, Nat.le_refl _, hq, (TT.out.drewN _).setPl _, (GG.out.drewN _).set 2 _⟩
        case round =>
          rename World => wt
          obtain ⟨i, il, iq, hT, hG⟩ := hrel
          have TU := Lib.hid hT
          have GU := Lib.hid hG
          have PU := Lib.hid hT.pos
          obtain ⟨h0, h1, h2, h3, h4, h5⟩ := hT.c
          have f1 := hT.f 1
          clear hT hG
          by_cases hi : i < q
          · have is : i < s.size := by omega
            have kc : (i : Int) < (s.size : Int) := by omega
            have YW := QQ.out i il hi
            obtain ⟨c, hc⟩ : ∃ c : Nat, s[i].toNat = c := ⟨_, rfl⟩
            rw [bt_lt is, hc] at YW
            have c0 : 0 ≤ (c : Int) := by omega
            have KC := Lib.hid (fun W => isOfWord_any (c : Int) c0 W)
            rw [YW] at KC
            have kw : IntKind.i64.wrap ((i : Int) + 1) = (i : Int) + 1 := by simp [IntKind.wrap, IntKind.bits, IntKind.signed]; omega
            clear YW c0
            go_wp2
            go_quiet ((go_at_call 43; exact Calls.quiet_of_same (KC.out _)))
            go_wp2
            refine ⟨⟨i + 1, by omega, by omega, ?_, ?_⟩, ?_⟩
            · exact TU.out.next is
            · exact (GU.out.drewN _).set 1 _
            · rw [PU.out, (TU.out.next is).pos]; omega
          · obtain rfl : i = q := by omega
            by_cases is : i < s.size
            · have kc : (i : Int) < (s.size : Int) := by omega
              have YW := EE.out
              obtain ⟨c, hc⟩ : ∃ c : Nat, s[i].toNat = c := ⟨_, rfl⟩
              rw [bt_lt is, hc] at YW
              have c0 : 0 ≤ (c : Int) := by omega
              have KC := Lib.hid (fun W => isOfWord_any (c : Int) c0 W)
              rw [YW] at KC
              clear YW c0
              go_wp2
              go_quiet ((go_at_call 43; exact Calls.quiet_of_same (KC.out _)))
              go_wp2
              go_quiet (fail)
              go_wp2
              go_ret
              exact ⟨rfl, (TU.out.drewN _).drewN _, (GU.out.drewN _).drewN _⟩
            · have kc : ¬ (i : Int) < (s.size : Int) := by omega
              have k2 : decide (i < s.size) = false := decide_eq_false is
              have k3 : decide ((i : Int) < (s.size : Int)) = false := decide_eq_false kc
              go_wp2
              go_quiet (fail)
              go_wp2
              go_quiet (fail)
              go_wp2
              go_ret
              exact ⟨rfl, (TU.out.drewN _).drewN _, (GU.out.drewN _).drewN _⟩
      · have kc : ¬ (k : Int) < (s.size : Int) := by omega
        have k2 : decide (k < s.size) = false := decide_eq_false ks
        have k3 : decide ((k : Int) < (s.size : Int)) = false := decide_eq_false kc
        go_wp2
        go_quiet (fail)
        go_wp2
        go_quiet (fail)
        go_wp2
        clear kc k2 k3
        clear h0 h1 h2 h3 h4 h5 f1 f2
        go_loopw [84] (fun t wr => ∃ i : Nat, k ≤ i ∧ i ≤ q ∧ TR wr g s i k m nm rw ∧ Gr g w wr) (fun t wr => s.size - posT g wr)
        case atStart => exact ⟨k, Nat.le_refl _, hq, (TT.out.drewN _).setPl _, (GG.out.drewN _).set 2 _⟩
        case round =>
          rename World => wt
          obtain ⟨i, il, iq, hT, hG⟩ := hrel
          have TU := Lib.hid hT
          have GU := Lib.hid hG
          have PU := Lib.hid hT.pos
          obtain ⟨h0, h1, h2, h3, h4, h5⟩ := hT.c
          have f1 := hT.f 1
          clear hT hG
          by_cases hi : i < q
          · exact absurd hi (by omega)
          · obtain rfl : i = q := by omega
            by_cases is : i < s.size
            · have kc : (i : Int) < (s.size : Int) := by omega
              have YW := EE.out
              obtain ⟨c, hc⟩ : ∃ c : Nat, s[i].toNat = c := ⟨_, rfl⟩
              rw [bt_lt is, hc] at YW
              have c0 : 0 ≤ (c : Int) := by omega
              have KC := Lib.hid (fun W => isOfWord_any (c : Int) c0 W)
              rw [YW] at KC
              clear YW c0
              go_wp2
              go_quiet ((go_at_call 43; exact Calls.quiet_of_same (KC.out _)))
              go_wp2
              go_quiet (fail)
              go_wp2
              go_ret
              exact ⟨rfl, (TU.out.drewN _).drewN _, (GU.out.drewN _).drewN _⟩
            · have kc : ¬ (i : Int) < (s.size : Int) := by omega
              have k2 : decide (i < s.size) = false := decide_eq_false is
              have k3 : decide ((i : Int) < (s.size : Int)) = false := decide_eq_false kc
              go_wp2
              go_quiet (fail)
              go_wp2
              go_quiet (fail)
              go_wp2
              go_ret
              exact ⟨rfl, (TU.out.drewN _).drewN _, (GU.out.drewN _).drewN _⟩
end Go.Proofs.YtajocakmmgpoaaaGreatDoor

namespace Go.Proofs.YtajocakmmgpoaaaGreatDoor
open Go.RowKit
set_option linter.unusedVariables false

def isD (c : UInt8) : Prop := 48 ≤ c.toNat ∧ c.toNat ≤ 57
theorem ofNat_d {k : Nat} (h : k ≤ 9) : (UInt8.ofNat (48 + k)).toNat = 48 + k := by rw [UInt8.toNat_ofNat']; omega
theorem dec_d (u : Nat) : ∀ c ∈ Lib.decDigits u, isD c := by
  induction u using Nat.strongRecOn with
  | ind u ih =>
    rw [Lib.decDigits]
    split
    · rename_i h
      intro c hc
      rw [List.mem_singleton.1 hc]; unfold isD; rw [ofNat_d (by omega)]; omega
    · intro c hc
      rw [List.mem_append] at hc
      rcases hc with hc | hc
      · exact ih (u / 10) (by omega) c hc
      · rw [List.mem_singleton.1 hc]; unfold isD; rw [ofNat_d (by omega)]; omega
theorem dec_neB (u : Nat) : Lib.decDigits u ≠ [] := by
  rw [Lib.decDigits]; split <;> simp
theorem dec_len (k : Nat) : ∀ u, u < 10 ^ (k + 1) → (Lib.decDigits u).length ≤ k + 1 := by
  induction k with
  | zero => intro u h; rw [Lib.decDigits, dif_pos (by simpa using h)]; simp
  | succ k ih =>
    intro u h
    rw [Lib.decDigits]
    split
    · simp
    · have := ih (u / 10) (by rw [Nat.pow_succ] at h; omega)
      simp; omega
theorem pu_append (a b : List UInt8) : ∀ acc, Lib.parseUint10 acc (a ++ b) = match Lib.parseUint10 acc a with | .ok m => Lib.parseUint10 m b | .syntax => .syntax | .range => .range := by
  induction a with
  | nil => intro acc; simp [Lib.parseUint10]
  | cons c r ih =>
    intro acc
    simp only [List.cons_append, Lib.parseUint10]
    split
    · split
      · rfl
      · split
        · rfl
        · exact ih _
    · rfl
theorem pu_zero (k : Nat) (r : List UInt8) : Lib.parseUint10 0 (List.replicate k 48 ++ r) = Lib.parseUint10 0 r := by
  induction k with
  | zero => simp
  | succ k ih =>
    rw [List.replicate_succ, List.cons_append, Lib.parseUint10]
    rw [if_pos (by decide), if_neg (by omega), if_neg (by decide)]
    exact ih
theorem pu_dec (u : Nat) (h : u < 18446744073709551616) : Lib.parseUint10 0 (Lib.decDigits u) = .ok u := by
  induction u using Nat.strongRecOn with
  | ind u ih =>
    rw [Lib.decDigits]
    split
    · rename_i g
      rw [Lib.parseUint10, ofNat_d (by omega), if_pos (by omega), if_neg (by omega), if_neg (by omega), Lib.parseUint10]
      congr 1; omega
    · rename_i g
      rw [pu_append, ih (u / 10) (by omega) (by omega)]
      simp only
      rw [Lib.parseUint10, ofNat_d (by omega), if_pos (by omega), if_neg (by omega), if_neg (by omega), Lib.parseUint10]
      congr 1; omega

/-- Without the byte ahead of the decimals. -/
def wst (p : Nat) (l : List UInt8) : List UInt8 := if p = 0 ∨ l.length < p + 1 then l else l.take (l.length - p - 1) ++ l.drop (l.length - p)
/-- A number's text. -/
def dtx (v : Int) (p : Nat) : List UInt8 := decS (decide (v < 0)) p (Lib.decDigits (absI v).toNat)
def sg (v : Int) : List UInt8 := if v < 0 then [45] else []
theorem dtx_eq (v : Int) (p : Nat) : dtx v p = sg v ++ pointed p (padTo p (Lib.decDigits (absI v).toNat)) := by
  unfold dtx decS sg
  by_cases h : v < 0
  · rw [if_pos (decide_eq_true h), if_pos h]; rfl
  · rw [if_neg (by simp [h]), if_neg h]; rfl
theorem pad_len (p : Nat) (ds : List UInt8) : p + 1 ≤ (padTo p ds).length := by unfold padTo; simp; omega
theorem wst_pointed (p : Nat) (s L : List UInt8) (h : p + 1 ≤ L.length) : wst p (s ++ pointed p L) = s ++ L := by
  unfold wst pointed
  by_cases hp : p = 0
  · rw [if_pos hp, if_pos (.inl hp)]
  · rw [if_neg hp]
    have len : (s ++ (L.take (L.length - p) ++ 46 :: L.drop (L.length - p))).length = s.length + L.length + 1 := by simp; omega
    rw [if_neg (by rw [len]; omega), len]
    have n : s.length + L.length + 1 - p - 1 = (s ++ L.take (L.length - p)).length := by simp; omega
    have m : s.length + L.length + 1 - p = ((s ++ L.take (L.length - p)) ++ [46]).length := by simp; omega
    have e1 : s ++ (L.take (L.length - p) ++ 46 :: L.drop (L.length - p)) = (s ++ L.take (L.length - p)) ++ (46 :: L.drop (L.length - p)) := by simp
    have e2 : s ++ (L.take (L.length - p) ++ 46 :: L.drop (L.length - p)) = ((s ++ L.take (L.length - p)) ++ [46]) ++ L.drop (L.length - p) := by simp
    rw [n, m]
    rw [show List.take (s ++ L.take (L.length - p)).length (s ++ (L.take (L.length - p) ++ 46 :: L.drop (L.length - p))) = s ++ L.take (L.length - p) by rw [e1, List.take_left]]
    rw [e2, List.drop_left, List.append_assoc, List.take_append_drop]
theorem pad_d (p : Nat) (u : Nat) : ∀ c ∈ padTo p (Lib.decDigits u), isD c := by
  intro c hc
  unfold padTo at hc
  rw [List.mem_append] at hc
  rcases hc with hc | hc
  · rw [(List.mem_replicate.1 hc).2]; exact ⟨by decide, by decide⟩
  · exact dec_d u c hc
theorem pu_pad (p u : Nat) (h : u < 18446744073709551616) : Lib.parseMag (padTo p (Lib.decDigits u)) = .ok u := by
  unfold Lib.parseMag
  rw [if_neg (by intro e; have := pad_len p (Lib.decDigits u); rw [e] at this; simp at this)]
  unfold padTo
  rw [pu_zero, pu_dec u h]
/-- A text without its stop is read as its number. -/
theorem atoi_back (v : Int) (hv : inR v) (p : Nat) : Lib.atoiAll (wst p (dtx v p)) = .ok v := by
  obtain ⟨b1, b2⟩ := absI_bd v hv
  obtain ⟨u, hu⟩ : ∃ u : Nat, absI v = u := ⟨(absI v).toNat, by omega⟩
  rw [dtx_eq, wst_pointed _ _ _ (pad_len _ _), hu, Int.toNat_natCast]
  have pm := pu_pad p u (by omega)
  by_cases h : v < 0
  · have e : v = -(u : Int) := by rw [absI_neg h] at hu; omega
    unfold sg; rw [if_pos h]
    simp only [List.cons_append, List.nil_append, Lib.atoiAll]
    rw [if_pos (by decide), pm]
    simp only
    rw [if_neg (by simp), if_neg (by omega), if_pos (by decide), e]
  · have e : v = (u : Int) := by rw [absI_pos h] at hu; omega
    unfold sg; rw [if_neg h, List.nil_append]
    obtain ⟨c, r, hL⟩ : ∃ c r, padTo p (Lib.decDigits u) = c :: r := by
      cases hq : padTo p (Lib.decDigits u) with
      | nil => have := pad_len p (Lib.decDigits u); rw [hq] at this; simp at this
      | cons c r => exact ⟨c, r, rfl⟩
    have hc := pad_d p u c (by rw [hL]; simp)
    unfold isD at hc
    rw [hL] at pm ⊢
    simp only [Lib.atoiAll]
    rw [if_neg (by omega), pm]
    simp only
    unfold inR at hv
    rw [if_neg (by omega), if_neg (by omega), if_neg (by omega), e]

/-- Where a text has its stop. -/
theorem dtx_zero (v : Int) : ∀ c ∈ dtx v 0, ¬ c.toNat = 46 := by
  rw [dtx_eq]; unfold pointed sg; rw [if_pos rfl]
  intro c hc
  rw [List.mem_append] at hc
  rcases hc with hc | hc
  · split at hc
    · rw [List.mem_singleton.1 hc]; decide
    · cases hc
  · have := pad_d 0 _ c hc; unfold isD at this; omega
theorem dtx_stop (v : Int) (p : Nat) (hp : 0 < p) : ∃ A B, dtx v p = A ++ 46 :: B ∧ B.length = p ∧ (∀ c ∈ A, ¬ c.toNat = 46) ∧ ∀ c ∈ B, ¬ c.toNat = 46 := by
  rw [dtx_eq]; unfold pointed; rw [if_neg (by omega)]
  have pl := pad_len p (Lib.decDigits (absI v).toNat)
  have pd := pad_d p (absI v).toNat
  generalize padTo p (Lib.decDigits (absI v).toNat) = L at *
  refine ⟨sg v ++ L.take (L.length - p), L.drop (L.length - p), by simp, by simp; omega, fun c hc => ?_, fun c hc => ?_⟩
  · rw [List.mem_append] at hc
    rcases hc with hc | hc
    · unfold sg at hc; split at hc
      · rw [List.mem_singleton.1 hc]; decide
      · cases hc
    · have := pd c (List.mem_of_mem_take hc); unfold isD at this; omega
  · have := pd c (List.mem_of_mem_drop hc); unfold isD at this; omega
theorem stop_inj : ∀ (A A' B B' : List UInt8), (∀ c ∈ A, ¬ c.toNat = 46) → (∀ c ∈ A', ¬ c.toNat = 46) → A ++ 46 :: B = A' ++ 46 :: B' → B = B'
  | [], [], B, B', _, _, h => by simpa using h
  | [], c :: A', B, B', _, h', h => by
    simp at h
    exact absurd (show c.toNat = 46 by rw [← h.1]; rfl) (h' c (by simp))
  | c :: A, [], B, B', h', _, h => by
    simp at h
    exact absurd (show c.toNat = 46 by rw [h.1]; rfl) (h' c (by simp))
  | c :: A, c' :: A', B, B', h1, h2, h => by
    simp at h
    exact stop_inj A A' B B' (fun x hx => h1 x (by simp [hx])) (fun x hx => h2 x (by simp [hx])) h.2
/-- One number of places a text. -/
theorem places_one (v v' : Int) (p q : Nat) (h : dtx v p = dtx v' q) : p = q := by
  rcases Nat.eq_zero_or_pos p with rfl | hp
  · rcases Nat.eq_zero_or_pos q with rfl | hq
    · rfl
    · obtain ⟨A, B, e, _, _, _⟩ := dtx_stop v' q hq
      exact absurd rfl (dtx_zero v 46 (by rw [h, e]; simp))
  · rcases Nat.eq_zero_or_pos q with rfl | hq
    · obtain ⟨A, B, e, _, _, _⟩ := dtx_stop v p hp
      exact absurd rfl (dtx_zero v' 46 (by rw [← h, e]; simp))
    · obtain ⟨A, B, e, l, a, _⟩ := dtx_stop v p hp
      obtain ⟨A', B', e', l', a', _⟩ := dtx_stop v' q hq
      rw [e, e'] at h
      have := stop_inj A A' B B' a a' h
      rw [← l, ← l', this]
theorem dtx_len (v : Int) (hv : inR v) (p : Nat) (hp : p ≤ 18) : (dtx v p).length ≤ 21 := by
  obtain ⟨b1, b2⟩ := absI_bd v hv
  have dl := dec_len 18 (absI v).toNat (by have : (10 : Nat) ^ 19 = 10000000000000000000 := by decide
                                           omega)
  rw [dtx_eq]
  have pl : (padTo p (Lib.decDigits (absI v).toNat)).length ≤ 19 := by unfold padTo; simp; omega
  have ql : (pointed p (padTo p (Lib.decDigits (absI v).toNat))).length ≤ 20 := by
    unfold pointed; split
    · omega
    · simp; omega
  have sl : (sg v).length ≤ 1 := by unfold sg; split <;> simp
  simp; omega
theorem wst_len (p : Nat) (l : List UInt8) : (wst p l).length ≤ l.length := by
  unfold wst; split
  · omega
  · simp; omega
/-- What Parse reads. -/
def prs (p : Nat) (l : List UInt8) : Option Int := match Lib.atoiAll (wst p l) with | .ok v => if dtx v p = l then some v else none | _ => none
theorem prs_back (v : Int) (hv : inR v) (p : Nat) : prs p (dtx v p) = some v := by unfold prs; rw [atoi_back v hv p]; simp
theorem prs_other (v : Int) (p q : Nat) (h : ¬ q = p) : prs q (dtx v p) = none := by
  unfold prs
  split
  · rename_i v' _
    rw [if_neg (fun e => h (places_one v' v q p e))]
  · rfl
theorem prs_some {p : Nat} {l : List UInt8} {v : Int} (h : prs p l = some v) : dtx v p = l ∧ Lib.atoiAll (wst p l) = .ok v := by
  unfold prs at h
  split at h
  · rename_i v' hv'
    split at h
    · rename_i e; cases h; exact ⟨e, hv'⟩
    · cases h
  · cases h
end Go.Proofs.YtajocakmmgpoaaaGreatDoor

namespace Go.Proofs.YtajocakmmgpoaaaGreatDoor
open Go.RowKit
set_option linter.unusedVariables false
set_option linter.unusedSimpArgs false

/-- The first place from i on where p no longer holds. -/
def fnd (p : Int → Bool) (s : ByteArray) (i : Nat) : Nat :=
  if h : i < s.size ∧ p (bt s i) = true then fnd p s (i + 1) else i
termination_by s.size - i
decreasing_by omega
theorem fnd_go {p : Int → Bool} {s : ByteArray} {i : Nat} (h : i < s.size) (hp : p (bt s i) = true) : fnd p s i = fnd p s (i + 1) := by
  rw [fnd, dif_pos ⟨h, hp⟩]
theorem fnd_stop {p : Int → Bool} {s : ByteArray} {i : Nat} (h : ¬ (i < s.size ∧ p (bt s i) = true)) : fnd p s i = i := by
  rw [fnd, dif_neg h]
theorem fnd_is {p : Int → Bool} {s : ByteArray} : ∀ (n i q : Nat), q - i = n → i ≤ q → (∀ j, i ≤ j → j < q → j < s.size ∧ p (bt s j) = true) → ¬ (q < s.size ∧ p (bt s q) = true) → fnd p s i = q
  | 0, i, q, hn, hi, hin, hout => by
    obtain rfl : i = q := by omega
    exact fnd_stop hout
  | n + 1, i, q, hn, hi, hin, hout => by
    obtain ⟨h1, h2⟩ := hin i (Nat.le_refl _) (by omega)
    rw [fnd_go h1 h2]
    exact fnd_is n (i + 1) q (by omega) (by omega) (fun j h3 h4 => hin j (by omega) h4) hout
theorem fnd_all (p : Int → Bool) (s : ByteArray) : ∀ (n i : Nat), s.size - i = n → i ≤ fnd p s i ∧ (i ≤ s.size → fnd p s i ≤ s.size) ∧ (∀ j, i ≤ j → j < fnd p s i → j < s.size ∧ p (bt s j) = true) ∧ ¬ (fnd p s i < s.size ∧ p (bt s (fnd p s i)) = true)
  | 0, i, hn => by
    have e : fnd p s i = i := fnd_stop (fun h => by omega)
    rw [e]
    exact ⟨Nat.le_refl _, fun h => h, fun j h1 h2 => absurd h2 (by omega), fun h => by omega⟩
  | n + 1, i, hn => by
    by_cases h : i < s.size ∧ p (bt s i) = true
    · obtain ⟨a, b, c, d⟩ := fnd_all p s n (i + 1) (by omega)
      rw [fnd_go h.1 h.2]
      refine ⟨by omega, fun _ => b (by omega), fun j h1 h2 => ?_, d⟩
      by_cases e : j = i
      · subst e; exact h
      · exact c j (by omega) h2
    · rw [fnd_stop h]
      exact ⟨Nat.le_refl _, fun h => h, fun j h1 h2 => absurd h2 (by omega), h⟩
theorem fnd_ge (p : Int → Bool) (s : ByteArray) (i : Nat) : i ≤ fnd p s i := (fnd_all p s _ i rfl).1
theorem fnd_le {p : Int → Bool} {s : ByteArray} {i : Nat} (h : i ≤ s.size) : fnd p s i ≤ s.size := (fnd_all p s _ i rfl).2.1 h
theorem fnd_in {p : Int → Bool} {s : ByteArray} {i j : Nat} (h : i ≤ j) (h2 : j < fnd p s i) : j < s.size ∧ p (bt s j) = true := (fnd_all p s _ i rfl).2.2.1 j h h2
theorem fnd_out (p : Int → Bool) (s : ByteArray) (i : Nat) : ¬ (fnd p s i < s.size ∧ p (bt s (fnd p s i)) = true) := (fnd_all p s _ i rfl).2.2.2

/-- Words: where one begins and ends. -/
def nlB (c : Int) : Bool := c != 10
def wPl (s : ByteArray) (i : Nat) : Nat := if bt s (fnd blB s i) = 35 then fnd nlB s (fnd blB s i) else fnd blB s i
def wEn (s : ByteArray) (i : Nat) : Nat := fnd wdB s (wPl s i)
def wrd (s : ByteArray) (i : Nat) : ByteArray := s.extract (wPl s i) (wEn s i)
theorem wPl_ge (s : ByteArray) (i : Nat) : i ≤ wPl s i := by
  unfold wPl
  split
  · exact Nat.le_trans (fnd_ge _ _ _) (fnd_ge _ _ _)
  · exact fnd_ge _ _ _
theorem wPl_le {s : ByteArray} {i : Nat} (h : i ≤ s.size) : wPl s i ≤ s.size := by
  unfold wPl
  split
  · exact fnd_le (fnd_le h)
  · exact fnd_le h
theorem wEn_ge (s : ByteArray) (i : Nat) : wPl s i ≤ wEn s i := fnd_ge _ _ _
theorem wEn_le {s : ByteArray} {i : Nat} (h : i ≤ s.size) : wEn s i ≤ s.size := fnd_le (wPl_le h)
theorem wrd_size {s : ByteArray} {i : Nat} (h : i ≤ s.size) : (wrd s i).size = wEn s i - wPl s i := by
  have := wEn_le h
  unfold wrd
  rw [ByteArray.size_extract]
  omega
theorem wrd_none {s : ByteArray} {i : Nat} (h : wEn s i = wPl s i) : wrd s i = ⟨#[]⟩ := by
  unfold wrd
  rw [h]
  apply ByteArray.ext
  simp

/-- A day's word. -/
def dayF : Nat → List UInt8 → Option Nat
  | d, [] => some d
  | d, c :: l => if dgB (c.toNat : Int) = true then dayF (min (10 * d + (c.toNat - 48)) 4096) l else none
def dayP (u : ByteArray) : Option Nat := if u.data.toList.head? = some 48 ∧ 1 < u.size then none else dayF 0 u.data.toList
/-- A cell's word. -/
def cellV (u : ByteArray) : Option Cl := if u.data.toList = [45] then some ⟨false, 0⟩ else (prs 0 u.data.toList).map fun v => ⟨true, v⟩

def hasN (ns : List ByteArray) (c : ByteArray) : Bool := ns.any fun n => decide (n = c)
theorem hasN_iff {ns : List ByteArray} {c : ByteArray} : hasN ns c = true ↔ c ∈ ns := by
  unfold hasN
  rw [List.any_eq_true]
  constructor
  · rintro ⟨n, hn, e⟩
    have := of_decide_eq_true e
    subst this
    exact hn
  · intro h
    exact ⟨c, h, decide_eq_true rfl⟩
/-- The head's names: the place of the word that was read last, where it ends, the error, the names. -/
def headP (s : ByteArray) (i : Nat) (ns : List ByteArray) : Nat × Nat × Int × List ByteArray :=
  if wEn s i = wPl s i then (wPl s i, wEn s i, 0, ns) else
  if ns.length = 64 then (wPl s i, wEn s i, 6, ns) else
  if hasN ns (wrd s i) = true ∨ nameB (wrd s i) = false then (wPl s i, wEn s i, 52, ns) else
  if h : i < wEn s i ∧ wEn s i ≤ s.size then headP s (wEn s i) (ns ++ [wrd s i]) else default
termination_by s.size - i
decreasing_by omega
/-- A row's cells. -/
def cellsP (s : ByteArray) : Nat → Nat → List Cl → Nat × Nat × Int × List Cl
  | 0, i, cs => (wPl s i, wEn s i, if wEn s i = wPl s i then 0 else 51, cs)
  | n + 1, i, cs => match cellV (wrd s i) with
    | none => (wPl s i, wEn s i, 51, cs)
    | some c => cellsP s n (wEn s i) (cs ++ [c])
/-- What Parse answers. -/
structure PR where
  pl : Nat
  e : Int
  ns : List ByteArray
  rs : List (List Cl)
  deriving Inhabited
inductive Stp where
  | fin (r : PR)
  | on (i : Nat) (st : Option (List ByteArray)) (rs : List (List Cl))
def padR (k m : Nat) : List (List Cl) := List.replicate k (List.replicate m ⟨false, 0⟩)
def rowP (s : ByteArray) (ns : List ByteArray) (rs : List (List Cl)) (i : Nat) : Stp :=
  match dayP (wrd s i) with
  | none => .fin ⟨wPl s i, 51, [], []⟩
  | some d =>
    if d < rs.length then .fin ⟨wPl s i, 51, [], []⟩ else if 4096 ≤ d then .fin ⟨wPl s i, 6, [], []⟩ else
    if (cellsP s ns.length (wEn s i) []).2.2.1 = 0 then .on (cellsP s ns.length (wEn s i) []).2.1 (some ns) (rs ++ padR (d - rs.length) ns.length ++ [(cellsP s ns.length (wEn s i) []).2.2.2])
    else .fin ⟨(cellsP s ns.length (wEn s i) []).1, (cellsP s ns.length (wEn s i) []).2.2.1, [], []⟩
def wDay : ByteArray := ⟨#[100, 97, 121]⟩
def stepP (s : ByteArray) (i : Nat) (st : Option (List ByteArray)) (rs : List (List Cl)) : Stp :=
  if wEn s i = wPl s i then
    if wEn s i = s.size then (match st with | none => .fin ⟨s.size, 51, [], []⟩ | some ns => .fin ⟨0, 0, ns, rs⟩)
    else .on (wEn s i + 1) st rs
  else match st with
    | none => if wrd s i = wDay then
        (if (headP s (wEn s i) []).2.2.1 = 0 then .on (headP s (wEn s i) []).2.1 (some (headP s (wEn s i) []).2.2.2) rs
         else .fin ⟨(headP s (wEn s i) []).1, (headP s (wEn s i) []).2.2.1, [], []⟩)
      else .fin ⟨wPl s i, 51, [], []⟩
    | some ns => rowP s ns rs i
def prP (s : ByteArray) (i : Nat) (st : Option (List ByteArray)) (rs : List (List Cl)) : PR :=
  match stepP s i st rs with
  | .fin r => r
  | .on i' st' rs' => if h : i < i' ∧ i' ≤ s.size then prP s i' st' rs' else default
termination_by s.size - i
decreasing_by omega
def parseP (s : ByteArray) : PR := if 1048576 < s.size then ⟨0, 6, [], []⟩ else prP s 0 none []
theorem prP_fin {s : ByteArray} {i : Nat} {st : Option (List ByteArray)} {rs : List (List Cl)} {r : PR} (h : stepP s i st rs = .fin r) : prP s i st rs = r := by
  rw [prP, h]
theorem prP_on {s : ByteArray} {i i' : Nat} {st st' : Option (List ByteArray)} {rs rs' : List (List Cl)} (h : stepP s i st rs = .on i' st' rs') (h1 : i < i') (h2 : i' ≤ s.size) : prP s i st rs = prP s i' st' rs' := by
  rw [prP, h]
  exact dif_pos ⟨h1, h2⟩

/-- head goes on. -/
theorem headP_all (s : ByteArray) : ∀ (n i : Nat) (ns : List ByteArray), s.size - i = n → i ≤ s.size → i ≤ (headP s i ns).1 ∧ (headP s i ns).1 ≤ (headP s i ns).2.1 ∧ (headP s i ns).2.1 ≤ s.size := by
  intro n
  induction n using Nat.strongRecOn with
  | ind n ih =>
    intro i ns hn hi
    have a := wPl_ge s i
    have b := wEn_ge s i
    have c := wEn_le hi
    rw [headP]
    split
    · exact ⟨a, b, c⟩
    · split
      · exact ⟨a, b, c⟩
      · split
        · exact ⟨a, b, c⟩
        · rename_i h1 h2 h3
          rw [dif_pos ⟨by omega, c⟩]
          obtain ⟨x, y, z⟩ := ih (s.size - wEn s i) (by omega) (wEn s i) (ns ++ [wrd s i]) rfl c
          exact ⟨by omega, y, z⟩
theorem headP_go {s : ByteArray} {i : Nat} {ns : List ByteArray} (hi : i ≤ s.size) (h1 : ¬ wEn s i = wPl s i) (h2 : ¬ ns.length = 64) (h3 : ¬ (hasN ns (wrd s i) = true ∨ nameB (wrd s i) = false)) : headP s i ns = headP s (wEn s i) (ns ++ [wrd s i]) := by
  have a := wPl_ge s i
  have b := wEn_ge s i
  have c := wEn_le hi
  rw [headP, if_neg h1, if_neg h2, if_neg h3, dif_pos ⟨by omega, c⟩]
theorem headP_0 {s : ByteArray} {i : Nat} {ns : List ByteArray} (h1 : wEn s i = wPl s i) : headP s i ns = (wPl s i, wEn s i, 0, ns) := by rw [headP, if_pos h1]
theorem headP_6 {s : ByteArray} {i : Nat} {ns : List ByteArray} (h1 : ¬ wEn s i = wPl s i) (h2 : ns.length = 64) : headP s i ns = (wPl s i, wEn s i, 6, ns) := by rw [headP, if_neg h1, if_pos h2]
theorem headP_52 {s : ByteArray} {i : Nat} {ns : List ByteArray} (h1 : ¬ wEn s i = wPl s i) (h2 : ¬ ns.length = 64) (h3 : hasN ns (wrd s i) = true ∨ nameB (wrd s i) = false) : headP s i ns = (wPl s i, wEn s i, 52, ns) := by rw [headP, if_neg h1, if_neg h2, if_pos h3]
theorem cellsP_all (s : ByteArray) : ∀ (n i : Nat) (cs : List Cl), i ≤ s.size → i ≤ (cellsP s n i cs).1 ∧ (cellsP s n i cs).1 ≤ (cellsP s n i cs).2.1 ∧ (cellsP s n i cs).2.1 ≤ s.size
  | 0, i, cs, hi => ⟨wPl_ge s i, wEn_ge s i, wEn_le hi⟩
  | n + 1, i, cs, hi => by
    have a := wPl_ge s i
    have b := wEn_ge s i
    have c := wEn_le hi
    rw [cellsP]
    split
    · exact ⟨a, b, c⟩
    · obtain ⟨x, y, z⟩ := cellsP_all s n (wEn s i) (cs ++ [_]) c
      exact ⟨by omega, y, z⟩
theorem cellsP_bad {s : ByteArray} {n i : Nat} {cs : List Cl} (h : cellV (wrd s i) = none) : cellsP s (n + 1) i cs = (wPl s i, wEn s i, 51, cs) := by rw [cellsP, h]
theorem cellsP_go {s : ByteArray} {n i : Nat} {cs : List Cl} {c : Cl} (h : cellV (wrd s i) = some c) : cellsP s (n + 1) i cs = cellsP s n (wEn s i) (cs ++ [c]) := by rw [cellsP, h]
theorem cellsP_e (s : ByteArray) : ∀ (n i : Nat) (cs : List Cl), (cellsP s n i cs).2.2.1 = 0 ∨ (cellsP s n i cs).2.2.1 = 51
  | 0, i, cs => by
    rw [cellsP]
    by_cases h : wEn s i = wPl s i
    · exact .inl (if_pos h)
    · exact .inr (if_neg h)
  | n + 1, i, cs => by
    rw [cellsP]
    split
    · exact .inr rfl
    · exact cellsP_e s n _ _
end Go.Proofs.YtajocakmmgpoaaaGreatDoor

namespace Go.Proofs.YtajocakmmgpoaaaGreatDoor
open Go.RowKit
set_option linter.unusedVariables false
set_option linter.unusedSimpArgs false

theorem stepP_on {s : ByteArray} {i i' : Nat} {st st' : Option (List ByteArray)} {rs rs' : List (List Cl)} (hi : i ≤ s.size) (h : stepP s i st rs = .on i' st' rs') : i < i' ∧ i' ≤ s.size := by
  have a := wPl_ge s i
  have b := wEn_ge s i
  have c := wEn_le hi
  unfold stepP at h
  split at h
  · split at h
    · cases st <;> cases h
    · injection h with h1 h2 h3
      subst h1
      exact ⟨by omega, by omega⟩
  · rename_i hw
    cases st with
    | none =>
      simp only at h
      split at h
      · split at h
        · injection h with h1 h2 h3
          subst h1
          obtain ⟨x, y, z⟩ := headP_all s _ (wEn s i) [] rfl c
          exact ⟨by omega, z⟩
        · cases h
      · cases h
    | some ns =>
      simp only [rowP] at h
      split at h
      · cases h
      · split at h
        · cases h
        · split at h
          · cases h
          · split at h
            · injection h with h1 h2 h3
              subst h1
              obtain ⟨x, y, z⟩ := cellsP_all s ns.length (wEn s i) [] c
              exact ⟨by omega, z⟩
            · cases h
/-- What is refused: the place lies in the text, nothing is read. -/
def BadR (s : ByteArray) (r : PR) : Prop := r.pl ≤ s.size ∧ (r.e = 6 ∨ r.e = 51 ∨ r.e = 52) ∧ r.ns = [] ∧ r.rs = []
theorem headP_e (s : ByteArray) : ∀ (n i : Nat) (ns : List ByteArray), s.size - i = n → i ≤ s.size → (headP s i ns).2.2.1 = 0 ∨ (headP s i ns).2.2.1 = 6 ∨ (headP s i ns).2.2.1 = 52 := by
  intro n
  induction n using Nat.strongRecOn with
  | ind n ih =>
    intro i ns hn hi
    have a := wPl_ge s i
    have b := wEn_ge s i
    have c := wEn_le hi
    rw [headP]
    split
    · exact .inl rfl
    · split
      · exact .inr (.inl rfl)
      · split
        · exact .inr (.inr rfl)
        · rename_i h1 h2 h3
          rw [dif_pos ⟨by omega, c⟩]
          exact ih (s.size - wEn s i) (by omega) (wEn s i) (ns ++ [wrd s i]) rfl c
theorem stepP_fin {s : ByteArray} {i : Nat} {st : Option (List ByteArray)} {rs : List (List Cl)} {r : PR} (hi : i ≤ s.size) (h : stepP s i st rs = .fin r) : (∃ ns, st = some ns ∧ r = ⟨0, 0, ns, rs⟩) ∨ (BadR s r ∧ (r.pl < s.size → ¬ (wEn s i = wPl s i ∧ wEn s i = s.size))) := by
  have a := wPl_ge s i
  have b := wEn_ge s i
  have c := wEn_le hi
  have d := wPl_le hi
  unfold stepP at h
  split at h
  · rename_i hw
    split at h
    · cases st with
      | none =>
        injection h with h1
        subst h1
        exact .inr ⟨⟨Nat.le_refl _, .inr (.inl rfl), rfl, rfl⟩, fun q => absurd q (Nat.lt_irrefl _)⟩
      | some ns =>
        injection h with h1
        subst h1
        exact .inl ⟨ns, rfl, rfl⟩
    · cases h
  · rename_i hw
    cases st with
    | none =>
      simp only at h
      split at h
      · split at h
        · cases h
        · rename_i he
          injection h with h1
          subst h1
          obtain ⟨x, y, z⟩ := headP_all s _ (wEn s i) [] rfl c
          refine .inr ⟨⟨Nat.le_trans y z, ?_, rfl, rfl⟩, fun _ q => hw q.1⟩
          rcases headP_e s _ (wEn s i) [] rfl c with q | q | q
          · exact absurd q he
          · exact .inl q
          · exact .inr (.inr q)
      · injection h with h1
        subst h1
        exact .inr ⟨⟨d, .inr (.inl rfl), rfl, rfl⟩, fun _ q => hw q.1⟩
    | some ns =>
      simp only [rowP] at h
      split at h
      · injection h with h1
        subst h1
        exact .inr ⟨⟨d, .inr (.inl rfl), rfl, rfl⟩, fun _ q => hw q.1⟩
      · split at h
        · injection h with h1
          subst h1
          exact .inr ⟨⟨d, .inr (.inl rfl), rfl, rfl⟩, fun _ q => hw q.1⟩
        · split at h
          · injection h with h1
            subst h1
            exact .inr ⟨⟨d, .inl rfl, rfl, rfl⟩, fun _ q => hw q.1⟩
          · split at h
            · cases h
            · rename_i he
              injection h with h1
              subst h1
              obtain ⟨x, y, z⟩ := cellsP_all s ns.length (wEn s i) [] c
              refine .inr ⟨⟨Nat.le_trans y z, ?_, rfl, rfl⟩, fun _ q => hw q.1⟩
              rcases cellsP_e s ns.length (wEn s i) [] with q | q
              · exact absurd q he
              · exact .inr (.inl q)

/-- A line feed and whatever follows. -/
structure Lk (s s' : ByteArray) : Prop where
  lt : s.size < s'.size
  b : ∀ j, j < s.size → bt s' j = bt s j
  e : bt s' s.size = 10
  x : ∀ p q, q ≤ s.size → s'.extract p q = s.extract p q
theorem Lk.fnd {s s' : ByteArray} (h : Lk s s') {p : Int → Bool} (hp : p 10 = false) {i : Nat} (hi : i ≤ s.size) : fnd p s' i = fnd p s i := by
  refine fnd_is _ i _ rfl (fnd_ge p s i) (fun j h1 h2 => ?_) (fun hc => ?_)
  · obtain ⟨h3, h4⟩ := fnd_in h1 h2
    exact ⟨Nat.lt_trans h3 h.lt, by rw [h.b j h3]; exact h4⟩
  · have hl := fnd_le (p := p) hi
    by_cases q : Go.Proofs.YtajocakmmgpoaaaGreatDoor.fnd p s i < s.size
    · rw [h.b _ q] at hc
      exact fnd_out p s i ⟨q, hc.2⟩
    · have e : Go.Proofs.YtajocakmmgpoaaaGreatDoor.fnd p s i = s.size := by omega
      rw [e, h.e, hp] at hc
      exact absurd hc.2 (by simp)
theorem bt_over {s : ByteArray} {j : Nat} (h : ¬ j < s.size) : bt s j = -1 := bt_end h
theorem Lk.pl {s s' : ByteArray} (h : Lk s s') {i : Nat} (hi : i ≤ s.size) : wPl s' i = wPl s i := by
  unfold wPl
  have e : Go.Proofs.YtajocakmmgpoaaaGreatDoor.fnd blB s' i = Go.Proofs.YtajocakmmgpoaaaGreatDoor.fnd blB s i := h.fnd (by decide) hi
  have hl := fnd_le (p := blB) hi
  rw [e]
  have c : bt s' (Go.Proofs.YtajocakmmgpoaaaGreatDoor.fnd blB s i) = 35 ↔ bt s (Go.Proofs.YtajocakmmgpoaaaGreatDoor.fnd blB s i) = 35 := by
    by_cases q : Go.Proofs.YtajocakmmgpoaaaGreatDoor.fnd blB s i < s.size
    · rw [h.b _ q]
    · have e2 : Go.Proofs.YtajocakmmgpoaaaGreatDoor.fnd blB s i = s.size := by omega
      rw [e2, h.e, bt_over (Nat.lt_irrefl _)]
      constructor <;> intro k <;> omega
  by_cases q : bt s (Go.Proofs.YtajocakmmgpoaaaGreatDoor.fnd blB s i) = 35
  · rw [if_pos q, if_pos (c.2 q)]
    exact h.fnd (by decide) hl
  · rw [if_neg q, if_neg (fun k => q (c.1 k))]
theorem Lk.en {s s' : ByteArray} (h : Lk s s') {i : Nat} (hi : i ≤ s.size) : wEn s' i = wEn s i := by
  unfold wEn
  rw [h.pl hi]
  exact h.fnd (by decide) (wPl_le hi)
theorem Lk.wrd {s s' : ByteArray} (h : Lk s s') {i : Nat} (hi : i ≤ s.size) : wrd s' i = wrd s i := by
  unfold Go.Proofs.YtajocakmmgpoaaaGreatDoor.wrd
  rw [h.pl hi, h.en hi]
  exact h.x _ _ (wEn_le hi)
theorem Lk.head {s s' : ByteArray} (h : Lk s s') : ∀ (n i : Nat) (ns : List ByteArray), s.size - i = n → i ≤ s.size → headP s' i ns = headP s i ns := by
  intro n
  induction n using Nat.strongRecOn with
  | ind n ih =>
    intro i ns hn hi
    have a := wPl_ge s i
    have b := wEn_ge s i
    have c := wEn_le hi
    by_cases h1 : wEn s i = wPl s i
    · rw [headP_0 h1, headP_0 (by rw [h.pl hi, h.en hi]; exact h1), h.pl hi, h.en hi]
    · by_cases h2 : ns.length = 64
      · rw [headP_6 h1 h2, headP_6 (by rw [h.pl hi, h.en hi]; exact h1) h2, h.pl hi, h.en hi]
      · by_cases h3 : hasN ns (Go.Proofs.YtajocakmmgpoaaaGreatDoor.wrd s i) = true ∨ nameB (Go.Proofs.YtajocakmmgpoaaaGreatDoor.wrd s i) = false
        · rw [headP_52 h1 h2 h3, headP_52 (by rw [h.pl hi, h.en hi]; exact h1) h2 (by rw [h.wrd hi]; exact h3), h.pl hi, h.en hi]
        · rw [headP_go hi h1 h2 h3]
          rw [headP_go (Nat.le_trans hi (Nat.le_of_lt h.lt)) (by rw [h.pl hi, h.en hi]; exact h1) h2 (by rw [h.wrd hi]; exact h3)]
          rw [h.en hi, h.wrd hi]
          exact ih (s.size - wEn s i) (by omega) (wEn s i) _ rfl c
theorem Lk.cells {s s' : ByteArray} (h : Lk s s') : ∀ (n i : Nat) (cs : List Cl), i ≤ s.size → cellsP s' n i cs = cellsP s n i cs
  | 0, i, cs, hi => by rw [cellsP, cellsP, h.pl hi, h.en hi]
  | n + 1, i, cs, hi => by
    cases q : cellV (Go.Proofs.YtajocakmmgpoaaaGreatDoor.wrd s i) with
    | none => rw [cellsP_bad q, cellsP_bad (by rw [h.wrd hi]; exact q), h.pl hi, h.en hi]
    | some c => rw [cellsP_go q, cellsP_go (by rw [h.wrd hi]; exact q), h.en hi, Lk.cells h n _ _ (wEn_le hi)]
theorem Lk.step {s s' : ByteArray} (h : Lk s s') {i : Nat} {st : Option (List ByteArray)} {rs : List (List Cl)} (hi : i ≤ s.size) (hq : ¬ (wEn s i = wPl s i ∧ wEn s i = s.size)) : stepP s' i st rs = stepP s i st rs := by
  have c := wEn_le hi
  unfold stepP
  rw [h.pl hi, h.en hi, h.wrd hi]
  by_cases h1 : wEn s i = wPl s i
  · rw [if_pos h1, if_pos h1]
    have h2 : ¬ wEn s i = s.size := fun q => hq ⟨h1, q⟩
    have h3 : ¬ wEn s i = s'.size := by have := h.lt; omega
    rw [if_neg h2, if_neg h3]
  · rw [if_neg h1, if_neg h1]
    cases st with
    | none => simp only [h.head _ _ _ rfl c]
    | some ns => simp only [rowP, h.pl hi, h.en hi, h.wrd hi, h.cells _ _ _ c]
/-- What is refused ahead of the end is refused alike, whatever follows. -/
theorem Lk.pr {s s' : ByteArray} (h : Lk s s') : ∀ (n i : Nat) (st : Option (List ByteArray)) (rs : List (List Cl)), s.size - i = n → i ≤ s.size → (prP s i st rs).e ≠ 0 → (prP s i st rs).pl < s.size → prP s' i st rs = prP s i st rs := by
  intro n
  induction n using Nat.strongRecOn with
  | ind n ih =>
    intro i st rs hn hi he hp
    cases q : stepP s i st rs with
    | fin r =>
      rw [prP_fin q] at he hp ⊢
      rcases stepP_fin hi q with ⟨ns, _, rfl⟩ | ⟨hb, hc⟩
      · exact absurd rfl he
      · exact prP_fin (by rw [h.step hi (hc hp)]; exact q)
    | on i' st' rs' =>
      obtain ⟨h1, h2⟩ := stepP_on hi q
      rw [prP_on q h1 h2] at he hp ⊢
      have hq : ¬ (wEn s i = wPl s i ∧ wEn s i = s.size) := fun k => by
        unfold stepP at q
        rw [if_pos k.1, if_pos k.2] at q
        cases st <;> cases q
      rw [prP_on (by rw [h.step hi hq]; exact q) h1 (Nat.le_trans h2 (Nat.le_of_lt h.lt))]
      exact ih (s.size - i') (by omega) i' st' rs' rfl h2 he hp

/-- What is read is a table. -/
structure Gd (ns : List ByteArray) (rs : List (List Cl)) : Prop where
  n64 : ns.length ≤ 64
  nm : ∀ n ∈ ns, nameB n = true
  nd : ns.Nodup
  rw : ∀ r ∈ rs, r.length = ns.length
  st : ∀ r ∈ rs, ∀ c ∈ r, stB c = false ∧ (Lit.int .i64 c.v).wf = true
  r4 : rs.length ≤ 4096
theorem headP_gd (s : ByteArray) : ∀ (n i : Nat) (ns : List ByteArray), s.size - i = n → i ≤ s.size → ns.length ≤ 64 → (∀ n ∈ ns, nameB n = true) → ns.Nodup → (headP s i ns).2.2.2.length ≤ 64 ∧ (∀ n ∈ (headP s i ns).2.2.2, nameB n = true) ∧ (headP s i ns).2.2.2.Nodup := by
  intro n
  induction n using Nat.strongRecOn with
  | ind n ih =>
    intro i ns hn hi h64 hnm hnd
    have a := wPl_ge s i
    have b := wEn_ge s i
    have c := wEn_le hi
    by_cases h1 : wEn s i = wPl s i
    · rw [headP, if_pos h1]; exact ⟨h64, hnm, hnd⟩
    · by_cases h2 : ns.length = 64
      · rw [headP, if_neg h1, if_pos h2]; exact ⟨h64, hnm, hnd⟩
      · by_cases h3 : hasN ns (wrd s i) = true ∨ nameB (wrd s i) = false
        · rw [headP, if_neg h1, if_neg h2, if_pos h3]; exact ⟨h64, hnm, hnd⟩
        · rw [headP_go hi h1 h2 h3]
          refine ih (s.size - wEn s i) (by omega) (wEn s i) _ rfl c (by simp; omega) ?_ ?_
          · intro x hx
            rcases List.mem_append.1 hx with q | q
            · exact hnm x q
            · rw [List.mem_singleton.1 q]
              cases k : nameB (wrd s i) with
              | true => rfl
              | false => exact absurd (.inr k) h3
          · rw [List.nodup_append]
            refine ⟨hnd, by simp, fun x hx y hy e => ?_⟩
            rw [List.mem_singleton.1 hy] at e
            subst e
            exact h3 (.inl (hasN_iff.2 hx))
theorem atoi_inRT {l : List UInt8} {v : Int} (h : Lib.atoiAll l = .ok v) : inR v := by
  unfold inR
  cases l with
  | nil => simp [Lib.atoiAll] at h
  | cons c r =>
    simp only [Lib.atoiAll] at h
    split at h
    · cases h
    · cases h
    · split at h
      · cases h
      · split at h
        · cases h
        · injection h with h
          split at h <;> omega
theorem prs_inR {l : List UInt8} {v : Int} (h : prs 0 l = some v) : inR v := atoi_inRT (prs_some h).2
theorem wf_ofR {v : Int} (h : inR v) : (Lit.int .i64 v).wf = true := by
  unfold inR at h
  simp [Lit.wf, IntKind.min, IntKind.max, IntKind.bits, IntKind.signed]
  omega
theorem wf_0 : (Lit.int .i64 0).wf = true := wf_ofR (by unfold inR; omega)
theorem cellV_gd {u : ByteArray} {c : Cl} (h : cellV u = some c) : stB c = false ∧ (Lit.int .i64 c.v).wf = true := by
  unfold cellV at h
  split at h
  · injection h with h; subst h; exact ⟨rfl, wf_0⟩
  · cases q : prs 0 u.data.toList with
    | none => rw [q] at h; cases h
    | some v =>
      rw [q] at h
      injection h with h
      subst h
      exact ⟨rfl, wf_ofR (prs_inR q)⟩
theorem cellsP_gd (s : ByteArray) : ∀ (n i : Nat) (cs : List Cl), (∀ c ∈ cs, stB c = false ∧ (Lit.int .i64 c.v).wf = true) → (cellsP s n i cs).2.2.1 = 0 → (cellsP s n i cs).2.2.2.length = cs.length + n ∧ ∀ c ∈ (cellsP s n i cs).2.2.2, stB c = false ∧ (Lit.int .i64 c.v).wf = true
  | 0, i, cs, h, he => ⟨rfl, h⟩
  | n + 1, i, cs, h, he => by
    cases q : cellV (wrd s i) with
    | none => rw [cellsP_bad q] at he; exact absurd (show (51 : Int) = 0 from he) (by decide)
    | some c =>
      rw [cellsP_go q] at he ⊢
      obtain ⟨h1, h2⟩ := cellsP_gd s n (wEn s i) (cs ++ [c]) (fun x hx => by
        rcases List.mem_append.1 hx with k | k
        · exact h x k
        · rw [List.mem_singleton.1 k]; exact cellV_gd q) he
      refine ⟨?_, h2⟩
      rw [h1]; simp; omega
theorem stepP_gd {s : ByteArray} {i i' : Nat} {st st' : Option (List ByteArray)} {rs rs' : List (List Cl)} (hi : i ≤ s.size) (hn : st = none → rs = []) (h : ∀ ns, st = some ns → Gd ns rs) (q : stepP s i st rs = .on i' st' rs') : (st' = none → rs' = []) ∧ ∀ ns, st' = some ns → Gd ns rs' := by
  have c := wEn_le hi
  unfold stepP at q
  split at q
  · split at q
    · cases st <;> cases q
    · injection q with h1 h2 h3
      subst h1 h2 h3
      exact ⟨hn, h⟩
  · cases st with
    | none =>
      simp only at q
      split at q
      · split at q
        · injection q with h1 h2 h3
          subst h1 h2 h3
          have e := hn rfl
          subst e
          refine ⟨fun k => (by cases k), fun ns k => ?_⟩
          injection k with k
          subst k
          obtain ⟨x, y, z⟩ := headP_gd s _ (wEn s i) [] rfl c (by simp) (fun n hn => by cases hn) List.nodup_nil
          exact ⟨x, y, z, fun r hr => (by cases hr), fun r hr => (by cases hr), by simp⟩
        · cases q
      · cases q
    | some ns =>
      have g := h ns rfl
      simp only [rowP] at q
      split at q
      · cases q
      · rename_i d hd
        split at q
        · cases q
        · rename_i hd1
          split at q
          · cases q
          · rename_i hd2
            split at q
            · rename_i he
              injection q with h1 h2 h3
              subst h1 h2 h3
              obtain ⟨x, y⟩ := cellsP_gd s ns.length (wEn s i) [] (fun c hc => by cases hc) he
              refine ⟨fun k => (by cases k), fun ns' k => ?_⟩
              injection k with k
              subst k
              refine ⟨g.n64, g.nm, g.nd, fun r hr => ?_, fun r hr => ?_, ?_⟩
              · rcases List.mem_append.1 hr with hr | hr
                · rcases List.mem_append.1 hr with hr | hr
                  · exact g.rw r hr
                  · rw [(List.mem_replicate.1 hr).2]; simp
                · rw [List.mem_singleton.1 hr, x]; simp
              · rcases List.mem_append.1 hr with hr | hr
                · rcases List.mem_append.1 hr with hr | hr
                  · exact g.st r hr
                  · rw [(List.mem_replicate.1 hr).2]
                    intro c hc
                    rw [(List.mem_replicate.1 hc).2]
                    exact ⟨rfl, wf_0⟩
                · rw [List.mem_singleton.1 hr]; exact y
              · simp [padR]; omega
            · cases q
theorem prP_all (s : ByteArray) : ∀ (n i : Nat) (st : Option (List ByteArray)) (rs : List (List Cl)), s.size - i = n → i ≤ s.size → (st = none → rs = []) → (∀ ns, st = some ns → Gd ns rs) → BadR s (prP s i st rs) ∨ ((prP s i st rs).e = 0 ∧ (prP s i st rs).pl = 0 ∧ Gd (prP s i st rs).ns (prP s i st rs).rs) := by
  intro n
  induction n using Nat.strongRecOn with
  | ind n ih =>
    intro i st rs hn hi h0 h
    cases q : stepP s i st rs with
    | fin r =>
      rw [prP_fin q]
      rcases stepP_fin hi q with ⟨ns, e, rfl⟩ | ⟨hb, _⟩
      · exact .inr ⟨rfl, rfl, h ns e⟩
      · exact .inl hb
    | on i' st' rs' =>
      obtain ⟨h1, h2⟩ := stepP_on hi q
      rw [prP_on q h1 h2]
      obtain ⟨h3, h4⟩ := stepP_gd hi h0 h q
      exact ih (s.size - i') (by omega) i' st' rs' rfl h2 h3 h4
theorem parseP_all (s : ByteArray) : BadR s (parseP s) ∨ ((parseP s).e = 0 ∧ (parseP s).pl = 0 ∧ Gd (parseP s).ns (parseP s).rs) := by
  unfold parseP
  split
  · exact .inl ⟨Nat.zero_le _, .inl rfl, rfl, rfl⟩
  · exact prP_all s _ 0 none [] rfl (Nat.zero_le _) (fun _ => rfl) (fun ns h => by cases h)
end Go.Proofs.YtajocakmmgpoaaaGreatDoor
