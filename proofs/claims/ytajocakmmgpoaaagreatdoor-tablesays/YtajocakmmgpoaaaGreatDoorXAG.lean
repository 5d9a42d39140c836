import Derived.Test.YtajocakmmgpoaaaGreatDoorXAF
import Derived.Test.YtajocakmmgpoaaaGreatDoorXAE
import Derived.Test.YtajocakmmgpoaaaGreatDoorXAD
import Derived.Test.YtajocakmmgpoaaaGreatDoorXAB
import Derived.Lib.BufferWrite
import Derived.Lib.UnsafeStr
import Derived.Laws.CopyRow
namespace Go.Proofs.YtajocakmmgpoaaaGreatDoor
open Go.RowKit
set_option linter.unusedVariables false
set_option linter.unusedSimpArgs false

def sOf (L : List UInt8) : ByteArray := ⟨L.toArray⟩
theorem sOf_size (L : List UInt8) : (sOf L).size = L.length := by simp [sOf, ByteArray.size]
theorem bt_at {L T : List UInt8} {i : Nat} (h : L.drop i = T) (k : Nat) : bt (sOf L) (i + k) = ((T[k]?).map fun b => (b.toNat : Int)).getD (-1) := by
  have e : T[k]? = L[i + k]? := by rw [← h, List.getElem?_drop]
  rw [e]
  unfold bt
  by_cases q : i + k < (sOf L).size
  · rw [dif_pos q]
    have q2 : i + k < L.length := by rw [sOf_size] at q; exact q
    rw [List.getElem?_eq_getElem q2]
    rfl
  · rw [dif_neg q]
    rw [sOf_size] at q
    rw [List.getElem?_eq_none (by omega)]
    rfl
theorem lt_at {L T : List UInt8} {i k : Nat} (h : L.drop i = T) (hk : k < T.length) : i + k < (sOf L).size := by
  rw [sOf_size]
  rw [← h, List.length_drop] at hk
  omega
def wdl (u : List UInt8) : Prop := ∀ c ∈ u, wdB (c.toNat : Int) = true
theorem wd_bl {c : Int} (h : wdB c = true) : blB c = false ∧ ¬ c = 35 := by
  unfold wdB at h
  simp only [Bool.and_eq_true, Bool.not_eq_true', bne_iff_ne] at h
  exact ⟨h.1.1.2, h.1.2⟩
theorem fnd_here {p : Int → Bool} {L T : List UInt8} {i : Nat} {c : UInt8} (h : L.drop i = c :: T) (hc : p (c.toNat : Int) = false) : fnd p (sOf L) i = i := by
  refine fnd_stop (fun k => ?_)
  have := bt_at h 0
  rw [Nat.add_zero] at this
  rw [this] at k
  simp at k
  rw [hc] at k
  exact absurd k.2 (by simp)
theorem fnd_over {p : Int → Bool} {L u T : List UInt8} {i : Nat} {c : UInt8} (h : L.drop i = u ++ c :: T) (hu : ∀ x ∈ u, p (x.toNat : Int) = true) (hc : p (c.toNat : Int) = false) : fnd p (sOf L) i = i + u.length := by
  refine fnd_is _ i _ rfl (by omega) (fun j h1 h2 => ?_) (fun k => ?_)
  · obtain ⟨k, rfl⟩ : ∃ k, j = i + k := ⟨j - i, by omega⟩
    have hk : k < u.length := by omega
    refine ⟨lt_at h (by simp; omega), ?_⟩
    rw [bt_at h k, List.getElem?_append_left hk, List.getElem?_eq_getElem hk]
    exact hu _ (List.getElem_mem hk)
  · have := bt_at h u.length
    rw [List.getElem?_append_right (Nat.le_refl _), Nat.sub_self] at this
    rw [this] at k
    simp at k
    rw [hc] at k
    exact absurd k.2 (by simp)
theorem ext_at {L u T : List UInt8} {i : Nat} (h : L.drop i = u ++ T) : (sOf L).extract i (i + u.length) = sOf u := by
  apply ByteArray.ext
  rw [ByteArray.data_extract]
  simp [sOf, List.extract_eq_take_drop, h]
theorem drop_on {L u T : List UInt8} {i : Nat} (h : L.drop i = u ++ T) : L.drop (i + u.length) = T := by
  rw [← List.drop_drop, h]
  simp
theorem bt_here {L T : List UInt8} {i : Nat} {c : UInt8} (h : L.drop i = c :: T) : bt (sOf L) i = (c.toNat : Int) := by
  have := bt_at h 0
  rw [Nat.add_zero] at this
  rw [this]
  rfl
theorem w_none {L R : List UInt8} {i : Nat} (h : L.drop i = 10 :: R) : wPl (sOf L) i = i ∧ wEn (sOf L) i = i := by
  have a : fnd blB (sOf L) i = i := fnd_here h (by decide)
  have b : wPl (sOf L) i = i := by
    unfold wPl
    rw [a, bt_here h, if_neg (by decide)]
  refine ⟨b, ?_⟩
  unfold wEn
  rw [b]
  exact fnd_here h (by decide)
theorem w_end (L : List UInt8) : wPl (sOf L) L.length = L.length ∧ wEn (sOf L) L.length = L.length := by
  have z : ∀ p, fnd p (sOf L) L.length = L.length := fun p => fnd_stop (fun k => by rw [sOf_size] at k; omega)
  have b : wPl (sOf L) L.length = L.length := by
    unfold wPl
    rw [z, bt_over (by rw [sOf_size]; omega), if_neg (by decide)]
  refine ⟨b, ?_⟩
  unfold wEn
  rw [b, z]
theorem w_first {L u T : List UInt8} {i : Nat} {c : UInt8} (h : L.drop i = u ++ c :: T) (hu : wdl u) (h0 : u ≠ []) (hc : wdB (c.toNat : Int) = false) :
    wPl (sOf L) i = i ∧ wEn (sOf L) i = i + u.length ∧ wrd (sOf L) i = sOf u ∧ L.drop (i + u.length) = c :: T := by
  obtain ⟨x, v, rfl⟩ : ∃ x v, u = x :: v := by
    cases u with
    | nil => exact absurd rfl h0
    | cons x v => exact ⟨x, v, rfl⟩
  have hx := wd_bl (hu x (by simp))
  have a : fnd blB (sOf L) i = i := fnd_here (T := v ++ c :: T) h hx.1
  have b : wPl (sOf L) i = i := by
    unfold wPl
    rw [a, bt_here (T := v ++ c :: T) h, if_neg hx.2]
  have d : wEn (sOf L) i = i + (x :: v).length := by
    unfold wEn
    rw [b]
    exact fnd_over h hu hc
  refine ⟨b, d, ?_, drop_on h⟩
  unfold wrd
  rw [b, d]
  exact ext_at h
theorem w_blank {L u T : List UInt8} {i : Nat} {c : UInt8} (h : L.drop i = 32 :: (u ++ c :: T)) (hu : wdl u) (h0 : u ≠ []) (hc : wdB (c.toNat : Int) = false) :
    wPl (sOf L) i = i + 1 ∧ wEn (sOf L) i = i + 1 + u.length ∧ wrd (sOf L) i = sOf u ∧ L.drop (i + 1 + u.length) = c :: T := by
  have h1 : L.drop (i + 1) = u ++ c :: T := drop_on (u := [32]) h
  obtain ⟨x, v, rfl⟩ : ∃ x v, u = x :: v := by
    cases u with
    | nil => exact absurd rfl h0
    | cons x v => exact ⟨x, v, rfl⟩
  have hx := wd_bl (hu x (by simp))
  have a : fnd blB (sOf L) i = i + 1 := by
    refine fnd_over (u := [32]) (T := v ++ c :: T) (c := x) h ?_ hx.1
    intro y hy
    rw [List.mem_singleton.1 hy]
    decide
  have b : wPl (sOf L) i = i + 1 := by
    unfold wPl
    rw [a, bt_here (T := v ++ c :: T) h1, if_neg hx.2]
  have d : wEn (sOf L) i = i + 1 + (x :: v).length := by
    unfold wEn
    rw [b]
    exact fnd_over h1 hu hc
  refine ⟨b, d, ?_, drop_on h1⟩
  unfold wrd
  rw [b, d]
  exact ext_at h1
theorem sOf_list (n : ByteArray) : sOf n.data.toList = n := by unfold sOf; simp
theorem ok_wd {c : Int} (h0 : 0 ≤ c) (h : okB c = true) : wdB c = true := by
  unfold okB upB dgB at h
  unfold wdB blB
  simp at h ⊢
  omega
theorem name_wd {n : ByteArray} (h : nameB n = true) : wdl n.data.toList ∧ n.data.toList ≠ [] := by
  unfold nameB at h
  simp only [Bool.and_eq_true, decide_eq_true_eq, List.all_eq_true, List.mem_range] at h
  obtain ⟨⟨h1, _⟩, _, h3⟩ := h
  have hl : n.data.toList.length = n.size := Array.length_toList
  refine ⟨fun c hc => ?_, fun e => by rw [e] at hl; simp at hl; omega⟩
  obtain ⟨k, hk, rfl⟩ := List.getElem_of_mem hc
  have := h3 k (by omega)
  rw [at8_lt (by omega)] at this
  have e : n[k]'(by omega) = n.data.toList[k] := by simp; rfl
  rw [e] at this
  exact ok_wd (by omega) this
theorem next_names (ns : List ByteArray) (R : List UInt8) : ∃ c T, ns.flatMap nameW ++ 10 :: R = c :: T ∧ wdB (c.toNat : Int) = false := by
  cases ns with
  | nil => exact ⟨10, R, rfl, by decide⟩
  | cons n ns => exact ⟨32, _, rfl, by decide⟩
theorem next_cells (cs : List Cl) (R : List UInt8) : ∃ c T, cs.flatMap cellW ++ 10 :: R = c :: T ∧ wdB (c.toNat : Int) = false := by
  cases cs with
  | nil => exact ⟨10, R, rfl, by decide⟩
  | cons n ns => exact ⟨32, _, rfl, by decide⟩
theorem head_back {L R : List UInt8} : ∀ (ns done : List ByteArray) (i : Nat), L.drop i = ns.flatMap nameW ++ 10 :: R → i ≤ L.length → (∀ n ∈ ns, nameB n = true) → (done ++ ns).Nodup → (done ++ ns).length ≤ 64 →
    headP (sOf L) i done = (i + (ns.flatMap nameW).length, i + (ns.flatMap nameW).length, 0, done ++ ns)
  | [], done, i, h, hi, hn, hd, h64 => by
    obtain ⟨a, b⟩ := w_none h
    rw [headP_0 (by rw [a, b]), a, b]
    simp
  | n :: ns, done, i, h, hi, hn, hd, h64 => by
    obtain ⟨c, T, e, hc⟩ := next_names ns R
    have h' : L.drop i = 32 :: (n.data.toList ++ c :: T) := by
      rw [h, ← e]
      simp [nameW]
    obtain ⟨w1, w2⟩ := name_wd (hn n (by simp))
    obtain ⟨a, b, d, f⟩ := w_blank h' w1 w2 hc
    have hl : 0 < n.data.toList.length := List.length_pos_iff.2 w2
    rw [sOf_list] at d
    have g3 : ¬ (hasN done (wrd (sOf L) i) = true ∨ nameB (wrd (sOf L) i) = false) := by
      rw [d]
      rintro (k | k)
      · have := hasN_iff.1 k
        rw [List.nodup_append] at hd
        exact hd.2.2 n this n (by simp) rfl
      · rw [hn n (by simp)] at k; cases k
    have hi2 : i ≤ (sOf L).size := by rw [sOf_size]; exact hi
    rw [headP_go hi2 (by rw [a, b]; omega) (by simp at h64; omega) g3, b, d]
    have f' : L.drop (i + 1 + n.data.toList.length) = ns.flatMap nameW ++ 10 :: R := by rw [f, ← e]
    rw [head_back ns (done ++ [n]) _ f' (by have := wEn_le hi2; rw [b, sOf_size] at this; exact this) (fun x hx => hn x (by simp [hx])) (by simpa using hd) (by simpa using h64)]
    have el : ((n :: ns).flatMap nameW).length = 1 + n.data.toList.length + (ns.flatMap nameW).length := by
      rw [List.flatMap_cons, List.length_append]
      unfold nameW
      rw [List.length_cons]
      omega
    rw [el, show i + 1 + n.data.toList.length + (ns.flatMap nameW).length = i + (1 + n.data.toList.length + (ns.flatMap nameW).length) by omega]
    simp
theorem dig_wd {c : UInt8} (h : isD c) : wdB (c.toNat : Int) = true := ok_wd (by omega) (by unfold isD at h; unfold okB dgB; simp; omega)
theorem itoa_wd (v : Int) : wdl (Lib.itoa v) ∧ Lib.itoa v ≠ [] := by
  unfold Lib.itoa
  split
  · refine ⟨fun c hc => ?_, by simp⟩
    rcases List.mem_cons.1 hc with rfl | hc
    · decide
    · exact dig_wd (dec_d _ c hc)
  · exact ⟨fun c hc => dig_wd (dec_d _ c hc), dec_neB _⟩
theorem wordC_wd (c : Cl) : wdl (wordC c) ∧ wordC c ≠ [] := by
  unfold wordC
  split
  · exact itoa_wd c.v
  · refine ⟨fun x hx => ?_, by simp⟩
    rw [List.mem_singleton.1 hx]
    decide
theorem itoa_dtx (v : Int) : Lib.itoa v = dtx v 0 := by
  have h := absI_nonneg v
  unfold dtx
  rw [word_eq v (absI v).toNat (by omega)]
theorem cellV_back {c : Cl} (h1 : stB c = false) (h2 : (Lit.int .i64 c.v).wf = true) : cellV (sOf (wordC c)) = some c := by
  have e : (sOf (wordC c)).data.toList = wordC c := by simp [sOf]
  unfold cellV
  rw [e]
  obtain ⟨h, v⟩ := c
  cases h with
  | false =>
    simp [stB] at h1
    subst h1
    exact if_pos rfl
  | true =>
    have p : prs 0 (wordC ⟨true, v⟩) = some v := by
      show prs 0 (Lib.itoa v) = some v
      rw [itoa_dtx]
      exact prs_back v (wf_inR h2) 0
    have n45 : prs 0 [45] = none := by decide
    rw [if_neg (fun k => by rw [k, n45] at p; cases p), p]
    rfl
theorem cells_back {L R : List UInt8} : ∀ (cs done : List Cl) (i : Nat), L.drop i = cs.flatMap cellW ++ 10 :: R → (∀ c ∈ cs, stB c = false ∧ (Lit.int .i64 c.v).wf = true) →
    cellsP (sOf L) cs.length i done = (i + (cs.flatMap cellW).length, i + (cs.flatMap cellW).length, 0, done ++ cs)
  | [], done, i, h, hn => by
    obtain ⟨a, b⟩ := w_none h
    show cellsP (sOf L) 0 i done = _
    rw [cellsP, a, b, if_pos rfl]
    simp
  | n :: ns, done, i, h, hn => by
    obtain ⟨c, T, e, hc⟩ := next_cells ns R
    have h' : L.drop i = 32 :: (wordC n ++ c :: T) := by
      rw [h, ← e]
      simp [cellW]
    obtain ⟨w1, w2⟩ := wordC_wd n
    obtain ⟨a, b, d, f⟩ := w_blank h' w1 w2 hc
    obtain ⟨g1, g2⟩ := hn n (by simp)
    show cellsP (sOf L) (ns.length + 1) i done = _
    rw [cellsP_go (by rw [d]; exact cellV_back g1 g2), b]
    have f' : L.drop (i + 1 + (wordC n).length) = ns.flatMap cellW ++ 10 :: R := by rw [f, ← e]
    rw [cells_back ns (done ++ [n]) _ f' (fun x hx => hn x (by simp [hx]))]
    have el : ((n :: ns).flatMap cellW).length = 1 + (wordC n).length + (ns.flatMap cellW).length := by
      rw [List.flatMap_cons, List.length_append]
      unfold cellW
      rw [List.length_cons]
      omega
    rw [el, show i + 1 + (wordC n).length + (ns.flatMap cellW).length = i + (1 + (wordC n).length + (ns.flatMap cellW).length) by omega]
    simp

theorem dayF_pu : ∀ (l : List UInt8) (acc m : Nat), Lib.parseUint10 acc l = .ok m → m < 4096 → dayF acc l = some m ∧ acc ≤ m
  | [], acc, m, h, hm => by
    rw [Lib.parseUint10] at h
    injection h with h
    subst h
    exact ⟨rfl, Nat.le_refl _⟩
  | c :: l, acc, m, h, hm => by
    rw [Lib.parseUint10] at h
    split at h
    · rename_i hd
      split at h
      · cases h
      · split at h
        · cases h
        · obtain ⟨h1, h2⟩ := dayF_pu l _ m h hm
          rw [dayF, if_pos (by unfold dgB; simp; omega)]
          rw [show min (10 * acc + (c.toNat - 48)) 4096 = acc * 10 + (c.toNat - 48) by omega]
          exact ⟨h1, by omega⟩
    · cases h
theorem dec_head (u : Nat) : 0 < u → (Lib.decDigits u).head? ≠ some 48 := by
  induction u using Nat.strongRecOn with
  | ind u ih =>
    intro hu
    rw [Lib.decDigits]
    split
    · rename_i h
      simp only [List.head?_cons]
      intro e
      injection e with e
      have := congrArg UInt8.toNat e
      rw [ofNat_d (by omega)] at this
      have q : (48 : UInt8).toNat = 48 := by decide
      omega
    · rename_i h
      rw [List.head?_append]
      have h2 := ih (u / 10) (by omega) (by omega)
      cases q : (Lib.decDigits (u / 10)).head? with
      | none =>
        have := dec_neB (u / 10)
        rw [List.head?_eq_none_iff] at q
        exact absurd q this
      | some c =>
        rw [q] at h2
        simpa using h2
theorem dayP_back (d : Nat) (hd : d < 4096) : dayP (sOf (Lib.itoa (d : Int))) = some d := by
  have e : Lib.itoa (d : Int) = Lib.decDigits d := by unfold Lib.itoa; rw [if_neg (by omega)]; simp
  rw [e]
  have e2 : (sOf (Lib.decDigits d)).data.toList = Lib.decDigits d := by simp [sOf]
  unfold dayP
  rw [e2, sOf_size]
  rw [if_neg ?_]
  · exact (dayF_pu _ 0 d (pu_dec d (by omega)) hd).1
  · rintro ⟨h1, h2⟩
    by_cases h0 : 0 < d
    · exact dec_head d h0 h1
    · obtain rfl : d = 0 := by omega
      rw [Lib.decDigits, dif_pos (by omega)] at h2
      simp at h2
theorem prP_two {s : ByteArray} {i j : Nat} {st st' : Option (List ByteArray)} {rs rs' : List (List Cl)} (h : stepP s i st rs = .on j st' rs') (hi : i ≤ s.size) (h1 : wPl s j = j ∧ wEn s j = j) (h2 : j < s.size) : prP s i st rs = prP s (j + 1) st' rs' := by
  obtain ⟨a, b⟩ := stepP_on hi h
  rw [prP_on h a b]
  refine prP_on ?_ (by omega) (by omega)
  unfold stepP
  rw [h1.1, h1.2, if_pos rfl, if_neg (by omega)]
theorem line_back {L R : List UInt8} {ns : List ByteArray} {rs : List (List Cl)} {cs : List Cl} {i : Nat} (h : L.drop i = lineT rs.length cs ++ R) (hi : i ≤ L.length) (h4 : rs.length < 4096) (hl : cs.length = ns.length) (hg : ∀ c ∈ cs, stB c = false ∧ (Lit.int .i64 c.v).wf = true) :
    prP (sOf L) i (some ns) rs = prP (sOf L) (i + (lineT rs.length cs).length) (some ns) (rs ++ [cs]) := by
  have e0 : lineT rs.length cs ++ R = Lib.itoa (rs.length : Int) ++ (cs.flatMap cellW ++ 10 :: R) := by
    unfold lineT rowT
    rw [List.take_length]
    simp
  obtain ⟨c, T, e, hc⟩ := next_cells cs R
  rw [e0, e] at h
  obtain ⟨w1, w2⟩ := itoa_wd (rs.length : Int)
  obtain ⟨a, b, d, f⟩ := w_first h w1 w2 hc
  rw [← e] at f
  have hp : 0 < (Lib.itoa (rs.length : Int)).length := List.length_pos_iff.2 w2
  have C := cells_back cs [] _ f hg
  rw [hl] at C
  have el : (lineT rs.length cs).length = (Lib.itoa (rs.length : Int)).length + (cs.flatMap cellW).length + 1 := by
    unfold lineT rowT
    rw [List.take_length, List.length_append, List.length_append]
    rfl
  have j1 := drop_on f
  rw [el, show i + ((Lib.itoa (rs.length : Int)).length + (cs.flatMap cellW).length + 1) = i + (Lib.itoa (rs.length : Int)).length + (cs.flatMap cellW).length + 1 by omega]
  refine prP_two ?_ (by rw [sOf_size]; exact hi) (w_none j1) (by simpa using lt_at (k := 0) j1 (by simp))
  unfold stepP
  rw [if_neg (by rw [a, b]; omega)]
  show rowP (sOf L) ns rs i = _
  unfold rowP
  rw [d, dayP_back _ h4]
  simp only
  rw [if_neg (by omega), if_neg (by omega), b, C]
  simp [padR]
theorem text_pre (ss : List ByteArray) (rs : List (List Cl)) : ∀ (d k : Nat), ∃ T, textT ss rs (k + d) = textT ss rs k ++ T
  | 0, k => ⟨[], by simp⟩
  | d + 1, k => by
    obtain ⟨T, h⟩ := text_pre ss rs d k
    exact ⟨T ++ lineT (k + d) (rs.getD (k + d) []), by rw [← Nat.add_assoc, textT_step, h, List.append_assoc]⟩
theorem lines_back {ss : List ByteArray} {rs : List (List Cl)} (h4 : rs.length ≤ 4096) (hl : ∀ r ∈ rs, r.length = ss.length) (hg : ∀ r ∈ rs, ∀ c ∈ r, stB c = false ∧ (Lit.int .i64 c.v).wf = true) :
    ∀ (d k : Nat), k + d = rs.length → prP (sOf (textT ss rs rs.length)) (textT ss rs k).length (some ss) (rs.take k) = ⟨0, 0, ss, rs⟩
  | 0, k, hk => by
    obtain rfl : k = rs.length := by omega
    obtain ⟨a, b⟩ := w_end (textT ss rs rs.length)
    refine prP_fin ?_
    unfold stepP
    rw [a, b, if_pos rfl, if_pos (sOf_size _).symm, List.take_length]
  | d + 1, k, hk => by
    have hkl : k < rs.length := by omega
    obtain ⟨T, hT⟩ := text_pre ss rs d (k + 1)
    rw [show k + 1 + d = rs.length by omega] at hT
    have hm : rs.getD k [] ∈ rs := by
      rw [show rs.getD k [] = rs[k] by simp [List.getD, hkl]]
      exact List.getElem_mem hkl
    have tl : (rs.take k).length = k := by simp; omega
    have h : (textT ss rs rs.length).drop (textT ss rs k).length = lineT (rs.take k).length (rs.getD k []) ++ T := by
      rw [hT, textT_step, tl]
      simp
    have hle : (textT ss rs k).length ≤ (textT ss rs rs.length).length := by
      have := textT_mono ss rs (rs.length - k) k
      rwa [show k + (rs.length - k) = rs.length by omega] at this
    rw [line_back h hle (by omega) (hl _ hm) (hg _ hm)]
    have e1 : (textT ss rs k).length + (lineT (rs.take k).length (rs.getD k [])).length = (textT ss rs (k + 1)).length := by rw [tl, textT_step, List.length_append]
    have e2 : rs.take k ++ [rs.getD k []] = rs.take (k + 1) := by
      rw [List.take_add_one, List.getElem?_eq_getElem hkl]
      simp [List.getD, hkl]
    rw [e1, e2]
    exact lines_back h4 hl hg d (k + 1) (by omega)
theorem parse_back {ss : List ByteArray} {rs : List (List Cl)} (g : Gd ss rs) (hs : (textT ss rs rs.length).length ≤ 1048576) : parseP (sOf (textT ss rs rs.length)) = ⟨0, 0, ss, rs⟩ := by
  unfold parseP
  rw [if_neg (by rw [sOf_size]; omega)]
  obtain ⟨T, hT⟩ := text_pre ss rs rs.length 0
  rw [Nat.zero_add] at hT
  have h0 : (textT ss rs rs.length).drop 0 = [100, 97, 121] ++ (ss.flatMap nameW ++ 10 :: T) := by
    rw [List.drop_zero, hT]
    unfold textT headT rowsT
    rw [List.take_length]
    simp
  obtain ⟨c, T2, e, hc⟩ := next_names ss T
  rw [e] at h0
  obtain ⟨a, b, d, f⟩ := w_first h0 (by intro x hx; simp at hx; rcases hx with rfl | rfl | rfl <;> decide) (by simp) hc
  rw [← e] at f
  have f3 : (textT ss rs rs.length).drop 3 = ss.flatMap nameW ++ 10 :: T := f
  have H := head_back ss [] 3 f3 (by rw [hT]; unfold textT headT; simp) g.nm (by simpa using g.nd) (by simpa using g.n64)
  have j1 := drop_on f3
  have e0 : (textT ss rs 0).length = 3 + (ss.flatMap nameW).length + 1 := by
    unfold textT headT rowsT
    rw [List.take_length]
    simp
    omega
  have := lines_back g.r4 g.rw g.st rs.length 0 (by omega)
  rw [e0] at this
  rw [← this]
  refine prP_two ?_ (Nat.zero_le _) (w_none j1) (by simpa using lt_at (k := 0) j1 (by simp))
  unfold stepP
  have b3 : wEn (sOf (textT ss rs rs.length)) 0 = 3 := b
  rw [if_neg (by rw [a, b3]; omega)]
  simp only
  rw [d, if_pos (show sOf [100, 97, 121] = wDay from rfl), b3, H]
  simp
end Go.Proofs.YtajocakmmgpoaaaGreatDoor

namespace Go.Proofs.YtajocakmmgpoaaaGreatDoor
open Go.RowKit
set_option linter.unusedVariables false
set_option linter.unusedSimpArgs false

theorem idx_fnd {L : List UInt8} : ∀ (l : List UInt8) (i : Nat), L.drop i = l → i ≤ L.length → (Lib.indexByte l 10 < 0 → fnd nlB (sOf L) i = L.length) ∧ (¬ Lib.indexByte l 10 < 0 → (fnd nlB (sOf L) i : Int) = i + Lib.indexByte l 10)
  | [], i, h, hi => by
    have e : L.length = i := by
      have := congrArg List.length h
      rw [List.length_drop] at this
      simp at this
      omega
    have z : fnd nlB (sOf L) i = i := fnd_stop (fun k => by rw [sOf_size] at k; omega)
    refine ⟨fun _ => by rw [z, e], fun k => absurd (show Lib.indexByte [] 10 < 0 by simp [Lib.indexByte]) k⟩
  | c :: l, i, h, hi => by
    have hd : L.drop (i + 1) = l := drop_on (u := [c]) h
    have hl : i < L.length := by
      have := congrArg List.length h
      rw [List.length_drop] at this
      simp at this
      omega
    obtain ⟨h1, h2⟩ := idx_fnd l (i + 1) hd (by omega)
    have hg := Lib.indexByte_ge l 10
    by_cases hc : c = 10
    · subst hc
      have z : fnd nlB (sOf L) i = i := fnd_here h (by decide)
      have e2 : Lib.indexByte (10 :: l) 10 = 0 := by simp [Lib.indexByte]
      rw [e2, z]
      exact ⟨fun k => by omega, fun _ => by omega⟩
    · have hn : c.toNat ≠ 10 := fun e => hc (UInt8.toNat_inj.1 e)
      have z : fnd nlB (sOf L) i = fnd nlB (sOf L) (i + 1) := fnd_go (by rw [sOf_size]; exact hl) (by rw [bt_here h]; unfold nlB; rw [bne_iff_ne]; omega)
      have e2 : Lib.indexByte (c :: l) 10 = if Lib.indexByte l 10 == -1 then -1 else Lib.indexByte l 10 + 1 := by
        show (if c == 10 then _ else _) = _
        rw [if_neg (by simpa using hc)]
      rw [z, e2]
      by_cases q : Lib.indexByte l 10 = -1
      · rw [if_pos (by simp [q])]
        have := h1 (by omega)
        exact ⟨fun _ => this, fun k => by omega⟩
      · rw [if_neg (by simpa using q)]
        have := h2 (by omega)
        exact ⟨fun k => by omega, fun k => by rw [this]; push_cast; omega⟩
theorem TR.to {w : World} {g : Nat} {s : ByteArray} {k pl n j : Nat} {m nm rw : Value} {v : Int} (h : TR w g s k pl m nm rw) (hv : v = (j : Int)) (hj : j ≤ s.size) : TR ((w.drewN n).setCell ⟨g, 1, none⟩ (.int .i64 v)) g s j pl m nm rw := by
  subst hv
  exact (h.drewN n).setAt j hj
set_option maxRecDepth 100000 in
set_option maxHeartbeats 2000000 in
theorem passComment_any (g : Nat) (s : ByteArray) (at_ pl : Nat) (m nm rw : Value) (w : World) (h : TR w g s at_ pl m nm rw) :
    Calls Tryz.prog 42 #[.pointer (some ⟨g, 0, none⟩)] w fun e w' => e = .returned (.tuple #[]) ∧ TR w' g s (fnd nlB s at_) pl m nm rw ∧ Gr g w w' := by
  have T0 := Lib.hid h
  have sz := h.sz
  have le := h.le
  have KI := Lib.hid (fun W => Tryz.strings_IndexByte (s.extract at_ s.size) 10 W)
  have e1 : (s.extract at_ s.size).data.toList = s.data.toList.drop at_ := by
    rw [ByteArray.data_extract]
    have q : s.data.toList.length = s.size := Array.length_toList
    rw [Array.toList_extract, List.extract_eq_take_drop, List.take_of_length_le (by rw [List.length_drop]; omega)]
  have e2 : (10 : Int).toNat.toUInt8 = (10 : UInt8) := by decide
  rw [e1, e2] at KI
  have hl : s.data.toList.length = s.size := Array.length_toList
  have F := idx_fnd (L := s.data.toList) _ at_ rfl (by omega)
  rw [sOf_list, hl] at F
  have fl := fnd_le (p := nlB) le
  generalize Lib.indexByte (s.data.toList.drop at_) 10 = I at *
  generalize fnd nlB s at_ = J at *
  obtain ⟨F1, F2⟩ := F
  obtain ⟨h0, h1, h2, h3, h4, h5⟩ := h.c
  have f1 := h.f 1
  have kc : (at_ : Int) ≤ (s.size : Int) := by omega
  clear h e1 e2 hl
  by_cases hI : I < 0
  · have J1 := Lib.hid (F1 hI)
    have w1 : IntKind.i64.wrap ((s.size : Int) - (at_ : Int)) = (s.size : Int) - (at_ : Int) := by simp [IntKind.wrap, IntKind.bits, IntKind.signed]; omega
    have w2 : IntKind.i64.wrap ((at_ : Int) + ((s.size : Int) - (at_ : Int))) = (at_ : Int) + ((s.size : Int) - (at_ : Int)) := by simp [IntKind.wrap, IntKind.bits, IntKind.signed]; omega
    clear F1 F2
    go_enter Tryz.func42, Tryz.ntmps42
    go_wp2
    go_quiet ((go_at_call 54; exact Calls.quiet_of_same (KI.out _)))
    go_wp2
    go_quiet (fail)
    go_wp2
    go_end0
    exact ⟨rfl, TR.to T0.out (by rw [J1.out]; omega) fl, ((Gr.refl g w).drewN _).set 1 _⟩
  · have J1 := Lib.hid (F2 hI)
    have w2 : IntKind.i64.wrap ((at_ : Int) + I) = (at_ : Int) + I := by
      have := F2 hI
      simp [IntKind.wrap, IntKind.bits, IntKind.signed]; omega
    clear F1 F2
    go_enter Tryz.func42, Tryz.ntmps42
    go_wp2
    go_quiet ((go_at_call 54; exact Calls.quiet_of_same (KI.out _)))
    go_wp2
    go_end0
    exact ⟨rfl, TR.to T0.out J1.out.symm fl, ((Gr.refl g w).drewN _).set 1 _⟩

set_option maxRecDepth 100000 in
set_option maxHeartbeats 4000000 in
theorem word_comment (g : Nat) (s : ByteArray) (at_ pl b : Nat) (m nm rw : Value) (w : World) (h : TR w g s at_ pl m nm rw) (hb : at_ ≤ b) (hs : b < s.size)
    (hB : ∀ j, at_ ≤ j → j < b → blB (bt s j) = true) (hP : bt s b = 35) :
    Calls Tryz.prog 30 #[.pointer (some ⟨g, 0, none⟩)] w fun e w' => e = .returned (.string ByteArray.empty) ∧ TR w' g s (fnd nlB s b) (fnd nlB s b) m nm rw ∧ Gr g w w' := by
  have T0 := Lib.hid h
  have sz := h.sz
  have BQ := Lib.hid hB
  have KP := Lib.hid (fun pl W (t : TR W g s b pl m nm rw) => passComment_any g s b pl m nm rw W t)
  have OUT := Lib.hid (fnd_out nlB s b)
  have fl := fnd_le (p := nlB) (Nat.le_of_lt hs)
  have HP := Lib.hid hP
  generalize fnd nlB s b = q at *
  clear h hB hP
  go_enter Tryz.func30, Tryz.ntmps30
  go_wp2
  go_loopw [24] (fun t wr => ∃ k : Nat, at_ ≤ k ∧ k ≤ b ∧ TR wr g s k pl m nm rw ∧ Gr g w wr) (fun t wr => s.size - posT g wr)
  case atStart => exact ⟨at_, Nat.le_refl _, hb, T0.out, Gr.refl g w⟩
  case round =>
    rename World => wr
    obtain ⟨k, kl, kp, hT, hG⟩ := hrel
    have TT := Lib.hid hT
    have GG := Lib.hid hG
    have PS := Lib.hid hT.pos
    obtain ⟨h0, h1, h2, h3, h4, h5⟩ := hT.c
    have f1 := hT.f 1
    have f2 := hT.f 2
    clear hT hG
    have ks : k < s.size := by omega
    have kc : (k : Int) < (s.size : Int) := by omega
    by_cases hk : k < b
    · have YB := BQ.out k kl hk
      obtain ⟨c, hc⟩ : ∃ c : Nat, s[k].toNat = c := ⟨_, rfl⟩
      rw [bt_lt ks, hc] at YB
      have KB := Lib.hid (fun W => isBlank_any (c : Int) W)
      rw [YB] at KB
      have kw : IntKind.i64.wrap ((k : Int) + 1) = (k : Int) + 1 := by simp [IntKind.wrap, IntKind.bits, IntKind.signed]; omega
      clear YB
      go_wp2
      go_quiet ((go_at_call 41; exact Calls.quiet_of_same (KB.out _)))
      go_wp2
      refine ⟨⟨k + 1, by omega, by omega, ?_, ?_⟩, ?_⟩
      · exact TT.out.next ks
      · exact (GG.out.drewN _).set 1 _
      · rw [PS.out, (TT.out.next ks).pos]; omega
    · obtain rfl : k = b := by omega
      have YB := HP.out
      obtain ⟨c, hc⟩ : ∃ c : Nat, s[k].toNat = c := ⟨_, rfl⟩
      rw [bt_lt ks, hc] at YB
      obtain rfl : c = 35 := by omega
      have KB := Lib.hid (fun W => isBlank_any 35 W)
      rw [show blB 35 = false by decide] at KB
      clear YB
      go_wp2
      go_quiet ((go_at_call 41; exact Calls.quiet_of_same (KB.out _)))
      go_wp2
      go_quiet (fail)
      go_wp2_with (go_at_call 42; refine (KP.out pl _ (TT.out.drewN _)).mono ?_; rintro e wt ⟨rfl, hT, hG⟩; clear h0 h1 h2 h3 h4 h5 f1 f2; have T5 := Lib.hid hT; have G5 := Lib.hid hG; obtain ⟨h0, h1, h2, h3, h4, h5⟩ := hT.c; have f2 := hT.f 2; clear hT hG)
      clear h0 h1 h2 h3 h4 h5 f2
      go_loopw [84] (fun t wr => TR wr g s q q m nm rw ∧ Gr g w wr) (fun t wr => 1)
      case atStart => exact ⟨T5.out.setPl _, ((GG.out.drewN _).trans G5.out).set 2 _⟩
      case round =>
        rename World => wu
        obtain ⟨hT, hG⟩ := hrel
        have TU := Lib.hid hT
        have GU := Lib.hid hG
        obtain ⟨h0, h1, h2, h3, h4, h5⟩ := hT.c
        clear hT hG
        by_cases is : q < s.size
        · have kq : (q : Int) < (s.size : Int) := by omega
          obtain ⟨c, hc⟩ : ∃ c : Nat, s[q].toNat = c := ⟨_, rfl⟩
          have c10 : c = 10 := by
            have := OUT.out
            rw [bt_lt is, hc] at this
            refine Classical.byContradiction fun k => this ⟨is, ?_⟩
            unfold nlB
            rw [bne_iff_ne]; omega
          subst c10
          have KC := Lib.hid (fun W => isOfWord_any 10 (by omega) W)
          rw [show wdB 10 = false by decide] at KC
          go_wp2
          go_quiet ((go_at_call 43; exact Calls.quiet_of_same (KC.out _)))
          go_wp2
          go_quiet (fail)
          go_wp2
          go_ret
          exact ⟨rfl, (TU.out.drewN _).drewN _, (GU.out.drewN _).drewN _⟩
        · have kq : ¬ (q : Int) < (s.size : Int) := by omega
          have k2 : decide (q < s.size) = false := decide_eq_false is
          have k3 : decide ((q : Int) < (s.size : Int)) = false := decide_eq_false kq
          go_wp2
          go_quiet (fail)
          go_wp2
          go_quiet (fail)
          go_wp2
          go_ret
          exact ⟨rfl, (TU.out.drewN _).drewN _, (GU.out.drewN _).drewN _⟩
/-- The reader's word, of any text. -/
theorem word_all (g : Nat) (s : ByteArray) (at_ pl : Nat) (m nm rw : Value) (w : World) (h : TR w g s at_ pl m nm rw) :
    Calls Tryz.prog 30 #[.pointer (some ⟨g, 0, none⟩)] w fun e w' => e = .returned (.string (wrd s at_)) ∧ TR w' g s (wEn s at_) (wPl s at_) m nm rw ∧ Gr g w w' := by
  have le := h.le
  have b1 := fnd_ge blB s at_
  have b2 := fnd_le (p := blB) le
  by_cases q : bt s (fnd blB s at_) = 35
  · have hs : fnd blB s at_ < s.size := by
      refine Classical.byContradiction fun k => ?_
      rw [bt_end k] at q
      omega
    have e1 : wPl s at_ = fnd nlB s (fnd blB s at_) := by unfold wPl; rw [if_pos q]
    have e2 : wEn s at_ = fnd nlB s (fnd blB s at_) := by
      unfold wEn
      rw [e1]
      refine fnd_stop (fun k => ?_)
      have := fnd_out nlB s (fnd blB s at_)
      refine this ⟨k.1, ?_⟩
      have k2 := k.2
      unfold wdB at k2
      unfold nlB
      simp only [Bool.and_eq_true] at k2
      exact k2.2
    have := word_comment g s at_ pl (fnd blB s at_) m nm rw w h b1 hs (fun j h1 h2 => (fnd_in h1 h2).2) q
    rw [wrd_none (e2.trans e1.symm), e1, e2]
    exact this
  · have e1 : wPl s at_ = fnd blB s at_ := by unfold wPl; rw [if_neg q]
    have hbl : blB (bt s (fnd blB s at_)) = false := by
      by_cases k : fnd blB s at_ < s.size
      · cases z : blB (bt s (fnd blB s at_)) with
        | false => rfl
        | true => exact absurd ⟨k, z⟩ (fnd_out blB s at_)
      · rw [bt_end k]; decide
    have hw : wdB (bt s (wEn s at_)) = false := by
      unfold wEn
      by_cases k : fnd wdB s (wPl s at_) < s.size
      · cases z : wdB (bt s (fnd wdB s (wPl s at_))) with
        | false => rfl
        | true => exact absurd ⟨k, z⟩ (fnd_out wdB s (wPl s at_))
      · rw [bt_end k]; decide
    exact word_any g s at_ pl (wPl s at_) (wEn s at_) m nm rw w h (wPl_ge s at_) (wEn_ge s at_) (wEn_le le) (fun j h1 h2 => by rw [e1] at h2; exact (fnd_in h1 h2).2) (by rw [e1]; exact ⟨hbl, by rw [beq_eq_false_iff_ne]; exact q⟩) (fun j h1 h2 => (fnd_in h1 h2).2) hw
end Go.Proofs.YtajocakmmgpoaaaGreatDoor

namespace Go.Proofs.YtajocakmmgpoaaaGreatDoor
open Go.RowKit
set_option linter.unusedVariables false
set_option linter.unusedSimpArgs false

theorem dayOf_0 (w : World) : Calls Tryz.prog 45 #[.string ⟨#[48]⟩] w fun e w' => e = .returned (.tuple #[.int .i64 0, .bool true]) ∧ w' = w := by
  have KD := Lib.hid (fun W => isDigT_any 48 W)
  rw [show dgB 48 = true by decide] at KD
  have sz : (⟨#[48]⟩ : ByteArray).size = 1 := rfl
  go_enter Tryz.func45, Tryz.ntmps45
  go_wp2
  go_loopw [4, 16] (fun d t wr => wr = w ∧ d = .int .i64 0 ∧ (t = .int .i64 0 ∨ t = .int .i64 1)) (fun _ t _ => 1 - (intOf t).toNat)
  case atStart => exact ⟨rfl, rfl, .inl rfl⟩
  case round =>
    obtain ⟨rfl, rfl, rfl | rfl⟩ := hrel
    · go_wp2_with (go_at_call 49; refine (KD.out _).mono ?_; rintro e w' ⟨rfl, rfl⟩)
      go_roundw
      case rel => simp; rfl
      case measure => simp [intOf]
    · go_wp2
      go_ret2
      exact ⟨rfl, rfl⟩
theorem nextLine_yes (g : Nat) (s : ByteArray) (at_ pl : Nat) (m nm rw : Value) (w : World) (h : TR w g s at_ pl m nm rw) (hk : at_ < s.size) :
    Calls Tryz.prog 31 #[.pointer (some ⟨g, 0, none⟩)] w fun e w' => e = .returned (.bool true) ∧ TR w' g s (at_ + 1) pl m nm rw ∧ Gr g w w' := by
  have TT := Lib.hid h
  obtain ⟨h0, h1, h2, h3, h4, h5⟩ := h.c
  have f1 := h.f 1
  have sz := h.sz
  have kc : ¬ (at_ : Int) = (s.size : Int) := by omega
  have kw : IntKind.i64.wrap ((at_ : Int) + 1) = (at_ : Int) + 1 := by simp [IntKind.wrap, IntKind.bits, IntKind.signed]; omega
  clear h
  go_enter Tryz.func31, Tryz.ntmps31
  go_wp2
  go_quiet (fail)
  go_wp2
  go_ret
  exact ⟨rfl, TT.out.next hk, ((Gr.refl g w).drewN _).set 1 _⟩
theorem nextLine_no (g : Nat) (s : ByteArray) (at_ pl : Nat) (m nm rw : Value) (w : World) (h : TR w g s at_ pl m nm rw) (hk : at_ = s.size) :
    Calls Tryz.prog 31 #[.pointer (some ⟨g, 0, none⟩)] w fun e w' => e = .returned (.bool false) ∧ TR w' g s at_ pl m nm rw ∧ Gr g w w' := by
  have TT := Lib.hid h
  subst hk
  obtain ⟨h0, h1, h2, h3, h4, h5⟩ := h.c
  clear h
  go_enter Tryz.func31, Tryz.ntmps31
  go_wp2
  go_quiet (fail)
  go_wp2
  go_ret
  exact ⟨rfl, TT.out.drewN _, (Gr.refl g w).drewN _⟩
theorem make_b1 (W : World) : (Instr.makeSlice 64 (.int .i64 1) (.int .i64 1)).run Tryz.prog W = .ok (.slice (some ⟨W.heap.size, 0, none⟩) 1 1) (W.alloc (.cells #[.int .u8 0] 5)) := by
  obtain ⟨i0, hi, hz0, hz1, hz2⟩ := info_parts info8
  have := run_make (P := Tryz.prog) W 64 5 i0 _ Tryz.underlying64 hi hz0 .i64 .i64 1 1 (by omega) (by omega) (by rw [hz2]; omega) (by omega)
  rw [hz1] at this
  have e : madeCells (Value.int IntKind.u8 0).cells (Int.toNat 1 * 1) = #[.int .u8 0] := by kernel_rfl
  rw [e] at this
  exact this
theorem freeze_below (w : World) (o : Obj) (n : Nat) : Below w.heap.size w ((w.alloc o).freeze ⟨w.heap.size, 0, none⟩ n) :=
  Lib.below_freeze ((Below.refl _ w).alloc (Nat.le_refl _) _) (p := ⟨w.heap.size, 0, none⟩) (Nat.le_refl _) n
theorem setRow_new (w : World) (cs ds : Array Value) (e : TypeId) : (w.alloc (.cells cs e)).setRow w.heap.size ds = w.alloc (.cells ds e) := by
  have hm : ∀ (a : Array Obj) (x : Obj) (f : Obj → Obj), (a.push x).modify a.size f = a.push (f x) := by
    intro a x f
    apply Array.ext
    · simp
    · intro i h1 h2
      simp only [Array.getElem_modify, Array.getElem_push]
      by_cases h : a.size = i
      · subst h; simp
      · have hi : i < a.size := by simp at h1; omega
        simp [h, hi]
  show ({ w.alloc (.cells cs e) with heap := (w.heap.push (.cells cs e)).modify w.heap.size _ } : World) = _
  rw [hm]
  rfl
theorem clone_A (w : World) : Calls Tryz.prog 44 #[.string ⟨#[65]⟩] w fun e w' => e = .returned (.string ⟨#[65]⟩) ∧ Below w.heap.size w w' := by
  have K := Lib.hid (p := ∀ W, Calls Tryz.prog 55 #[.string ⟨#[65]⟩] W fun e w' => e = .returned (.string ⟨#[65]⟩) ∧ Below W.heap.size W w') (fun W => by
    have hmk := make_b1
    have hcp : ∀ (W : World) (ty : TypeId), (Builtin.copy_ #[64, 9] ty #[.slice (some ⟨W.heap.size, 0, none⟩) 1 1, .string ⟨#[65]⟩]).run Tryz.prog (W.alloc (.cells #[.int .u8 0] 5)) = .ok (.int .i64 1) (W.alloc (.cells #[.int .u8 65] 5)) := fun W ty => by
      have := Lib.run_copy_row_string (P := Tryz.prog) (W.alloc (.cells #[.int .u8 0] 5)) 64 9 ty 5 W.heap.size 0 1 1 ⟨#[65]⟩ _ _ Tryz.underlying64 (by kernel_rfl) (World.alloc_heap_new W _) (by decide) (by decide)
      rw [this]
      exact congrArg (Result.ok _) (setRow_new W _ _ _)
    have hus : ∀ (W : World) (ty : TypeId), (Builtin.unsafeString_ #[109, 3] ty #[.pointer (some ⟨W.heap.size, 0, none⟩), .int .i64 1]).run Tryz.prog (W.alloc (.cells #[.int .u8 65] 5)) = .ok (.string ⟨#[65]⟩) ((W.alloc (.cells #[.int .u8 65] 5)).freeze ⟨W.heap.size, 0, none⟩ 1) := fun W ty =>
      Lib.run_unsafeString_row (P := Tryz.prog) (W.alloc (.cells #[.int .u8 65] 5)) 109 3 ty 5 Tryz.underlying109 (by kernel_rfl) W.heap.size 1 (by unfold World.shape?; rw [World.alloc_heap_new]; rfl) [65] (by simp) (by simp) (by simp) (fun j x hj => by
        match j, hj with
        | 0, hj => simp at hj; subst hj; simp [Addr.add])
    have B := Lib.hid (freeze_below W (.cells #[.int .u8 65] 5) 1)
    go_enter Tryz.func55, Tryz.ntmps55
    go_wp2
    go_ret
    exact ⟨rfl, B.out⟩)
  go_enter Tryz.func44, Tryz.ntmps44
  go_wp2_with (go_at_call 55; refine (K.out _).mono ?_; rintro e w1 ⟨rfl, h1⟩; have B := Lib.hid h1; clear h1)
  go_ret
  exact ⟨rfl, B.out⟩
end Go.Proofs.YtajocakmmgpoaaaGreatDoor

namespace Go.Proofs.YtajocakmmgpoaaaGreatDoor
open Go.RowKit
set_option linter.unusedVariables false
set_option linter.unusedSimpArgs false

theorem box_all2 {w : World} {x : Nat} {u v : Value} {t : TypeId} (h : w.heap[x]? = some (.cells #[u, v] t)) : w.cell? ⟨x, 0, none⟩ = some u ∧ w.cell? ⟨x, 1, none⟩ = some v ∧ w.frozen? ⟨x, 0, none⟩ = false ∧ w.frozen? ⟨x, 1, none⟩ = false := by
  refine ⟨?_, ?_, ?_, ?_⟩ <;> simp [World.cell?, World.frozen?, h]
theorem box_set2 {w : World} {x : Nat} {a b u v : Value} {t : TypeId} (h : w.heap[x]? = some (.cells #[a, b] t)) : ((w.setCell ⟨x, 0, none⟩ u).setCell ⟨x, 1, none⟩ v).heap[x]? = some (.cells #[u, v] t) :=
  Joins.block_setCell (Joins.block_setCell h _) _
/-- What cellOf answers. -/
def celE (s : ByteArray) (v E : Int) : Ending :=
  if (s.toList == [45]) = true then .returned (.tuple #[.agg #[.bool false, .int .i64 0], .bool true])
  else if E = 0 then .returned (.tuple #[.agg #[.bool true, .int .i64 v], .bool true]) else .returned (.tuple #[.agg #[.bool false, .int .i64 0], .bool false])
set_option maxHeartbeats 1000000 in
theorem cellOf_any (s : ByteArray) (v E : Int) (w : World) (hp : ∀ W, Below w.heap.size w W → Calls Tryz.prog 56 #[.string s, .int .i64 0] W fun e w' => e = .returned (.tuple #[.int .i64 v, .int .i64 E]) ∧ Below W.heap.size W w') :
    Calls Tryz.prog 46 #[.string s] w fun e w' => e = celE s v E ∧ Below w.heap.size w w' := by
  have A := Lib.hid ((Below.refl w.heap.size w).alloc (Nat.le_refl _) (.cells #[.bool false, .int .i64 0] 34))
  have KP := Lib.hid (hp _ A.out)
  have CE := Lib.hid (p := ∀ w1, Below (w.alloc (.cells #[.bool false, .int .i64 0] 34)).heap.size (w.alloc (.cells #[.bool false, .int .i64 0] 34)) w1 → w1.heap[w.heap.size]? = some (.cells #[.bool false, .int .i64 0] 34)) (fun w1 b => (b.block _ (by simp)).trans (World.alloc_heap_new w _))
  clear hp
  by_cases hs : (s.toList == [45]) = true
  · have e : celE s v E = .returned (.tuple #[.agg #[.bool false, .int .i64 0], .bool true]) := by unfold celE; rw [if_pos hs]
    rw [e]
    clear e
    go_enter Tryz.func46, Tryz.ntmps46
    go_wp2
    obtain ⟨r0, r1, _, _⟩ := box_all2 (World.alloc_heap_new w (.cells #[.bool false, .int .i64 0] 34))
    exact bodyPost_ret (v := .tuple #[.agg #[.bool false, .int .i64 0], .bool true]) (by simp [results, Tryz.results46, go_sem, r0, r1]) rfl ⟨rfl, A.out⟩
  · have hs2 : (s.toList == [45]) = false := by simpa using hs
    by_cases hE : E = 0
    · have e : celE s v E = .returned (.tuple #[.agg #[.bool true, .int .i64 v], .bool true]) := by unfold celE; rw [if_neg hs, if_pos hE]
      rw [e]
      subst hE
      clear e hs
      go_enter Tryz.func46, Tryz.ntmps46
      go_wp2_with (go_at_call 56; refine KP.out.mono ?_; rintro e w1 ⟨rfl, h1⟩; have B1 := Lib.hid (A.out.trans (h1.mono A.out.size)); have hb := Lib.hid (CE.out _ h1); obtain ⟨c0, c1, f0, f1⟩ := box_all2 (CE.out _ h1); clear h1)
      obtain ⟨r0, r1, _, _⟩ := box_all2 (box_set2 (u := .bool true) (v := .int .i64 v) hb.out)
      exact bodyPost_ret (v := .tuple #[.agg #[.bool true, .int .i64 v], .bool true]) (by simp [results, Tryz.results46, go_sem, r0, r1]) rfl ⟨rfl, (B1.out.setCell (p := ⟨w.heap.size, 0, none⟩) (Nat.le_refl _) _).setCell (p := ⟨w.heap.size, 1, none⟩) (Nat.le_refl _) _⟩
    · have e : celE s v E = .returned (.tuple #[.agg #[.bool false, .int .i64 0], .bool false]) := by unfold celE; rw [if_neg hs, if_neg hE]
      rw [e]
      have hE2 : (E == 0) = false := by rw [beq_eq_false_iff_ne]; exact hE
      clear e hs
      go_enter Tryz.func46, Tryz.ntmps46
      go_wp2_with (go_at_call 56; refine KP.out.mono ?_; rintro e w1 ⟨rfl, h1⟩; have B1 := Lib.hid (A.out.trans (h1.mono A.out.size)); have hb := Lib.hid (CE.out _ h1); obtain ⟨c0, c1, f0, f1⟩ := box_all2 (CE.out _ h1); clear h1)
      obtain ⟨r0, r1, _, _⟩ := box_all2 (box_set2 (u := .bool false) (v := .int .i64 0) hb.out)
      exact bodyPost_ret (v := .tuple #[.agg #[.bool false, .int .i64 0], .bool false]) (by simp [results, Tryz.results46, go_sem, r0, r1]) rfl ⟨rfl, (B1.out.setCell (p := ⟨w.heap.size, 0, none⟩) (Nat.le_refl _) _).setCell (p := ⟨w.heap.size, 1, none⟩) (Nat.le_refl _) _⟩

theorem infoC1 : (Tryz.prog.info? 34).map (fun i => (i.zero, i.size, i.bytes)) = some (some (.agg #[.bool false, .int .i64 0]), 2, 16) := by kernel_rfl
theorem make_c1 (W : World) : (Instr.makeSlice 50 (.int .i64 1) (.int .i64 1)).run Tryz.prog W = .ok (.slice (some ⟨W.heap.size, 0, none⟩) 1 1) (W.alloc (.cells #[.bool false, .int .i64 0] 34)) := by
  obtain ⟨i0, hi, hz0, hz1, hz2⟩ := info_parts infoC1
  have := run_make (P := Tryz.prog) W 50 34 i0 _ Tryz.underlying50 hi hz0 .i64 .i64 1 1 (by omega) (by omega) (by rw [hz2]; omega) (by omega)
  rw [hz1] at this
  have e : madeCells (Value.agg #[.bool false, .int .i64 0]).cells (Int.toNat 1 * 2) = #[.bool false, .int .i64 0] := by kernel_rfl
  rw [e] at this
  exact this
theorem copy_c1 (W : World) (y c : Nat) (h : Bool) (v : Int) (h0 : W.cell? ⟨y, 0, none⟩ = some (.bool h)) (h1 : W.cell? ⟨y, 1, none⟩ = some (.int .i64 v)) (ty : TypeId) :
    (Builtin.copy_ #[50, 50] ty #[.slice (some ⟨W.heap.size, 0, none⟩) 1 1, .slice (some ⟨y, 0, none⟩) 1 c]).run Tryz.prog (W.alloc (.cells #[.bool false, .int .i64 0] 34)) = .ok (.int .i64 1) (W.alloc (.cells #[.bool h, .int .i64 v] 34)) := by
  obtain ⟨i0, hi, hz0, hz1, hz2⟩ := info_parts infoC1
  have hl := run_loadCells_list (P := Tryz.prog) (W.alloc (.cells #[.bool false, .int .i64 0] 34)) ⟨y, 0, none⟩ [.bool h, .int .i64 v] (fun j u hj => by
    rw [Lib.add_plain, Nat.zero_add]
    match j, hj with
    | 0, hj => simp at hj; subst hj; exact Lib.cell?_alloc_marked _ h0
    | 1, hj => simp at hj; subst hj; exact Lib.cell?_alloc_marked _ h1)
  have hst := run_storeCells_at Tryz.prog W.heap.size 0 34 [.bool h, .int .i64 v] 0 _ (W.alloc (.cells #[.bool false, .int .i64 0] 34)) (World.alloc_heap_new W _) (by simp) (by simp [Value.oneCell'])
  have hu := Tryz.underlying50
  simp only [List.length_cons, List.length_nil, Nat.zero_add, Nat.reduceAdd] at hl
  simp [Builtin.copy_, run_underlying hu, Builtin.lenOf, Builtin.firstCells, sizeOf, typeInfo, hi, hz1, hl, hst, setRow_new]
  rfl
set_option maxHeartbeats 1000000 in
theorem newRow_1 (y c : Nat) (h : Bool) (v : Int) (w : World) (h0 : w.cell? ⟨y, 0, none⟩ = some (.bool h)) (h1 : w.cell? ⟨y, 1, none⟩ = some (.int .i64 v)) :
    Calls Tryz.prog 23 #[.slice (some ⟨y, 0, none⟩) 1 c, .int .i64 1] w fun e w' => e = .returned (.slice (some ⟨w.heap.size, 0, none⟩) 1 1) ∧ w' = w.alloc (.cells #[.bool h, .int .i64 v] 34) := by
  have hmk := make_c1
  have hcp := copy_c1 w y c h v h0 h1
  clear h0 h1
  go_enter Tryz.func23, Tryz.ntmps23
  go_wp2
  go_ret
  exact ⟨rfl, rfl⟩
end Go.Proofs.YtajocakmmgpoaaaGreatDoor
