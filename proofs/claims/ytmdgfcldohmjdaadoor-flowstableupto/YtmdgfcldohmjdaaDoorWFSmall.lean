/-
  WALKS: small, counted.
-/
import Derived.Test.YtmdgfcldohmjdaaDoorPlainFlowSums2
namespace Go.Proofs.YtmdgfcldohmjdaaDoor
open Go.RowKit
set_option linter.unusedVariables false
set_option linter.unusedSimpArgs false

theorem wp_flowM {ops : Array Oper} {rest : List Oper} {o : Oper} {a : Act} {Q : Exit → Act → World → Prop} (w : World) (N : Nat) (hN : w.heap.size = N) (d m : Int) (c : ByteArray) (hgd : o.guard = none) (s x : Operand)
    (ho : o.op = .call { callee := .builtin .append, args := #[s, x], argTypes := #[23, 23] }) (base : Nat) (v : Value) (fs : List Fl) (hs : a.eval s = v)
    (hx : a.eval x = .slice (some ⟨N, 0, none⟩) 1 1) (hown : w.ownsRow base 32 3 v fs.length (fcs fs)) (hl : fs.length ≤ 4398046511000) (hb : base ≤ w.heap.size)
    (h : ∀ v' w', w'.ownsRow base 32 3 v' (fs ++ [Fl.mk d c m]).length (fcs (fs ++ [Fl.mk d c m])) → (w.alloc (.cells #[.int .i64 d, .string c, .int .i64 m] 32)).grownBy w' v.ownBlock → wpList Tryd.prog ops Q rest (a.put o.dst v') w') :
    wpList Tryd.prog ops Q (o :: rest) a (w.alloc (.cells #[.int .i64 d, .string c, .int .i64 m] 32)) := by
  subst hN
  exact wp_flow w d m c hgd s x ho base v fs hs hx hown hl hb h
theorem box_set (w : World) (o : Obj) (j : Nat) (v : Value) : Below w.heap.size w ((w.alloc o).setCell ⟨w.heap.size, j, none⟩ v) :=
  ((Below.refl _ _).alloc (Nat.le_refl _) o).setCell (p := ⟨w.heap.size, j, none⟩) (Nat.le_refl _) _
theorem own_bel {w w' : World} {B : Nat} {v : Value} {fs : List Fl} (h : w.ownsRow B 32 3 v fs.length (fcs fs)) (b : Below w.heap.size w w') : w'.ownsRow B 32 3 v fs.length (fcs fs) :=
  World.ownsRow.kept h (⟨b.os, b.tape, b.output, b.size, fun k hk _ => b.block k hk⟩ : w.grownBy w' none) (Classical.em _)
theorem sm_take {fs : List Fl} {i : Nat} (hi : i < fs.length) : (fs.take (i + 1)).map smF = (fs.take i).map smF ++ [smF (fs.getD i default)] := by
  have e : fs[i]? = some (fs.getD i default) := by simp [List.getD, hi]
  rw [List.take_add_one, e]
  simp
set_option maxRecDepth 100000 in
set_option maxHeartbeats 2000000 in
theorem small_any (a : Option Addr) (n cap : Nat) (fs : List Fl) (w : World) (h : FL w a n fs) :
    Calls Tryd.prog 14 #[.slice a n cap] w fun e w' => ∃ v, e = .returned v ∧ Below w.heap.size w w' ∧ w'.ownsRow w.heap.size 32 3 v ((fs.take 1048576).map smF).length (fcs ((fs.take 1048576).map smF)) := by
  have HL := Lib.hid h.1
  have hn := h.2.1
  have H := Lib.hid h
  obtain ⟨G, hG⟩ : ∃ G, (fs.take 1048576).map smF = G := ⟨_, rfl⟩
  have ET := Lib.hid (p := ∀ i, i = n ∨ i = 1048576 → i ≤ n → i ≤ 1048576 → (fs.take i).map smF = G) (fun i hi h1 h2 => by
    rw [← hG]
    rcases hi with q | q
    · rw [List.take_of_length_le (by rw [HL.out]; omega), List.take_of_length_le (by rw [HL.out]; omega)]
    · rw [q])
  rw [hG]
  clear h hG
  go_enter Tryd.func14, Tryd.ntmps14
  go_wp2
  go_loopw [3, 4] (fun x t wr => ∃ (i : Nat), i ≤ n ∧ i ≤ 1048576 ∧ t = .int .i64 (i : Int) ∧ wr.ownsRow w.heap.size 32 3 x ((fs.take i).map smF).length (fcs ((fs.take i).map smF)) ∧ Below w.heap.size w wr) (fun _ t _ => n - (intOf t).toNat)
  case atStart => exact ⟨0, by omega, by omega, rfl, World.ownsRow_nil _ _ _ _, Below.refl _ _⟩
  case round =>
    obtain ⟨i, hi, h20, rfl, hO, hB⟩ := hrel
    rename World => wr
    have OO := Lib.hid hO
    have BB := Lib.hid hB
    have SZ := Lib.hid hB.size
    by_cases hlt : i < n ∧ i < 1048576
    · obtain ⟨b, o, rfl, hb, hc⟩ : ∃ b o, a = some ⟨b, o, none⟩ ∧ b < w.heap.size ∧ ∀ i, i < n → FC w b (o + i * 3) (fs.getD i default) := by
        rcases H.out.2.2 with h | h
        · omega
        · exact h
      obtain ⟨c0, c1, c2⟩ := (hc i hlt.1).later hB hb
      have GT := Lib.hid (sm_take (fs := fs) (i := i) (by rw [HL.out]; exact hlt.1))
      have gl : ((fs.take i).map smF).length ≤ i := by rw [List.length_map, List.length_take]; omega
      generalize (fs.take i).map smF = gs at *
      have SA := smF_abs (fs.getD i default)
      generalize fs.getD i default = f at *
      obtain ⟨fd, fc, fa⟩ := f
      simp only [smF] at c0 c1 c2 SA GT
      have kc : (i : Int) < (n : Int) := by omega
      have kc2 : decide ((i : Int) < (n : Int)) = true := decide_eq_true kc
      have kc3 : (i : Int) < 1048576 := by omega
      have kw : IntKind.i64.wrap ((i : Int) + 1) = (i : Int) + 1 := by simp [IntKind.wrap, IntKind.bits, IntKind.signed]; omega
      obtain ⟨T, hT⟩ : ∃ T, fa.tmod 1099511627776 = T := ⟨_, rfl⟩
      rw [hT] at SA GT
      have tw : IntKind.i64.wrap T = T := by simp [IntKind.wrap, IntKind.bits, IntKind.signed]; omega
      clear SA
      clear hc hO hB
      have BX := Lib.hid (p := Below wr.heap.size wr (wr.alloc (.cells #[.int .i64 fd, .string fc, .int .i64 T] 32))) ((Below.refl _ _).alloc (Nat.le_refl _) _)
      go_wp2_with (at_builtin; refine wp_flowM _ (wr.heap.size + 1) (by simp) fd T fc rfl _ _ rfl w.heap.size _ gs rfl rfl (own_bel OO.out BX.out) (by omega) (Nat.le_trans SZ.out BX.out.size) ?_; intro v' w3 ho hg; have O3 := Lib.hid ho; have B3 := Lib.hid (((BB.out.trans (BX.out.mono SZ.out)).alloc (Nat.le_trans SZ.out BX.out.size) _).grown hg (Nat.le_trans (Nat.le_trans SZ.out BX.out.size) (by simp)) (fun k e => (OO.out.lt k e).1)); clear ho hg)
      go_roundw
      case rel => exact ⟨i + 1, by omega, by omega, by simp, by rw [GT.out]; exact O3.out, B3.out⟩
      case measure => simp [intOf]; omega
    · have O5 := Lib.hid hO
      rw [ET.out i (by omega) hi h20] at O5
      clear hO hB
      by_cases hin : i < n
      · have kc : decide ((i : Int) < (n : Int)) = true := decide_eq_true (by omega)
        have kc' : (i : Int) < (n : Int) := by omega
        have kc3 : ¬ (i : Int) < 1048576 := by omega
        go_wp2
        go_ret
        exact ⟨_, rfl, BB.out, O5.out⟩
      · have kc : decide ((i : Int) < (n : Int)) = false := decide_eq_false (by omega)
        have kc' : ¬ (i : Int) < (n : Int) := by omega
        go_wp2
        go_ret
        exact ⟨_, rfl, BB.out, O5.out⟩
end Go.Proofs.YtmdgfcldohmjdaaDoor
