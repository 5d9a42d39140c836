/-
  slices.SortFunc OF TOTALS AND OF FLOWS, by the shelf's contract.
-/
import Derived.Test.YtmdgfcldohmjdaaDoorPlainOrd
import Derived.Test.YtmdgfcldohmjdaaDoorWTold
import Derived.Test.YtmdgfcldohmjdaaDoorWSortPay
import Derived.Shelf.SlSortCmp.WholeK
import Derived.Shelf.Lay
import Derived.Ground.SlsfProg
namespace Go.Proofs.YtmdgfcldohmjdaaDoor
open Go.RowKit Go.Shelf Go.Lib Go.Sort
set_option linter.unusedVariables false
set_option linter.unusedSimpArgs false

shelf_lay_g SlLaysF0.n6 Slsf 6 at Tryd 47 as sortT

def cmpT (x y : ByteArray × Int) : Int := cmpS x.1 y.1
theorem ltT (x y : ByteArray × Int) : ltOf cmpT x y = sLt x.1 y.1 := by
  unfold ltOf cmpT
  cases h : sLt x.1 y.1 with
  | true => exact decide_eq_true (cmpS_lt.2 h)
  | false => exact decide_eq_false (fun c => by rw [cmpS_lt.1 c] at h; cases h)
theorem swoT : SWO (ltOf cmpT) where
  irrefl x := by rw [ltT]; exact sLt_irrefl _
  trans x y z h1 h2 := by rw [ltT] at *; exact sLt_trans h1 h2
  ntrans x y z h1 h2 := by rw [ltT] at *; exact sLt_ntrans h1 h2
theorem cmpLaysT (blk off size : Nat) (w : World) : CmpLays Tryd.prog 34 #[] tc 2 cmpT blk off size w :=
  fun m os dk hd x y => by
    refine (totOrder_any x.2 y.2 x.1 y.1 _).mono ?_
    rintro e w' ⟨rfl, rfl⟩
    exact ⟨rfl, 0, _, by rw [alloc_eq_grow, alloc_eq_grow, grow_grow]; rfl⟩
theorem sortT_any (blk off cap : Nat) (d : Array (ByteArray × Int)) (w : World) (hH : HoldsK tc 2 w blk off d) (hblk : blk < w.heap.size) (hsz : d.size < 4611686018427387904) :
    Calls Tryd.prog 47 #[.slice (some ⟨blk, off, none⟩) d.size cap, .func (.func 34) #[] #[]] w fun e w' => e = .returned (.tuple #[]) ∧ ∃ d' n os, PermIn 0 d.size d d' ∧ SortedIn (ltOf cmpT) 0 d.size d' ∧ w' = sortWorldK tc 2 w blk off n d' os := by
  have eg : ∀ args w, (callFunc 34 args).run Tryd.prog w = .ok (.enter 34 args) w := enters_of Tryd.func34 (by kernel_rfl) rfl
  exact AnyQ.slices_SortFunc sortT 2 Tryd.isAgg67 Tryd.sizeOf67 tc (fun _ => rfl) (fun x v hv => by simp [tc] at hv; rcases hv with rfl | rfl <;> rfl) cmpT swoT 34 #[] blk off cap d w eg (cmpLaysT blk off d.size w) hH hblk hsz

theorem sortsT : SortsT := sortsT_of fun g cap d w hH hg hn => (sortT_any g 0 cap d w hH hg hn).mono fun e w' ⟨he, d', n, os, hp, hs, hw⟩ => ⟨he, d', n, os, hp, fun i j h1 h2 h3 => (ltT _ _).symm.trans (hs i j h1 h2 h3), hw⟩
end Go.Proofs.YtmdgfcldohmjdaaDoor
