/-
  THE WALK OF package curve's step.
-/

import Derived.Test.YtdpokjhoedhadaaDoorCurveNum
import Derived.Test.YtdpokjhoedhadaaDoorUp
import Derived.Test.YtdpokjhoedhadaaDoorBlk
namespace Go.Proofs.YtdpokjhoedhadaaDoor.crv
open Go.RowKit
open Go.Proofs.YtdpokjhoedhadaaDoor.num

/-- 121665, as a text. -/
def fac : ByteArray := ⟨#[65, 219, 1, 0, 0, 0, 0, 0, 0, 0, 0, 0, 0, 0, 0, 0, 0, 0, 0, 0, 0, 0, 0, 0, 0, 0, 0, 0, 0, 0, 0, 0]⟩
def eT (x z : ByteArray) : ByteArray := tS (tM (tA x z) (tA x z)) (tM (tS x z) (tS x z))
def dblX (x z : ByteArray) : ByteArray := tM (tM (tA x z) (tA x z)) (tM (tS x z) (tS x z))
def dblZ (x z : ByteArray) : ByteArray := tM (eT x z) (tA (tM (tA x z) (tA x z)) (tM (eT x z) fac))
def daT (x1 z1 x2 z2 : ByteArray) : ByteArray := tM (tS x2 z2) (tA x1 z1)
def cbT (x1 z1 x2 z2 : ByteArray) : ByteArray := tM (tA x2 z2) (tS x1 z1)
def togX (x1 z1 x2 z2 : ByteArray) : ByteArray := tM (tA (daT x1 z1 x2 z2) (cbT x1 z1 x2 z2)) (tA (daT x1 z1 x2 z2) (cbT x1 z1 x2 z2))
def togZ (x1 z1 x2 z2 x : ByteArray) : ByteArray := tM x (tM (tS (daT x1 z1 x2 z2) (cbT x1 z1 x2 z2)) (tS (daT x1 z1 x2 z2) (cbT x1 z1 x2 z2)))

/-- Calls in a world that has all that W0 has. -/
theorem keep {W0 W : World} {f : FuncId} {args : Array Value} {v : Value} (hb : Below W0.heap.size W0 W) (h : Calls Tryd.prog f args W fun e w' => e = .returned v ∧ Below W.heap.size W w') :
    Calls Tryd.prog f args W fun e w' => e = .returned v ∧ Below W0.heap.size W0 w' :=
  h.mono fun _ _ ⟨he, h2⟩ => ⟨he, hb.trans (h2.mono hb.size)⟩
theorem one2 (a b : ByteArray) : ([.string a, .string b] : List Value).toArray.all (·.oneCell') = true := by simp [Value.oneCell']
theorem infoPT : (Tryd.prog.info? 47).map (·.size) = some 2 := by kernel_rfl

set_option maxRecDepth 100000 in
set_option maxHeartbeats 1600000 in
theorem step_any (x1 z1 x2 z2 x : ByteArray) (h1 : x1.size = 32) (h2 : z1.size = 32) (h3 : x2.size = 32) (h4 : z2.size = 32) (h5 : x.size = 32) (w : World) (hT : Tabs w) :
    Calls Tryd.prog 31 #[.agg #[.string x1, .string z1], .agg #[.string x2, .string z2], .string x] w fun e w' => e = .returned (.tuple #[.agg #[.string (dblX x1 z1), .string (dblZ x1 z1)], .agg #[.string (togX x1 z1 x2 z2), .string (togZ x1 z1 x2 z2 x)]]) ∧ Below w.heap.size w w' := by
  have hX : Below w.heap.size w ((((w.alloc (.cells #[.string x1, .string z1] 47)).alloc (.cells #[.string x2, .string z2] 47)).alloc (.cells #[.string ⟨#[]⟩, .string ⟨#[]⟩] 47)).alloc (.cells #[.string ⟨#[]⟩, .string ⟨#[]⟩] 47)) := ((((Below.refl _ _).alloc (Nat.le_refl _) _).alloc (by simp) _).alloc (by simp; omega) _).alloc (by simp; omega) _
  have b1 : Blk ((((w.alloc (.cells #[.string x1, .string z1] 47)).alloc (.cells #[.string x2, .string z2] 47)).alloc (.cells #[.string ⟨#[]⟩, .string ⟨#[]⟩] 47)).alloc (.cells #[.string ⟨#[]⟩, .string ⟨#[]⟩] 47)) w.heap.size 47 [.string x1, .string z1] := (((Blk.new w 47 [.string x1, .string z1] _ rfl).alloc _).alloc _).alloc _
  have b2 : Blk ((((w.alloc (.cells #[.string x1, .string z1] 47)).alloc (.cells #[.string x2, .string z2] 47)).alloc (.cells #[.string ⟨#[]⟩, .string ⟨#[]⟩] 47)).alloc (.cells #[.string ⟨#[]⟩, .string ⟨#[]⟩] 47)) (w.heap.size + 1) 47 [.string x2, .string z2] := by
    have h := Blk.new (w.alloc (.cells #[.string x1, .string z1] 47)) 47 [.string x2, .string z2] _ rfl
    rw [World.size_alloc] at h
    exact (h.alloc _).alloc _
  have b3 : Blk ((((w.alloc (.cells #[.string x1, .string z1] 47)).alloc (.cells #[.string x2, .string z2] 47)).alloc (.cells #[.string ⟨#[]⟩, .string ⟨#[]⟩] 47)).alloc (.cells #[.string ⟨#[]⟩, .string ⟨#[]⟩] 47)) (w.heap.size + 1 + 1) 47 [.string ⟨#[]⟩, .string ⟨#[]⟩] := by
    have h := Blk.new ((w.alloc (.cells #[.string x1, .string z1] 47)).alloc (.cells #[.string x2, .string z2] 47)) 47 [.string ⟨#[]⟩, .string ⟨#[]⟩] _ rfl
    rw [World.size_alloc, World.size_alloc] at h
    exact h.alloc _
  have b4 : Blk ((((w.alloc (.cells #[.string x1, .string z1] 47)).alloc (.cells #[.string x2, .string z2] 47)).alloc (.cells #[.string ⟨#[]⟩, .string ⟨#[]⟩] 47)).alloc (.cells #[.string ⟨#[]⟩, .string ⟨#[]⟩] 47)) (w.heap.size + 1 + 1 + 1) 47 [.string ⟨#[]⟩, .string ⟨#[]⟩] := by
    have h := Blk.new (((w.alloc (.cells #[.string x1, .string z1] 47)).alloc (.cells #[.string x2, .string z2] 47)).alloc (.cells #[.string ⟨#[]⟩, .string ⟨#[]⟩] 47)) 47 [.string ⟨#[]⟩, .string ⟨#[]⟩] _ rfl
    rw [World.size_alloc, World.size_alloc, World.size_alloc] at h
    exact h
  have hT0 : Tabs ((((w.alloc (.cells #[.string x1, .string z1] 47)).alloc (.cells #[.string x2, .string z2] 47)).alloc (.cells #[.string ⟨#[]⟩, .string ⟨#[]⟩] 47)).alloc (.cells #[.string ⟨#[]⟩, .string ⟨#[]⟩] 47)) := hT.below hX
  have hsz : ((((w.alloc (.cells #[.string x1, .string z1] 47)).alloc (.cells #[.string x2, .string z2] 47)).alloc (.cells #[.string ⟨#[]⟩, .string ⟨#[]⟩] 47)).alloc (.cells #[.string ⟨#[]⟩, .string ⟨#[]⟩] 47)).heap.size = w.heap.size + 1 + 1 + 1 + 1 := by simp
  go_enter Tryd.func31, Tryd.ntmps31
  go_wp2_with fail
  generalize (((w.alloc (.cells #[.string x1, .string z1] 47)).alloc (.cells #[.string x2, .string z2] 47)).alloc (.cells #[.string ⟨#[]⟩, .string ⟨#[]⟩] 47)).alloc (.cells #[.string ⟨#[]⟩, .string ⟨#[]⟩] 47) = W0 at *
  -- p's sum and difference
  have l1 := b1.lt
  have l2 := b2.lt
  have c1 : ∀ y : Up W0, y.1.cell? ⟨w.heap.size, 0, none⟩ = some (.string x1) := fun y => (b1.below y.2 l1).cell 0 _ rfl
  have c2 : ∀ y : Up W0, y.1.cell? ⟨w.heap.size, 1, none⟩ = some (.string z1) := fun y => (b1.below y.2 l1).cell 1 _ rfl
  have F1 : Hid (∀ y : Up W0, Calls Tryd.prog 43 #[.string x1, .string z1] y.1 fun e w' => e = .returned (.string (tA x1 z1)) ∧ Below y.1.heap.size y.1 w') := fun y => plus_any x1 z1 h1 h2 y.1
  have F2 : Hid (∀ y : Up W0, Calls Tryd.prog 44 #[.string x1, .string z1] y.1 fun e w' => e = .returned (.string (tS x1 z1)) ∧ Below y.1.heap.size y.1 w') := fun y => minus_any x1 z1 h1 h2 y.1 (hT0.below y.2)
  have hne := Up.some W0
  refine wp_region_up (by kernel_rfl) (by kernel_rfl) ?_
  repeat (go_big_quiet_step (first | (with_reducible exact calls_up (F1.out _)) | (with_reducible exact calls_up (F2.out _))))
  refine wpQuiet_nil ?_
  rintro w1 ⟨y1, rfl⟩
  clear c1 c2 F1 F2 hne
  have hb1 := y1.2
  generalize y1.1 = w1 at *
  go_wp2_with fail
  -- q's
  have c1 : ∀ y : Up w1, y.1.cell? ⟨w.heap.size + 1, 0, none⟩ = some (.string x2) := fun y => ((b2.below hb1 l2).below y.2 (Nat.lt_of_lt_of_le l2 hb1.size)).cell 0 _ rfl
  have c2 : ∀ y : Up w1, y.1.cell? ⟨w.heap.size + 1, 1, none⟩ = some (.string z2) := fun y => ((b2.below hb1 l2).below y.2 (Nat.lt_of_lt_of_le l2 hb1.size)).cell 1 _ rfl
  have F1 : Hid (∀ y : Up w1, Calls Tryd.prog 43 #[.string x2, .string z2] y.1 fun e w' => e = .returned (.string (tA x2 z2)) ∧ Below y.1.heap.size y.1 w') := fun y => plus_any x2 z2 h3 h4 y.1
  have F2 : Hid (∀ y : Up w1, Calls Tryd.prog 44 #[.string x2, .string z2] y.1 fun e w' => e = .returned (.string (tS x2 z2)) ∧ Below y.1.heap.size y.1 w') := fun y => minus_any x2 z2 h3 h4 y.1 ((hT0.below hb1).below y.2)
  have hne := Up.some w1
  refine wp_region_up (by kernel_rfl) (by kernel_rfl) ?_
  repeat (go_big_quiet_step (first | (with_reducible exact calls_up (F1.out _)) | (with_reducible exact calls_up (F2.out _))))
  refine wpQuiet_nil ?_
  rintro w2 ⟨y2, rfl⟩
  clear c1 c2 F1 F2 hne
  have hb2 : Below W0.heap.size W0 y2.1 := hb1.trans (y2.2.mono hb1.size)
  generalize y2.1 = w2 at *
  clear hb1 y2 y1
  have l3 := b3.lt
  have l4 := b4.lt
  have hfs : Hid ((⟨#[65, 219, 1, 0, 0, 0, 0, 0, 0, 0, 0, 0, 0, 0, 0, 0, 0, 0, 0, 0, 0, 0, 0, 0, 0, 0, 0, 0, 0, 0, 0, 0]⟩ : ByteArray).size = 32) := (by decide : (⟨#[65, 219, 1, 0, 0, 0, 0, 0, 0, 0, 0, 0, 0, 0, 0, 0, 0, 0, 0, 0, 0, 0, 0, 0, 0, 0, 0, 0, 0, 0, 0, 0]⟩ : ByteArray).size = 32)
  go_wp2_with (first
    | (go_at_call 32; refine (keep (by assumption) (times_any _ _ (by first | with_reducible exact tM_size _ _ | with_reducible exact tA_size _ _ | with_reducible exact tS_size _ _ | with_reducible assumption | with_reducible exact hfs.out) (by first | with_reducible exact tM_size _ _ | with_reducible exact tA_size _ _ | with_reducible exact tS_size _ _ | with_reducible assumption | with_reducible exact hfs.out) _)).mono ?_; rintro e wn ⟨rfl, hbn⟩)
    | (go_at_call 45; refine (keep (by assumption) (square_any _ (by first | with_reducible exact tM_size _ _ | with_reducible exact tA_size _ _ | with_reducible exact tS_size _ _ | with_reducible assumption | with_reducible exact hfs.out) _)).mono ?_; rintro e wn ⟨rfl, hbn⟩)
    | (go_at_call 43; refine (keep (by assumption) (plus_any _ _ (by first | with_reducible exact tM_size _ _ | with_reducible exact tA_size _ _ | with_reducible exact tS_size _ _ | with_reducible assumption | with_reducible exact hfs.out) (by first | with_reducible exact tM_size _ _ | with_reducible exact tA_size _ _ | with_reducible exact tS_size _ _ | with_reducible assumption | with_reducible exact hfs.out) _)).mono ?_; rintro e wn ⟨rfl, hbn⟩)
    | (go_at_call 44; refine (keep (by assumption) (minus_any _ _ (by first | with_reducible exact tM_size _ _ | with_reducible exact tA_size _ _ | with_reducible exact tS_size _ _ | with_reducible assumption | with_reducible exact hfs.out) (by first | with_reducible exact tM_size _ _ | with_reducible exact tA_size _ _ | with_reducible exact tS_size _ _ | with_reducible assumption | with_reducible exact hfs.out) _ (hT0.below (by assumption)))).mono ?_; rintro e wn ⟨rfl, hbn⟩)
    | (refine wpList_store_blk rfl 47 (.tmp 6) (.tmp 59) rfl (w.heap.size + 1 + 1) _ rfl rfl [.string ⟨#[]⟩, .string ⟨#[]⟩] (b3.below (by assumption) l3) rfl (one2 _ _) infoPT ?_
       intro W6 hW6
       have b4 := hW6.other _ _ _ (by omega) (b4.below (by assumption) l4)
       have hX := hW6.below _ _ (by omega) (hX.trans (Below.mono (by assumption) hX.size))
       have hb6 := Below.refl W6.heap.size W6
       have hT0 := hT.below hX
       have b3 := hW6.blk
       have l3 := b3.lt
       have l4 := b4.lt)
    | (refine wpList_store_blk rfl 47 (.tmp 7) (.tmp 70) rfl (w.heap.size + 1 + 1 + 1) _ rfl rfl [.string ⟨#[]⟩, .string ⟨#[]⟩] (b4.below (by assumption) l4) rfl (one2 _ _) infoPT ?_
       intro W7 hW7
       have b3 := hW7.other _ _ _ (by omega) (b3.below (by assumption) l3)
       have hX := hW7.below _ _ (by omega) (hX.trans (Below.mono (by assumption) hX.size))
       have b4 := hW7.blk))
  have c0 := b3.cell 0 _ rfl
  have c1 := b3.cell 1 _ rfl
  have c2 := b4.cell 0 _ rfl
  have c3 := b4.cell 1 _ rfl
  have f0 := b3.frozen 0
  have f1 := b3.frozen 1
  have f2 := b4.frozen 0
  have f3 := b4.frozen 1
  dsimp only [Act.put]
  go_region
  go_wp2_with fail
  refine bodyPost_ret (results_blk2 Tryd.results31 _ rfl rfl (((((b3.set 0 _).set 1 _).other (by simp) _).other (by simp) _)) ((((b4.other (by simp) _).other (by simp) _).set 0 _).set 1 _) _ Tryd.underlying47 rfl infoPT infoPT) rfl ⟨?_, ?_⟩
  · unfold dblX dblZ eT togX togZ daT cbT fac
    rfl
  · refine Below.drew (Below.setCell (Below.setCell (Below.setCell (Below.setCell hX ?_ _) ?_ _) ?_ _) ?_ _) <;> (dsimp only; omega)
end Go.Proofs.YtdpokjhoedhadaaDoor.crv
