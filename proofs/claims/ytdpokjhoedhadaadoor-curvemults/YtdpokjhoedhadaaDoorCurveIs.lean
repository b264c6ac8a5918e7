/-
  TEXTS AS NUMBERS OF the field, and the ladder's rungs as texts. No program is named here.
-/
import Derived.Test.YtdpokjhoedhadaaDoorCurveStep
import Derived.Test.YtdpokjhoedhadaaDoorPlainLad
namespace Go.Proofs.YtdpokjhoedhadaaDoor.crv
open Go.Proofs.YtdpokjhoedhadaaDoor.num Go.Proofs.YtdpokjhoedhadaaDoor.edw

/-- A text of 32 bytes that stands for v. -/
def Is (t : ByteArray) (v : K) : Prop := t.size = 32 ∧ kap (N t) = v
theorem kap_text (v : Int) : kap (N (text v)) = kap v := by
  rw [N_text, kap_iff]
  exact Int.emod_emod_of_dvd v (Int.dvd_refl P)
theorem is_tA {a b : ByteArray} {x y : K} (h1 : Is a x) (h2 : Is b y) : Is (tA a b) (x + y) := ⟨tA_size _ _, by unfold tA; rw [kap_text, kap_add, h1.2, h2.2]⟩
theorem is_tS {a b : ByteArray} {x y : K} (h1 : Is a x) (h2 : Is b y) : Is (tS a b) (x - y) := ⟨tS_size _ _, by unfold tS; rw [kap_text, kap_sub, h1.2, h2.2]⟩
theorem is_tM {a b : ByteArray} {x y : K} (h1 : Is a x) (h2 : Is b y) : Is (tM a b) (x * y) := ⟨tM_size _ _, by unfold tM; rw [kap_text, kap_mul, h1.2, h2.2]⟩
theorem is_tI {a : ByteArray} {x : K} (h1 : Is a x) : Is (tI a) (kinv x) := ⟨tI_size _, by unfold tI; rw [kap_text, kap_inv, h1.2]⟩
theorem is_fac : Is fac 121665 := ⟨by decide, by decide +kernel⟩
/-- What stands for v, and is least. -/
def kt (v : K) : ByteArray := text (v.val : Int)
theorem text_kt (v : Int) : text v = kt (kap v) := text_congr _ _ (by rw [kap_val]; exact (Int.emod_emod_of_dvd v (Int.dvd_refl P)).symm)
theorem kt_size (v : K) : (kt v).size = 32 := text_size _
theorem is_kt (v : K) : Is (kt v) v := ⟨kt_size v, by unfold kt; rw [kap_text, kap_of]⟩
theorem kt_inj {u v : K} (h : kt u = kt v) : u = v := by rw [← (is_kt u).2, h, (is_kt v).2]
theorem tM_kt {a b : ByteArray} {x y : K} (h1 : Is a x) (h2 : Is b y) : tM a b = kt (x * y) := by
  unfold tM
  rw [text_kt, kap_mul, h1.2, h2.2]

/-- Both rungs. -/
structure St (s : (K × K) × (K × K)) (lx lz hx hz : ByteArray) : Prop where
  lx : Is lx s.1.1
  lz : Is lz s.1.2
  hx : Is hx s.2.1
  hz : Is hz s.2.2
theorem is_dblX {x z : ByteArray} {p : K × K} (h1 : Is x p.1) (h2 : Is z p.2) : Is (dblX x z) (dbl p).1 :=
  is_tM (is_tM (is_tA h1 h2) (is_tA h1 h2)) (is_tM (is_tS h1 h2) (is_tS h1 h2))
theorem is_eT {x z : ByteArray} {p : K × K} (h1 : Is x p.1) (h2 : Is z p.2) : Is (eT x z) ((p.1 + p.2) * (p.1 + p.2) - (p.1 - p.2) * (p.1 - p.2)) :=
  is_tS (is_tM (is_tA h1 h2) (is_tA h1 h2)) (is_tM (is_tS h1 h2) (is_tS h1 h2))
theorem is_dblZ {x z : ByteArray} {p : K × K} (h1 : Is x p.1) (h2 : Is z p.2) : Is (dblZ x z) (dbl p).2 :=
  is_tM (is_eT h1 h2) (is_tA (is_tM (is_tA h1 h2) (is_tA h1 h2)) (is_tM (is_eT h1 h2) is_fac))
theorem is_togX {x1 z1 x2 z2 : ByteArray} {p q : K × K} (x : K) (h1 : Is x1 p.1) (h2 : Is z1 p.2) (h3 : Is x2 q.1) (h4 : Is z2 q.2) : Is (togX x1 z1 x2 z2) (tog p q x).1 :=
  is_tM (is_tA (is_tM (is_tS h3 h4) (is_tA h1 h2)) (is_tM (is_tA h3 h4) (is_tS h1 h2))) (is_tA (is_tM (is_tS h3 h4) (is_tA h1 h2)) (is_tM (is_tA h3 h4) (is_tS h1 h2)))
theorem is_togZ {x1 z1 x2 z2 t : ByteArray} {p q : K × K} {x : K} (h1 : Is x1 p.1) (h2 : Is z1 p.2) (h3 : Is x2 q.1) (h4 : Is z2 q.2) (h5 : Is t x) : Is (togZ x1 z1 x2 z2 t) (tog p q x).2 :=
  is_tM h5 (is_tM (is_tS (is_tM (is_tS h3 h4) (is_tA h1 h2)) (is_tM (is_tA h3 h4) (is_tS h1 h2))) (is_tS (is_tM (is_tS h3 h4) (is_tA h1 h2)) (is_tM (is_tA h3 h4) (is_tS h1 h2))))
theorem St.up0 {s : (K × K) × (K × K)} {lx lz hx hz t : ByteArray} {x : K} (h : St s lx lz hx hz) (ht : Is t x) : St (up x s false) (dblX lx lz) (dblZ lx lz) (togX lx lz hx hz) (togZ lx lz hx hz t) :=
  ⟨is_dblX h.lx h.lz, is_dblZ h.lx h.lz, is_togX x h.lx h.lz h.hx h.hz, is_togZ h.lx h.lz h.hx h.hz ht⟩
theorem St.up1 {s : (K × K) × (K × K)} {lx lz hx hz t : ByteArray} {x : K} (h : St s lx lz hx hz) (ht : Is t x) : St (up x s true) (togX hx hz lx lz) (togZ hx hz lx lz t) (dblX hx hz) (dblZ hx hz) :=
  ⟨by show Is _ (tog s.1 s.2 x).1; rw [tog_comm]; exact is_togX x h.hx h.hz h.lx h.lz, by show Is _ (tog s.1 s.2 x).2; rw [tog_comm]; exact is_togZ h.hx h.hz h.lx h.lz ht, is_dblX h.hx h.hz, is_dblZ h.hx h.hz⟩

/-! ### Bits of a key -/
/-- Bit i. -/
def bitAt (n : ByteArray) (i : Nat) : Bool := decide (PlainAid.bt n (i / 8) / 2 ^ (i % 8) % 2 = 1)
/-- The first m bits below bit 255, the highest first. -/
def kb (n : ByteArray) (m : Nat) : List Bool := (List.range m).map fun j => bitAt n (254 - j)
theorem kb_succ (n : ByteArray) (m : Nat) : kb n (m + 1) = kb n m ++ [bitAt n (254 - m)] := by simp [kb, List.range_succ]
end Go.Proofs.YtdpokjhoedhadaaDoor.crv
