/-
  PLAIN MATHEMATICS OF sums, products, inverses and powers of texts, modulo 2^255 - 19: what the laws without the document's answer say of them.
-/
import Derived.Test.YthabfejpejjenabDoorKeepElem
import Derived.Test.YthabfejpejjenabDoorPlainField
namespace Go.Proofs.YthabfejpejjenabDoor.num

theorem addR (a b : ByteArray) (ha : a.size = 32) (hb : b.size = 32) (v : Int) (h : (N a + N b) % P = v % P) : AddR a b (text v) := ⟨ha, hb, text_congr _ _ h⟩
theorem subR (a b : ByteArray) (ha : a.size = 32) (hb : b.size = 32) (v : Int) (h : (N a - N b) % P = v % P) : SubR a b (text v) := ⟨ha, hb, text_congr _ _ h⟩
theorem mulR (a b : ByteArray) (ha : a.size = 32) (hb : b.size = 32) (v : Int) (h : (N a * N b) % P = v % P) : MulR a b (text v) := ⟨ha, hb, text_congr _ _ h⟩
theorem mod2 (v : Int) : v % P % P = v % P := Int.emod_emod_of_dvd v (Int.dvd_refl P)

theorem adds_plain (a b c : ByteArray) (ha : a.size = 32) (hb : b.size = 32) (hc : c.size = 32) :
    ∃ x1 x2 x3 x4 l, AddR a b x1 ∧ AddR b a x1 ∧ AddR x1 c x2 ∧ AddR b c x3 ∧ AddR a x3 x2 ∧ SubR x1 b l ∧ LowR a l ∧ SubR a b x4 ∧ AddR x4 b l ∧ SubR a a (noughts 32) := by
  refine ⟨text (N a + N b), text (N a + N b + N c), text (N b + N c), text (N a - N b), text (N a), addR _ _ ha hb _ rfl, addR _ _ hb ha _ (by rw [Int.add_comm]), addR _ _ (text_size _) hc _ ?_, addR _ _ hb hc _ rfl, addR _ _ ha (text_size _) _ ?_, subR _ _ (text_size _) hb _ ?_, ⟨ha, rfl⟩, subR _ _ ha hb _ rfl, addR _ _ (text_size _) hb _ ?_, ?_⟩
  · rw [N_text]; unfold P; omega
  · rw [N_text]; unfold P; omega
  · rw [N_text]; unfold P; omega
  · rw [N_text]; unfold P; omega
  · rw [← text_0]; exact subR _ _ ha ha _ (by rw [Int.sub_self])

theorem times_plain (a b c : ByteArray) (ha : a.size = 32) (hb : b.size = 32) (hc : c.size = 32) :
    ∃ x1 x2 x3 y1 y2 y3 l, MulR a b x1 ∧ MulR b a x1 ∧ MulR x1 c x2 ∧ MulR b c x3 ∧ MulR a x3 x2 ∧ AddR b c y1 ∧ MulR a y1 y2 ∧ MulR a c y3 ∧ AddR x1 y3 y2 ∧ MulR a (sz ⟨#[1]⟩ 32) l ∧ LowR a l := by
  refine ⟨text (N a * N b), text (N a * N b * N c), text (N b * N c), text (N b + N c), text (N a * (N b + N c)), text (N a * N c), text (N a), mulR _ _ ha hb _ rfl, mulR _ _ hb ha _ (by rw [Int.mul_comm]), mulR _ _ (text_size _) hc _ ?_, mulR _ _ hb hc _ rfl, mulR _ _ ha (text_size _) _ ?_, addR _ _ hb hc _ rfl, mulR _ _ ha (text_size _) _ ?_, mulR _ _ ha hc _ rfl, addR _ _ (text_size _) (text_size _) _ ?_, mulR _ _ ha (sz_size _ _) _ ?_, ⟨ha, rfl⟩⟩
  · rw [N_text]; exact emod_mul _ _ _ _ _ (mod2 _) rfl
  · rw [N_text, Int.mul_assoc]; exact emod_mul _ _ _ _ _ rfl (mod2 _)
  · rw [N_text]; exact emod_mul _ _ _ _ _ rfl (mod2 _)
  · rw [N_text, N_text, Int.mul_add]
    generalize N a * N b = u
    generalize N a * N c = v
    unfold P; omega
  · rw [one_val, Int.mul_one]

theorem text_ne {u v : Int} (h : u % P ≠ v % P) : text u ≠ text v := fun e => h (by rw [← N_text, ← N_text, e])
theorem text_nought {v : Int} (h : v % P = 0) : text v = noughts 32 := by rw [← text_0]; exact text_congr _ _ (by rw [h]; rfl)
theorem text_some {v : Int} (h : v % P ≠ 0) : text v ≠ noughts 32 := by rw [← text_0]; exact text_ne (fun e => h (by rw [e]; rfl))
theorem einv_succ : ∃ d, einv = d + 1 := ⟨einv - 1, by have := einv_val; unfold P at this; omega⟩
theorem inv_nought (x : Int) (h : x % P = 0) : x ^ einv % P = 0 := by
  obtain ⟨d, hd⟩ := einv_succ
  rw [hd]; exact nought_pow x d h
theorem inv_some (x : Int) (h : x % P ≠ 0) : x ^ einv % P ≠ 0 := fun e => by
  have h1 := inverse x h einv einv_val
  rw [(product _ _).2 (.inr e)] at h1
  exact absurd h1 (by decide)

theorem ne_list {a b : ByteArray} (h : a ≠ b) : (a.toList == b.toList) = false := by
  rw [beq_eq_false_iff_ne, ByteArray.toList_eq, ByteArray.toList_eq]
  exact fun e => h (eq_list e)
/-- Nought: its inverse is 0. -/
theorem inverse_nought (a b : ByteArray) (ha : a.size = 32) (hb : b.size = 32) (h : N a % P = 0) :
    LowR a (noughts 32) ∧ InvR a (noughts 32) ∧ MulR a (noughts 32) (noughts 32) ∧ MulR a b (noughts 32) :=
  ⟨⟨ha, text_nought h⟩, ⟨ha, text_nought (inv_nought _ h)⟩, ⟨ha, noughts_size 32, text_nought ((product _ _).2 (.inl h))⟩, ⟨ha, hb, text_nought ((product _ _).2 (.inl h))⟩⟩
/-- All others: they make 1 with it. -/
theorem inverse_some (a : ByteArray) (ha : a.size = 32) (h : N a % P ≠ 0) :
    ∃ l i, l ≠ noughts 32 ∧ i ≠ noughts 32 ∧ LowR a l ∧ InvR a i ∧ MulR a i (sz ⟨#[1]⟩ 32) := by
  refine ⟨text (N a), text (N a ^ einv), text_some h, text_some (inv_some _ h), ⟨ha, rfl⟩, ⟨ha, rfl⟩, ha, text_size _, ?_⟩
  rw [← text_1]
  apply text_congr
  rw [N_text]
  have h1 := inverse (N a) h einv einv_val
  have h2 := emod_mul (N a) (N a) (N a ^ einv % P) (N a ^ einv) P rfl (mod2 _)
  rw [h2, h1]; rfl
theorem product_nought (a b : ByteArray) (ha : a.size = 32) (hb : b.size = 32) (h : N b % P = 0) : MulR a b (noughts 32) ∧ LowR b (noughts 32) :=
  ⟨⟨ha, hb, text_nought ((product _ _).2 (.inr h))⟩, hb, text_nought h⟩
theorem product_some (a b : ByteArray) (ha : a.size = 32) (hb : b.size = 32) (h1 : N a % P ≠ 0) (h2 : N b % P ≠ 0) : ∃ m l, m ≠ noughts 32 ∧ l ≠ noughts 32 ∧ MulR a b m ∧ LowR b l :=
  ⟨text (N a * N b), text (N b), text_some (fun e => ((product _ _).1 e).elim h1 h2), text_some h2, ⟨ha, hb, rfl⟩, hb, rfl⟩

theorem powers_plain (a b : ByteArray) (ha : a.size = 32) (hb : b.size = 32) (m n : Nat) (hm : m < 9223372036854775808) (hn : n < 9223372036854775808) :
    ∃ x y z u v q, PowR a m x ∧ PowR a n y ∧ PowR a (m + n) z ∧ PowR b m u ∧ MulR a b q ∧ PowR q m v ∧ MulR x y z ∧ MulR x u v := by
  refine ⟨text (N a ^ m), text (N a ^ n), text (N a ^ (m + n)), text (N b ^ m), text ((N a * N b) ^ m), text (N a * N b), ⟨ha, by omega, rfl⟩, ⟨ha, by omega, rfl⟩, ⟨ha, by omega, rfl⟩, ⟨hb, by omega, rfl⟩, ⟨ha, hb, rfl⟩, ⟨text_size _, by omega, ?_⟩, mulR _ _ (text_size _) (text_size _) _ ?_, mulR _ _ (text_size _) (text_size _) _ ?_⟩
  · apply text_congr
    rw [N_text, ← pow_low]
  · rw [N_text, N_text, Int.pow_add]; exact emod_mul _ _ _ _ _ (mod2 _) (mod2 _)
  · rw [N_text, N_text, Int.mul_pow]; exact emod_mul _ _ _ _ _ (mod2 _) (mod2 _)

/-- Squares, k of them. -/
def Sq (a x : ByteArray) (k : Nat) : Prop := x.size = 32 ∧ N x % P = N a ^ (2 ^ k) % P ∧ (0 < k → ∃ v, x = text v)
theorem sq_start (a : ByteArray) (h : a.size = 32) : Sq a a 0 := ⟨h, by rw [Nat.pow_zero, Int.pow_succ, Int.pow_zero, Int.one_mul], fun h => absurd h (by omega)⟩
theorem sq_step {a x : ByteArray} {k : Nat} (h : Sq a x k) : ∃ z, MulR x x z ∧ Sq a z (k + 1) := by
  obtain ⟨h1, h2, _⟩ := h
  refine ⟨text (N x * N x), ⟨h1, h1, rfl⟩, text_size _, ?_, fun _ => ⟨_, rfl⟩⟩
  rw [N_text, mod2, Nat.pow_succ, Nat.mul_comm, pow_double]
  exact emod_mul _ _ _ _ _ h2 h2
theorem sq_end {a x : ByteArray} {k : Nat} (ha : a.size = 32) (h : Sq a x k) (hk : k = 255) : PowR a 20 x := by
  obtain ⟨_, h2, h3⟩ := h
  obtain ⟨v, rfl⟩ := h3 (by omega)
  rw [N_text, mod2, fermat (N a) (2 ^ k) (by rw [hk]; decide)] at h2
  exact ⟨ha, by decide, text_congr _ _ h2.symm⟩

/-! ### Which of two is the lesser, by bytes -/
theorem nB_top : ∀ (l p : List UInt8), l.length = p.length → nB l ≤ nB p → ∀ i, i < l.length → (∀ j, i < j → l[j]? = p[j]?) → (l.getD i 0).toNat ≤ (p.getD i 0).toNat := by
  intro l
  induction l with
  | nil => intro p _ _ i hi; simp at hi
  | cons a l ih =>
    intro p hl h i hi he
    cases p with
    | nil => simp at hl
    | cons b p =>
      have hl2 : l.length = p.length := by simpa using hl
      have h2 : (a.toNat : Int) + 256 * nB l ≤ (b.toNat : Int) + 256 * nB p := h
      have ha := a.toNat_lt
      have hb := b.toNat_lt
      cases i with
      | zero =>
        have e : l = p := List.ext_getElem? fun j => by
          have := he (j + 1) (by omega)
          simpa using this
        subst e
        show a.toNat ≤ b.toNat
        omega
      | succ i =>
        have := ih p hl2 (by omega) i (by simpa using hi) (fun j hj => by
          have := he (j + 1) (by omega)
          simpa using this)
        simpa using this
theorem bt_getD (s : ByteArray) (k : Nat) (h : k < s.size) : PlainAid.bt s k = ((s.data.toList.getD k 0).toNat : Int) := by
  rw [bt_list s k h, List.getD_eq_getElem?_getD, List.getElem?_eq_getElem (by simpa using h)]
  rfl
theorem bt_eq (s t : ByteArray) (k : Nat) (hs : k < s.size) (ht : k < t.size) (h : PlainAid.bt s k = PlainAid.bt t k) : s.data.toList[k]? = t.data.toList[k]? := by
  rw [bt_list s k hs, bt_list t k ht] at h
  rw [List.getElem?_eq_getElem (by simpa using hs), List.getElem?_eq_getElem (by simpa using ht)]
  congr 1
  exact UInt8.toNat_inj.1 (by omega)
/-- Below: the bytes from n on are the same. -/
def Top (l p : ByteArray) (n : Nat) : Prop := ∀ j, n ≤ j → j < 32 → PlainAid.bt l j = PlainAid.bt p j
theorem top_le {l p : ByteArray} (hl : l.size = 32) (hp : p.size = 32) (h : N l < N p) {q : Nat} (hq : q < 32) (ht : Top l p (q + 1)) : PlainAid.bt l q ≤ PlainAid.bt p q := by
  rw [bt_getD l q (by omega), bt_getD p q (by omega)]
  have el : l.data.toList.length = 32 := by rw [Array.length_toList]; exact hl
  have ep : p.data.toList.length = 32 := by rw [Array.length_toList]; exact hp
  have h1 := nB_top l.data.toList p.data.toList (by omega) (Int.le_of_lt h) q (by omega) (fun j hj => by
    by_cases h32 : j < 32
    · exact bt_eq l p j (by omega) (by omega) (ht j (by omega) h32)
    · rw [List.getElem?_eq_none (by omega), List.getElem?_eq_none (by omega)])
  omega
theorem top_zero {l p : ByteArray} (hl : l.size = 32) (hp : p.size = 32) (h : N l < N p) : ¬ Top l p 0 := fun ht => by
  have el : l.data.toList.length = 32 := by rw [Array.length_toList]; exact hl
  have ep : p.data.toList.length = 32 := by rw [Array.length_toList]; exact hp
  have e : l.data.toList = p.data.toList := List.ext_getElem? fun j => by
    by_cases h32 : j < 32
    · exact bt_eq l p j (by omega) (by omega) (ht j (by omega) h32)
    · rw [List.getElem?_eq_none (by omega), List.getElem?_eq_none (by omega)]
  unfold N at h
  rw [e] at h
  omega
theorem top_step {l p : ByteArray} {q : Nat} (ht : Top l p (q + 1)) (h : PlainAid.bt l q = PlainAid.bt p q) : Top l p q := fun j hj h32 => by
  by_cases e : j = q
  · rw [e]; exact h
  · exact ht j (by omega) h32
/-- P, as the law writes it. -/
def PT : ByteArray := ⟨#[237]⟩ ++ ⟨(Lib.repeatL [255] 30).toArray⟩ ++ ⟨#[127]⟩
theorem PT_size : PT.size = 32 := by decide +kernel
theorem PT_val : N PT = P := by decide +kernel
theorem least_plain (a : ByteArray) (ha : a.size = 32) : ∃ l, l.size = 32 ∧ N l < N PT ∧ LowR a l ∧ LowR l l ∧ AddR a PT l ∧ LowR PT (noughts 32) := by
  refine ⟨text (N a), text_size _, ?_, ⟨ha, rfl⟩, ⟨text_size _, ?_⟩, addR _ _ ha PT_size _ ?_, PT_size, text_nought ?_⟩
  · rw [N_text, PT_val]; unfold P; omega
  · apply text_congr; rw [N_text, mod2]
  · rw [PT_val]; unfold P; omega
  · rw [PT_val]; decide
end Go.Proofs.YthabfejpejjenabDoor.num
