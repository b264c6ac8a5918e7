/-
  PLAIN MATHEMATICS OF digests (SHA-256): turns, sums, times, blocks, what stands behind a text. No program is named here.
-/
import Derived.Test.YtmbckgfpkmnlnabDoorPlainChacha
namespace Go.Proofs.YtmbckgfpkmnlnabDoor.sha
open Go.RowKit
open Go.Proofs.YtmbckgfpkmnlnabDoor.ghs (tb tb_lt tb_out tb_tx mkl mkl_length mkl_get mkl_congr tx_ext text_ext)
open Go.Proofs.YtmbckgfpkmnlnabDoor.cha (ad ad_lt rl Ws xor_lt turn_eq)

/-! ### Turns, sums -/
/-- Turned down by n. -/
def rr (n x : Nat) : Nat := rl (32 - n) x
theorem rl_bd {k x : Nat} (h0 : 0 < k) (h1 : k < 32) (h : x < 4294967296) : rl k x < 4294967296 := by
  have e : (4294967296 : Nat) = 2 ^ (32 - k) * 2 ^ k := by rw [← Nat.pow_add, show 32 - k + k = 32 from by omega]
  unfold rl
  rw [e, turn_eq]
  have hA : 0 < 2 ^ (32 - k) := Nat.pow_pos (by decide)
  have hB : 0 < 2 ^ k := Nat.pow_pos (by decide)
  have hq : x / 2 ^ (32 - k) < 2 ^ k := (Nat.div_lt_iff_lt_mul hA).2 (by rw [Nat.mul_comm, ← e]; exact h)
  have hr : x % 2 ^ (32 - k) + 1 ≤ 2 ^ (32 - k) := Nat.mod_lt _ hA
  have := Nat.mul_le_mul_right (2 ^ k) hr
  rw [Nat.add_mul, Nat.one_mul] at this
  omega
theorem rr_lt {n x : Nat} (h0 : 0 < n) (h1 : n < 32) (h : x < 4294967296) : rr n x < 4294967296 := rl_bd (by omega) (by omega) h
theorem and_lt {a b : Nat} (h : a < 4294967296) : a &&& b < 4294967296 := Nat.lt_of_le_of_lt Nat.and_le_left h
theorem or_lt {a b : Nat} (ha : a < 4294967296) (hb : b < 4294967296) : a ||| b < 4294967296 := Nat.or_lt_two_pow (n := 32) ha hb
theorem div_lt' {x : Nat} (k : Nat) (h : x < 4294967296) : x / k < 4294967296 := Nat.lt_of_le_of_lt (Nat.div_le_self _ _) h
def s0 (x : Nat) : Nat := rr 7 x ^^^ rr 18 x ^^^ x / 8
def s1 (x : Nat) : Nat := rr 17 x ^^^ rr 19 x ^^^ x / 1024
def S1 (e : Nat) : Nat := rr 6 e ^^^ rr 11 e ^^^ rr 25 e
def S0 (a : Nat) : Nat := rr 2 a ^^^ rr 13 a ^^^ rr 22 a
def ch (e f g : Nat) : Nat := (e &&& f) ^^^ ((4294967295 ^^^ e) &&& g)
def mj (a b c : Nat) : Nat := (a &&& b) ||| (a &&& c) ||| (b &&& c)
theorem s0_lt {x : Nat} (h : x < 4294967296) : s0 x < 4294967296 := xor_lt (xor_lt (rr_lt (by omega) (by omega) h) (rr_lt (by omega) (by omega) h)) (div_lt' _ h)
theorem s1_lt {x : Nat} (h : x < 4294967296) : s1 x < 4294967296 := xor_lt (xor_lt (rr_lt (by omega) (by omega) h) (rr_lt (by omega) (by omega) h)) (div_lt' _ h)

/-! ### The times -/
def t1 (l : List Nat) (x : Nat) : Nat := ad (ad (ad (l.getD 7 0) (S1 (l.getD 4 0))) (ch (l.getD 4 0) (l.getD 5 0) (l.getD 6 0))) x
def t2 (l : List Nat) : Nat := ad (S0 (l.getD 0 0)) (mj (l.getD 0 0) (l.getD 1 0) (l.getD 2 0))
def stL (l : List Nat) (x : Nat) : List Nat := [ad (t1 l x) (t2 l), l.getD 0 0, l.getD 1 0, l.getD 2 0, ad (l.getD 3 0) (t1 l x), l.getD 4 0, l.getD 5 0, l.getD 6 0]
theorem stL_length (l : List Nat) (x : Nat) : (stL l x).length = 8 := rfl
theorem stL_ok {l : List Nat} (h : Ws l) (x : Nat) : Ws (stL l x) := by
  intro y hy
  simp only [stL, List.mem_cons, List.not_mem_nil, or_false] at hy
  rcases hy with rfl | rfl | rfl | rfl | rfl | rfl | rfl | rfl
  · exact ad_lt _ _
  · exact h.get _
  · exact h.get _
  · exact h.get _
  · exact ad_lt _ _
  · exact h.get _
  · exact h.get _
  · exact h.get _
def rnd (l : List Nat) (f : Nat → Nat) : Nat → List Nat
  | 0 => l
  | t + 1 => stL (rnd l f t) (f t)
theorem rnd_length (l : List Nat) (f : Nat → Nat) (h : l.length = 8) : ∀ t, (rnd l f t).length = 8
  | 0 => h
  | _ + 1 => rfl
theorem rnd_ok {l : List Nat} (f : Nat → Nat) (h : Ws l) : ∀ t, Ws (rnd l f t)
  | 0 => h
  | t + 1 => stL_ok (rnd_ok f h t) _
theorem rnd_congr {l : List Nat} {f g : Nat → Nat} : ∀ t, (∀ j, j < t → f j = g j) → rnd l f t = rnd l g t
  | 0, _ => rfl
  | t + 1, h => by rw [rnd, rnd, rnd_congr t (fun j hj => h j (by omega)), h t (by omega)]
def kL : List Nat := [1116352408, 1899447441, 3049323471, 3921009573, 961987163, 1508970993, 2453635748, 2870763221, 3624381080, 310598401, 607225278, 1426881987, 1925078388, 2162078206, 2614888103, 3248222580, 3835390401, 4022224774, 264347078, 604807628, 770255983, 1249150122, 1555081692, 1996064986, 2554220882, 2821834349, 2952996808, 3210313671, 3336571891, 3584528711, 113926993, 338241895, 666307205, 773529912, 1294757372, 1396182291, 1695183700, 1986661051, 2177026350, 2456956037, 2730485921, 2820302411, 3259730800, 3345764771, 3516065817, 3600352804, 4094571909, 275423344, 430227734, 506948616, 659060556, 883997877, 958139571, 1322822218, 1537002063, 1747873779, 1955562222, 2024104815, 2227730452, 2361852424, 2428436474, 2756734187, 3204031479, 3329325298]
theorem kL_length : kL.length = 64 := rfl

/-! ### What a block becomes -/
def nm (f : Nat → Nat) (i : Nat) : Nat := f (4 * i) * 16777216 + f (4 * i + 1) * 65536 + f (4 * i + 2) * 256 + f (4 * i + 3)
theorem nm_lt {f : Nat → Nat} (h : ∀ j, f j < 256) (i : Nat) : nm f i < 4294967296 := by
  unfold nm
  have h0 := h (4 * i)
  have h1 := h (4 * i + 1)
  have h2 := h (4 * i + 2)
  have h3 := h (4 * i + 3)
  omega
theorem nm_congr {f g : Nat → Nat} {i : Nat} (h : ∀ j, j < 4 → f (4 * i + j) = g (4 * i + j)) : nm f i = nm g i := by
  unfold nm
  have h0 := h 0 (by omega)
  rw [Nat.add_zero] at h0
  rw [h0, h 1 (by omega), h 2 (by omega), h 3 (by omega)]
def wx (l : List Nat) (t : Nat) : Nat := ad (ad (ad (l.getD (t - 16) 0) (l.getD (t - 7) 0)) (s0 (l.getD (t - 15) 0))) (s1 (l.getD (t - 2) 0))
def wn (f : Nat → Nat) (l : List Nat) (t : Nat) : Nat := if t < 16 then nm f t else wx l t
theorem wn_lt {f : Nat → Nat} (h : ∀ j, f j < 256) (l : List Nat) (t : Nat) : wn f l t < 4294967296 := by
  unfold wn
  by_cases c : t < 16
  · rw [if_pos c]; exact nm_lt h t
  · rw [if_neg c]; exact ad_lt _ _
theorem wn_congr {f g : Nat → Nat} (h : ∀ j, j < 64 → f j = g j) (l : List Nat) (t : Nat) : wn f l t = wn g l t := by
  unfold wn
  by_cases c : t < 16
  · rw [if_pos c, if_pos c]; exact nm_congr fun j hj => h _ (by omega)
  · rw [if_neg c, if_neg c]
def ws (f : Nat → Nat) : Nat → List Nat
  | 0 => []
  | t + 1 => ws f t ++ [wn f (ws f t) t]
theorem ws_length (f : Nat → Nat) : ∀ t, (ws f t).length = t
  | 0 => rfl
  | t + 1 => by rw [ws, List.length_append, ws_length f t]; rfl
theorem ws_ok {f : Nat → Nat} (h : ∀ j, f j < 256) : ∀ t, Ws (ws f t)
  | 0 => fun x hx => by cases hx
  | t + 1 => by
    rw [ws]
    refine (ws_ok h t).append fun x hx => ?_
    rw [List.mem_singleton.1 hx]
    exact wn_lt h _ t
theorem ws_congr {f g : Nat → Nat} (h : ∀ j, j < 64 → f j = g j) : ∀ t, ws f t = ws g t
  | 0 => rfl
  | t + 1 => by
    rw [ws, ws, ws_congr h t, wn_congr h]
/-- With noughts behind, up to 64. -/
def wz (f : Nat → Nat) (t : Nat) : List Nat := ws f t ++ List.replicate (64 - t) 0
theorem wz_length (f : Nat → Nat) (t : Nat) (h : t ≤ 64) : (wz f t).length = 64 := by
  unfold wz; rw [List.length_append, ws_length, List.length_replicate]; omega
theorem wz_get (f : Nat → Nat) (t j : Nat) (h : j < t) : (wz f t).getD j 0 = (ws f t).getD j 0 := by
  unfold wz
  rw [List.getD_eq_getElem?_getD, List.getElem?_append_left (by rw [ws_length]; exact h), ← List.getD_eq_getElem?_getD]
theorem wz_set (f : Nat → Nat) (t : Nat) (h : t < 64) : (wz f t).set t (wn f (ws f t) t) = wz f (t + 1) := by
  unfold wz
  rw [List.set_append_right _ _ (by rw [ws_length]; exact Nat.le_refl _), ws_length, Nat.sub_self, show 64 - t = (64 - (t + 1)) + 1 from by omega, List.replicate_succ, List.set_cons_zero, ws, List.append_assoc]
  rfl
theorem wz_0 (f : Nat → Nat) : wz f 0 = List.replicate 64 0 := by unfold wz; rfl
theorem wz_64 (f : Nat → Nat) : wz f 64 = ws f 64 := by unfold wz; rw [Nat.sub_self, List.replicate_zero, List.append_nil]

/-! ### Blocks -/
def kw (f : Nat → Nat) (t : Nat) : Nat := ad (kL.getD t 0) ((ws f 64).getD t 0)
def comp (l : List Nat) (f : Nat → Nat) : List Nat := mkl 8 fun i => ad (l.getD i 0) ((rnd l (kw f) 64).getD i 0)
theorem comp_length (l : List Nat) (f : Nat → Nat) : (comp l f).length = 8 := mkl_length _ _
theorem comp_ok (l : List Nat) (f : Nat → Nat) : Ws (comp l f) := Ws.mkl _ _ fun _ _ => ad_lt _ _
theorem comp_congr {l : List Nat} {f g : Nat → Nat} (h : ∀ j, j < 64 → f j = g j) : comp l f = comp l g := by
  have e : kw f = kw g := by funext t; unfold kw; rw [ws_congr h]
  unfold comp
  rw [e]
def h0 : List Nat := [1779033703, 3144134277, 1013904242, 2773480762, 1359893119, 2600822924, 528734635, 1541459225]
theorem h0_ok : Ws h0 := by unfold Ws h0; decide
def stA (f : Nat → Nat) : Nat → List Nat
  | 0 => h0
  | n + 1 => comp (stA f n) fun j => f (64 * n + j)
theorem stA_length (f : Nat → Nat) : ∀ n, (stA f n).length = 8
  | 0 => rfl
  | _ + 1 => comp_length _ _
theorem stA_ok (f : Nat → Nat) : ∀ n, Ws (stA f n)
  | 0 => h0_ok
  | _ + 1 => comp_ok _ _
theorem stA_congr {f g : Nat → Nat} : ∀ n, (∀ j, j < 64 * n → f j = g j) → stA f n = stA g n
  | 0, _ => rfl
  | n + 1, h => by
    rw [stA, stA, stA_congr n (fun j hj => h j (by omega))]
    exact comp_congr fun j hj => h _ (by omega)

/-! ### Numbers in bytes, the highest first -/
def hb (x : Nat) : Nat → List Nat
  | 0 => []
  | m + 1 => x / 256 ^ m % 256 :: hb x m
theorem hb_length (x : Nat) : ∀ m, (hb x m).length = m
  | 0 => rfl
  | m + 1 => by rw [hb, List.length_cons, hb_length x m]
theorem hb_ok (x : Nat) : ∀ m, ∀ y ∈ hb x m, y < 256
  | 0, y, hy => by cases hy
  | m + 1, y, hy => by
    rcases List.mem_cons.1 hy with rfl | h
    · exact Nat.mod_lt _ (by decide)
    · exact hb_ok x m y h
def t4 : List Nat → List Nat
  | [] => []
  | x :: l => hb x 4 ++ t4 l
theorem t4_length : ∀ l : List Nat, (t4 l).length = 4 * l.length
  | [] => rfl
  | x :: l => by rw [t4, List.length_append, t4_length l, hb_length, List.length_cons]; omega
theorem t4_ok : ∀ l : List Nat, ∀ y ∈ t4 l, y < 256
  | [], y, hy => by cases hy
  | x :: l, y, hy => by
    rcases List.mem_append.1 hy with h | h
    · exact hb_ok x 4 y h
    · exact t4_ok l y h
theorem t4_append : ∀ l m : List Nat, t4 (l ++ m) = t4 l ++ t4 m
  | [], _ => rfl
  | x :: l, m => by rw [List.cons_append, t4, t4, t4_append l m, List.append_assoc]
theorem t4_one (x : Nat) : t4 [x] = hb x 4 := by rw [t4, t4, List.append_nil]

/-! ### The digest -/
/-- How many noughts. -/
def nz (n : Nat) : Nat := (119 - n % 64) % 64
theorem nz_end (n : Nat) : (n + (1 + nz n) + 8) % 64 = 0 := by unfold nz; omega
theorem nz_not (n k : Nat) (h : k < nz n) : (n + (1 + k) + 8) % 64 ≠ 0 := by unfold nz at h; omega
theorem nz_lt (n : Nat) : nz n < 64 := Nat.mod_lt _ (by decide)
def pd (n : Nat) : List Nat := [128] ++ List.replicate (nz n) 0 ++ hb (8 * n) 8
theorem pd_length (n : Nat) : (pd n).length = 9 + nz n := by
  unfold pd
  rw [List.length_append, List.length_append, List.length_replicate, hb_length, List.length_singleton]
  omega
theorem pd_ok (n : Nat) : ∀ y ∈ pd n, y < 256 := by
  intro y hy
  rcases List.mem_append.1 hy with h | h
  · rcases List.mem_append.1 h with h | h
    · rw [List.mem_singleton.1 h]; decide
    · rw [(List.mem_replicate.1 h).2]; decide
  · exact hb_ok _ 8 y h
def padT (n : Nat) : ByteArray := tx (pd n)
theorem padT_size (n : Nat) : (padT n).size = 9 + nz n := by unfold padT; rw [tx_size, pd_length]
def full (s : ByteArray) : ByteArray := s ++ padT s.size
theorem full_size (s : ByteArray) : (full s).size = s.size + (9 + nz s.size) := by unfold full; rw [ByteArray.size_append, padT_size]
theorem full_mod (s : ByteArray) : (full s).size % 64 = 0 := by
  rw [full_size]
  have := nz_end s.size
  omega
def out (l : List Nat) : ByteArray := tx (t4 l)
def shaT (s : ByteArray) : ByteArray := out (stA (tb (full s)) ((full s).size / 64))
theorem shaT_size (s : ByteArray) : (shaT s).size = 32 := by unfold shaT out; rw [tx_size, t4_length, stA_length]

/-! ### What is kept of a text -/
def restL (s : ByteArray) : List Nat := mkl 64 fun j => tb s (64 * (s.size / 64) + j)
theorem restL_length (s : ByteArray) : (restL s).length = 64 := mkl_length _ _
theorem tb_append (s t : ByteArray) (i : Nat) : tb (s ++ t) i = if i < s.size then tb s i else tb t (i - s.size) := by
  have e : nb (s ++ t) = nb s ++ nb t := by simp [nb]
  unfold tb
  rw [e, List.getD_eq_getElem?_getD, List.getD_eq_getElem?_getD, List.getD_eq_getElem?_getD]
  split
  · rw [List.getElem?_append_left (by rw [nb_length]; assumption)]
  · rw [List.getElem?_append_right (by rw [nb_length]; omega), nb_length]
theorem nb_extract (s : ByteArray) (lo hi : Nat) : nb (s.extract lo hi) = ((nb s).take hi).drop lo := by
  unfold nb
  rw [ByteArray.data_extract, Array.toList_extract, List.extract_eq_take_drop, List.map_take, List.map_drop, List.drop_take]
theorem state_same (s t : ByteArray) : stA (tb (s ++ t)) (s.size / 64) = stA (tb s) (s.size / 64) :=
  stA_congr _ fun j hj => by rw [tb_append, if_pos (by omega)]
/-- The rest, with bytes copied behind it: as many as come, and as fit. -/
theorem rest_copied (s t : ByteArray) (n : Nat) (hn : n = min (64 - s.size % 64) t.size) :
    (restL s).take (s.size % 64) ++ (nb t).take n ++ (restL s).drop (s.size % 64 + n) = mkl 64 fun j => tb (s ++ t.extract 0 n) (64 * (s.size / 64) + j) := by
  have hk : s.size % 64 < 64 := Nat.mod_lt _ (by decide)
  have l1 : ((restL s).take (s.size % 64)).length = s.size % 64 := by rw [List.length_take, restL_length]; omega
  have l2 : ((nb t).take n).length = n := by rw [List.length_take, nb_length]; omega
  have l3 : ((restL s).take (s.size % 64) ++ (nb t).take n).length = s.size % 64 + n := by rw [List.length_append, l1, l2]
  have hE : (t.extract 0 n).size = n := by rw [ByteArray.size_extract]; omega
  refine tx_ext (by rw [List.length_append, l3, List.length_drop, restL_length, mkl_length]; omega) fun j hj => ?_
  rw [List.length_append, l3, List.length_drop, restL_length] at hj
  have hj : j < 64 := by omega
  rw [mkl_get _ _ _ hj, tb_append]
  by_cases c1 : j < s.size % 64
  · rw [if_pos (by omega), List.getD_eq_getElem?_getD, List.append_assoc, List.getElem?_append_left (by omega), List.getElem?_take, if_pos c1, ← List.getD_eq_getElem?_getD]
    unfold restL
    rw [mkl_get _ _ _ hj]
  · rw [if_neg (by omega), show 64 * (s.size / 64) + j - s.size = j - s.size % 64 from by omega]
    by_cases c2 : j < s.size % 64 + n
    · rw [List.getD_eq_getElem?_getD, List.getElem?_append_left (by omega), List.getElem?_append_right (by omega), l1]
      unfold tb
      rw [nb_extract, List.drop_zero, List.getD_eq_getElem?_getD]
    · rw [List.getD_eq_getElem?_getD, List.getElem?_append_right (by omega), l3, List.getElem?_drop, ← List.getD_eq_getElem?_getD, show s.size % 64 + n + (j - (s.size % 64 + n)) = j from by omega]
      unfold restL
      rw [mkl_get _ _ _ hj, tb_out s _ (by omega), tb_out _ _ (by rw [hE]; omega)]
/-- All of a block is there, or not. -/
theorem one_more (s t : ByteArray) (n : Nat) (h0 : 0 < n) (hn : n = min (64 - s.size % 64) t.size) (hm : (s.size + n) % 64 = 0) :
    (s ++ t.extract 0 n).size / 64 = s.size / 64 + 1 ∧ stA (tb (s ++ t.extract 0 n)) (s.size / 64 + 1) = comp (stA (tb s) (s.size / 64)) (fun j => (mkl 64 fun j => tb (s ++ t.extract 0 n) (64 * (s.size / 64) + j)).getD j 0) ∧ restL (s ++ t.extract 0 n) = List.replicate 64 0 := by
  have hE : (t.extract 0 n).size = n := by rw [ByteArray.size_extract]; omega
  have hz : (s ++ t.extract 0 n).size = s.size + n := by rw [ByteArray.size_append, hE]
  have hk : s.size % 64 < 64 := Nat.mod_lt _ (by decide)
  refine ⟨by rw [hz]; omega, ?_, ?_⟩
  · rw [stA, state_same]
    exact comp_congr fun j hj => by rw [mkl_get _ _ _ hj]
  · refine tx_ext (by rw [restL_length, List.length_replicate]) fun j hj => ?_
    rw [restL_length] at hj
    unfold restL
    rw [mkl_get _ _ _ hj, tb_out _ _ (by rw [hz]; omega)]
    rw [List.getD_eq_getElem?_getD, List.getElem?_replicate, if_pos hj]
    rfl
theorem not_yet (s t : ByteArray) (n : Nat) (hn : n = min (64 - s.size % 64) t.size) (hm : (s.size + n) % 64 ≠ 0) :
    (s ++ t.extract 0 n).size / 64 = s.size / 64 ∧ restL (s ++ t.extract 0 n) = mkl 64 fun j => tb (s ++ t.extract 0 n) (64 * (s.size / 64) + j) := by
  have hE : (t.extract 0 n).size = n := by rw [ByteArray.size_extract]; omega
  have hz : (s ++ t.extract 0 n).size = s.size + n := by rw [ByteArray.size_append, hE]
  have hk : s.size % 64 < 64 := Nat.mod_lt _ (by decide)
  have e : (s ++ t.extract 0 n).size / 64 = s.size / 64 := by rw [hz]; omega
  exact ⟨e, by unfold restL; rw [e]⟩
end Go.Proofs.YtmbckgfpkmnlnabDoor.sha
