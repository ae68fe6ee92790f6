/-
  Ber: what laying a tree gives, over lists; no Go text in sight.
-/
import Derived.Test.YtefebamomdcaaaaGreatDoorK7
namespace Go.Proofs.YtefebamomdcaaaaGreatDoor
open Go.RowKit
/-- How many groups of seven bits stand ahead of a tag's last one; how many bytes a length has. -/
def kOf (t : Nat) : Nat := if t < 128 then 0 else if t < 16384 then 1 else if t < 2097152 then 2 else 3
def cOf (n : Nat) : Nat := if n < 1 then 0 else if n < 256 then 1 else if n < 65536 then 2 else if n < 16777216 then 3 else if n < 4294967296 then 4 else if n < 1099511627776 then 5 else 6
theorem kOf_ok (t : Nat) (h : t ≤ 268435455) : t / 128 ^ kOf t < 128 ∧ (∀ j, j < kOf t → 128 ≤ t / 128 ^ j) ∧ kOf t ≤ 3 := by
  unfold kOf
  repeat' split
  · exact ⟨by simpa using by omega, fun j hj => by omega, by omega⟩
  · refine ⟨by simpa using by omega, fun j hj => ?_, by omega⟩
    obtain rfl : j = 0 := by omega
    simp; omega
  · refine ⟨by simpa using by omega, fun j hj => ?_, by omega⟩
    rcases (by omega : j = 0 ∨ j = 1) with rfl | rfl <;> simp <;> omega
  · refine ⟨by simpa using by omega, fun j hj => ?_, by omega⟩
    rcases (by omega : j = 0 ∨ j = 1 ∨ j = 2) with rfl | rfl | rfl <;> simp <;> omega
theorem cOf_ok (n : Nat) (h : n < 281474976710656) : n / 256 ^ cOf n = 0 ∧ (∀ j, j < cOf n → 0 < n / 256 ^ j) ∧ cOf n ≤ 6 := by
  have h0 : ∀ m, n < m → 0 < m → n / m = 0 := fun m a b => Nat.div_eq_of_lt a
  have h1 : ∀ m, m ≤ n → 0 < m → 0 < n / m := fun m a b => Nat.div_pos a b
  unfold cOf
  repeat' split
  · exact ⟨by simpa using by omega, fun j hj => by omega, by omega⟩
  · refine ⟨h0 _ (by simpa using by omega) (by decide), fun j hj => h1 _ ?_ (Nat.pow_pos (by decide)), by omega⟩
    obtain rfl : j = 0 := by omega
    simp; omega
  · refine ⟨h0 _ (by simpa using by omega) (by decide), fun j hj => h1 _ ?_ (Nat.pow_pos (by decide)), by omega⟩
    rcases (by omega : j = 0 ∨ j = 1) with rfl | rfl <;> simp <;> omega
  · refine ⟨h0 _ (by simpa using by omega) (by decide), fun j hj => h1 _ ?_ (Nat.pow_pos (by decide)), by omega⟩
    rcases (by omega : j = 0 ∨ j = 1 ∨ j = 2) with rfl | rfl | rfl <;> simp <;> omega
  · refine ⟨h0 _ (by simpa using by omega) (by decide), fun j hj => h1 _ ?_ (Nat.pow_pos (by decide)), by omega⟩
    rcases (by omega : j = 0 ∨ j = 1 ∨ j = 2 ∨ j = 3) with rfl | rfl | rfl | rfl <;> simp <;> omega
  · refine ⟨h0 _ (by simpa using by omega) (by decide), fun j hj => h1 _ ?_ (Nat.pow_pos (by decide)), by omega⟩
    rcases (by omega : j = 0 ∨ j = 1 ∨ j = 2 ∨ j = 3 ∨ j = 4) with rfl | rfl | rfl | rfl | rfl <;> simp <;> omega
  · refine ⟨h0 _ (by simpa using by omega) (by decide), fun j hj => h1 _ ?_ (Nat.pow_pos (by decide)), by omega⟩
    rcases (by omega : j = 0 ∨ j = 1 ∨ j = 2 ∨ j = 3 ∨ j = 4 ∨ j = 5) with rfl | rfl | rfl | rfl | rfl | rfl <;> simp <;> omega
/-- What is asked of an element alone, and of one behind another. -/
def standB (x : Te) : Bool := decide (0 ≤ x.cl ∧ x.cl ≤ 3 ∧ 0 ≤ x.tg ∧ x.tg ≤ 268435455 ∧ ¬ (x.cl = 0 ∧ x.tg = 0) ∧ (x.co = true → x.d = []))
def folB (a x : Te) : Bool := decide (1 ≤ x.dp ∧ x.dp < 64 ∧ (x.dp ≤ a.dp ∨ (a.co = true ∧ x.dp = a.dp + 1)))
/-- The rest of a row behind an element. -/
def rowB : Te → List Te → Bool
  | _, [] => true
  | a, x :: r => standB x && folB a x && rowB x r
def treeB : List Te → Bool
  | [] => false
  | x :: r => decide ((x :: r).length ≤ 65536) && decide (x.dp = 0) && standB x && rowB x r
/-- Head and length of an element that is made of so many bytes. -/
def frontB (x : Te) (n : Nat) : List Int := headB x.cl x.co x.tg.toNat (kOf x.tg.toNat) ++ lenB n (cOf n)
/-- An element with its front. -/
abbrev Nd := Te × List Int
def ndL (y : Nd) : Nat := y.2.length + y.1.d.length
def byt : List Nd → Nat
  | [] => 0
  | y :: N => ndL y + byt N
theorem byt_app (N M : List Nd) : byt (N ++ M) = byt N + byt M := by
  induction N with
  | nil => simp [byt]
  | cons y N ih => simp [byt, ih]; omega
/-- What stands right behind and is deeper than d. -/
def inn (d : Int) (N : List Nd) : List Nd := N.takeWhile fun y => decide (d < y.1.dp)
def nds : List Te → List Nd
  | [] => []
  | x :: r => (x, frontB x (x.d.length + byt (inn x.dp (nds r)))) :: nds r
def bytesOf (N : List Nd) : List Int := N.flatMap fun y => y.2 ++ y.1.d
theorem bytesOf_len (N : List Nd) : (bytesOf N).length = byt N := by
  induction N with
  | nil => rfl
  | cons y N ih => unfold bytesOf at *; simp [List.flatMap_cons, byt, ndL, ih]; omega
theorem nds_len (L : List Te) : (nds L).length = L.length := by
  induction L with
  | nil => rfl
  | cons x r ih => simp [nds, ih]
theorem nds_fst (L : List Te) : (nds L).map (·.1) = L := by
  induction L with
  | nil => rfl
  | cons x r ih => simp [nds, ih]
theorem inn_le (d : Int) (N : List Nd) : byt (inn d N) ≤ byt N := by
  unfold inn
  induction N with
  | nil => simp
  | cons y N ih =>
    rw [List.takeWhile_cons]
    split
    · simp only [byt]; omega
    · simp [byt]
theorem inn_len (d : Int) (N : List Nd) : (inn d N).length ≤ N.length := (List.takeWhile_sublist _).length_le
/-- The bytes of all data. -/
def datL : List Te → Nat
  | [] => 0
  | x :: r => x.d.length + datL r
theorem frontB_len (x : Te) (n : Nat) (ht : x.tg ≤ 268435455) (hn : n < 281474976710656) : (frontB x n).length ≤ 12 ∧ 2 ≤ (frontB x n).length := by
  unfold frontB
  rw [List.length_append, headB_len, lenB_len]
  have h1 := (kOf_ok x.tg.toNat (by omega)).2.2
  have h2 := (cOf_ok n hn).2.2
  split <;> split <;> omega
theorem byt_nds (L : List Te) (ht : ∀ x ∈ L, x.tg ≤ 268435455) (hL : datL L + 12 * L.length < 281474976710656) : byt (nds L) ≤ datL L + 12 * L.length := by
  induction L with
  | nil => simp [nds, byt]
  | cons x r ih =>
    simp only [datL, List.length_cons] at hL ⊢
    have h1 := ih (fun y hy => ht y (List.mem_cons_of_mem _ hy)) (by omega)
    have h2 := inn_le x.dp (nds r)
    have h3 := frontB_len x (x.d.length + byt (inn x.dp (nds r))) (ht x (List.mem_cons_self ..)) (by omega)
    simp only [nds, byt, ndL]
    omega
/-- What the arrays by depth hold behind a row. -/
def pick (k : Int) (N : List Nd) : List Nd := (N.takeWhile fun y => decide (k ≤ y.1.dp)).dropWhile fun y => decide (k < y.1.dp)
/-- The row begins no deeper than d + 1. -/
def hdOk (d : Int) : List Nd → Prop
  | [] => True
  | y :: _ => y.1.dp ≤ d + 1
theorem pick_inn {d : Int} {N : List Nd} (h : hdOk d N) : pick (d + 1) N = inn d N := by
  unfold pick inn
  have e : (fun y : Nd => decide (d + 1 ≤ y.1.dp)) = fun y => decide (d < y.1.dp) := by
    funext y; exact decide_eq_decide.2 (by omega)
  rw [e]
  cases N with
  | nil => rfl
  | cons y N =>
    rw [List.takeWhile_cons]
    split
    · rw [List.dropWhile_cons, if_neg (by simp [hdOk] at h; simpa using h)]
    · rfl
theorem pick_in0 {y : Nd} {N : List Nd} : pick (y.1.dp + 1) (y :: N) = [] := by
  unfold pick
  rw [List.takeWhile_cons, if_neg (by simp; omega)]
  rfl
theorem pick_far {y : Nd} {N : List Nd} {k : Int} (h : y.1.dp < k) : pick k (y :: N) = [] := by
  unfold pick
  rw [List.takeWhile_cons, if_neg (by simpa using h)]
  rfl
theorem pick_far' {d : Int} {N : List Nd} (h : hdOk d N) {k : Int} (hk : d + 1 < k) : pick k N = [] := by
  cases N with
  | nil => rfl
  | cons y N => exact pick_far (by simp [hdOk] at h; omega)
theorem pick_near {y : Nd} {N : List Nd} {k : Int} (h : k < y.1.dp) : pick k (y :: N) = pick k N := by
  unfold pick
  rw [List.takeWhile_cons, if_pos (by simp; omega), List.dropWhile_cons, if_pos (by simpa using h)]
theorem pick_at {y : Nd} {N : List Nd} : pick y.1.dp (y :: N) = y :: inn y.1.dp N ++ pick y.1.dp N := by
  unfold pick inn
  rw [List.takeWhile_cons, if_pos (by simp), List.dropWhile_cons, if_neg (by simp)]
  rw [List.cons_append]
  congr 1
  generalize y.1.dp = d
  induction N with
  | nil => rfl
  | cons z N ih =>
    rw [List.takeWhile_cons, List.takeWhile_cons]
    by_cases h1 : d < z.1.dp
    · rw [if_pos (by simp; omega), if_pos (by simpa using h1), List.dropWhile_cons, if_pos (by simpa using h1), List.cons_append, ← ih]
    · by_cases h2 : d ≤ z.1.dp
      · rw [if_pos (by simpa using h2), if_neg (by simpa using h1), List.dropWhile_cons, if_neg (by simpa using h1)]; rfl
      · rw [if_neg (by simpa using h2), if_neg (by simpa using h1)]; rfl
theorem rowB_hd {a : Te} {r : List Te} (h : rowB a r = true) : hdOk a.dp (nds r) := by
  cases r with
  | nil => trivial
  | cons x r =>
    simp only [rowB, Bool.and_eq_true, folB, decide_eq_true_eq] at h
    show x.dp ≤ a.dp + 1
    omega
theorem rowB_deep {a : Te} {r : List Te} (h : rowB a r = true) : ∀ x ∈ r, 1 ≤ x.dp ∧ x.dp < 64 := by
  induction r generalizing a with
  | nil => intro x hx; cases hx
  | cons y r ih =>
    simp only [rowB, Bool.and_eq_true, folB, decide_eq_true_eq] at h
    intro x hx
    rcases List.mem_cons.1 hx with rfl | hx
    · omega
    · exact ih h.2 x hx
theorem inn_all {d : Int} {N : List Nd} (h : ∀ y ∈ N, d < y.1.dp) : inn d N = N := by
  unfold inn
  induction N with
  | nil => rfl
  | cons y N ih => rw [List.takeWhile_cons, if_pos (by simpa using h y (List.mem_cons_self ..)), ih fun z hz => h z (List.mem_cons_of_mem _ hz)]
/-- What laying a row tells. -/
def encS (L : List Te) : Int ⊕ List Int := if treeB L = true then (if 16777216 < byt (nds L) then .inl 3 else .inr (bytesOf (nds L))) else .inl 35
theorem tree_byt {x : Te} {r : List Te} (h : treeB (x :: r) = true) : inn x.dp (nds r) = nds r := by
  simp only [treeB, Bool.and_eq_true, decide_eq_true_eq] at h
  have h1 := rowB_deep h.2
  rw [h.1.1.2]
  refine inn_all fun y hy => ?_
  have : y.1 ∈ (nds r).map (·.1) := List.mem_map_of_mem hy
  rw [nds_fst] at this
  have := h1 y.1 this
  omega
end Go.Proofs.YtefebamomdcaaaaGreatDoor
/-
  Ber: a tree that is laid is read as it was: over lists of bytes; no Go text in sight.
-/
namespace Go.Proofs.YtefebamomdcaaaaGreatDoor
open Go.RowKit
theorem fold8_at' {M : List Int} (i k : Nat) {x : Int} (h : M.getD (i + k) 0 = x) : fold8 M i (k + 1) = min (fold8 M i k * 256 + x) 16777217 := by rw [fold8, h]
theorem blen_lenB {M : List Int} {i : Nat} {co : Bool} (n l : Nat) (hA : At M i (lenB n l)) (hl : n / 256 ^ l = 0) (hl1 : ∀ j, j < l → 0 < n / 256 ^ j) (hl8 : l ≤ 6) (hn : n ≤ 16777216) (hM : i + (lenB n l).length + n ≤ M.length) :
    blen M i co = .inr ((n : Int), (i + (lenB n l).length)) := by
  rw [lenB_len] at hM ⊢
  by_cases h : n < 128
  · rw [if_pos h] at hM ⊢
    have hx := hA.2 0 (by rw [lenB_len, if_pos h]; omega)
    rw [show (lenB n l).getD 0 0 = (n : Int) by unfold lenB; rw [if_pos h]; rfl, Nat.add_zero] at hx
    unfold blen
    rw [if_neg (by omega), hx, if_neg (by omega), if_neg (by omega), if_pos (by omega), if_neg (by omega)]
  · rw [if_neg h] at hM ⊢
    have hB : lenB n l = (128 + (l : Int)) :: tb n l l := by unfold lenB; rw [if_neg h]
    rw [hB] at hA
    have hx := hA.2 0 (by simp)
    rw [Nat.add_zero] at hx
    have hx : M.getD i 0 = 128 + (l : Int) := by rw [hx]; rfl
    have hl0 : 0 < l := by
      by_cases h0 : l = 0
      · subst h0; simp at hl; omega
      · omega
    have hg : ∀ q, q < l → M.getD (i + 1 + q) 0 = by8 n (l - 1 - q) := by
      intro q hq
      have := hA.2 (q + 1) (by rw [List.length_cons, tb_len]; omega)
      rw [show i + (q + 1) = i + 1 + q by omega] at this
      rw [this]
      have h2 := tb_get n l l q hq
      simpa using h2
    have hf : ∀ q, q ≤ l → fold8 M (i + 1) q = ((n / 256 ^ (l - q) : Nat) : Int) := by
      intro q
      induction q with
      | zero => intro _; simp only [fold8]; rw [Nat.sub_zero, hl]; rfl
      | succ q ih =>
        intro hq
        rw [fold8_at' (i + 1) q (hg q (by omega)), ih (by omega)]
        have h3 := by8_step n (l - 1 - q)
        rw [show l - 1 - q + 1 = l - q by omega] at h3
        have h4 : n / 256 ^ (l - 1 - q) ≤ n := Nat.div_le_self _ _
        rw [show l - (q + 1) = l - 1 - q by omega]
        unfold by8
        omega
    have hfl := hf l (Nat.le_refl _)
    rw [Nat.sub_self, Nat.pow_zero, Nat.div_one] at hfl
    unfold blen
    rw [if_neg (by omega), hx, if_neg (by omega), if_neg (by omega), if_neg (by omega), show (128 + (l : Int) - 128).toNat = l by omega, if_neg (by omega), hfl, if_neg (by omega)]
    refine congrArg Sum.inr (Prod.ext rfl ?_)
    simp only []; omega
theorem At.cut {M : List Int} {p u : Nat} {e : List Int} (h : At M p e) (hu : p + e.length ≤ u) : At (M.take u) p e := by
  obtain ⟨h1, h2⟩ := h
  refine ⟨by rw [List.length_take]; omega, fun q hq => ?_⟩
  rw [take_getD (by omega)]
  exact h2 q hq
/-- The first element of what is laid is read. -/
theorem rd_one {M : List Int} {p u m d : Nat} {x : Te} {r : List Te} (hA : At M p (bytesOf (nds (x :: r)))) (hd64 : d < 64) (hm : m < 65536) (hst : standB x = true) (hu : u ≤ M.length) (hroom : p + (frontB x (x.d.length + byt (inn x.dp (nds r)))).length + (x.d.length + byt (inn x.dp (nds r))) ≤ u) (hbig : x.d.length + byt (inn x.dp (nds r)) ≤ 16777216) :
    belS M p u m d = .inr (x.tg, ((x.d.length + byt (inn x.dp (nds r)) : Nat) : Int), p + (frontB x (x.d.length + byt (inn x.dp (nds r)))).length) ∧ decide (M.getD p 0 / 32 % 2 = 1) = x.co ∧ M.getD p 0 / 64 = x.cl ∧ At M (p + (frontB x (x.d.length + byt (inn x.dp (nds r)))).length) (x.d ++ bytesOf (nds r)) := by
  obtain ⟨n, hn⟩ : ∃ n, x.d.length + byt (inn x.dp (nds r)) = n := ⟨_, rfl⟩
  have hs := hst
  unfold standB at hs
  simp only [decide_eq_true_eq] at hs
  have hB : bytesOf (nds (x :: r)) = frontB x n ++ (x.d ++ bytesOf (nds r)) := by
    unfold bytesOf
    simp only [nds, List.flatMap_cons, hn, List.append_assoc]
  rw [hB] at hA
  rw [hn] at hroom hbig ⊢
  have hF := hA.left
  have hD := hA.right
  have hfl : (frontB x n).length = (headB x.cl x.co x.tg.toNat (kOf x.tg.toNat)).length + (lenB n (cOf n)).length := by unfold frontB; rw [List.length_append]
  have hk := kOf_ok x.tg.toNat (by omega)
  have hc := cOf_ok n (by omega)
  have hF1 : At M p (headB x.cl x.co x.tg.toNat (kOf x.tg.toNat)) := At.left (b := lenB n (cOf n)) hF
  have hF2 : At M (p + (headB x.cl x.co x.tg.toNat (kOf x.tg.toNat)).length) (lenB n (cOf n)) := At.right (a := headB x.cl x.co x.tg.toNat (kOf x.tg.toNat)) hF
  have hl2 : 1 ≤ (headB x.cl x.co x.tg.toNat (kOf x.tg.toNat)).length := by rw [headB_len]; split <;> omega
  have hho : headOk x.cl ((x.tg.toNat : Nat) : Int) = true := by unfold headOk; simp only [decide_eq_true_eq]; omega
  have ht := tagS_head x.cl x.co x.tg.toNat (kOf x.tg.toNat) (hF1.cut (u := u) (by omega)) hho hk.1 hk.2.1
  have hlen : (M.take u).length = u := by rw [List.length_take]; omega
  have hb := blen_lenB (co := x.co) n (cOf n) (hF2.cut (u := u) (by omega)) hc.1 hc.2.1 hc.2.2 hbig (by rw [hlen]; omega)
  have hp0 : (M.take u).getD p 0 = M.getD p 0 := take_getD (by omega)
  rw [hp0] at ht
  refine ⟨?_, ht.2.2, ht.2.1, hD⟩
  rw [belS_at (by omega) (by omega) (by omega) ht.1, ht.2.2, hb]
  simp only []
  refine congrArg Sum.inr (Prod.ext ?_ (Prod.ext rfl ?_))
  · simp only []; omega
  · simp only []; omega
/-- The parts about what is to be read at p, when so many are open. -/
def pts (p : Nat) (R : List Te) : Nat → List Prt
  | 0 => []
  | k + 1 => (false, p + byt (inn (k : Int) (nds R))) :: pts p R k
theorem pts_len (p : Nat) (R : List Te) : ∀ k, (pts p R k).length = k
  | 0 => rfl
  | k + 1 => by simp [pts, pts_len p R k]
theorem pts_pop {M : List Int} {p : Nat} {R : List Te} {L : List Te} {d : Nat} : ∀ k, d ≤ k → (∀ i, d ≤ i → i < k → byt (inn (i : Int) (nds R)) = 0) → prC M p (pts p R k) L = prC M p (pts p R d) L
  | 0, h, _ => by rw [show d = 0 by omega]
  | k + 1, h, hz => by
    by_cases he : d = k + 1
    · rw [he]
    · have h0 := hz k (by omega) (by omega)
      show prC M p ((false, p + byt (inn (k : Int) (nds R))) :: pts p R k) L = _
      rw [h0, prC_pop (by simp [ends])]
      exact pts_pop k (by omega) fun i h1 h2 => hz i h1 (by omega)
theorem inn_cons_near {d : Int} {y : Nd} {N : List Nd} (h : d < y.1.dp) : inn d (y :: N) = y :: inn d N := by
  unfold inn; rw [List.takeWhile_cons, if_pos (by simpa using h)]
theorem inn_cons_far {d : Int} {y : Nd} {N : List Nd} (h : ¬ d < y.1.dp) : inn d (y :: N) = [] := by
  unfold inn; rw [List.takeWhile_cons, if_neg (by simpa using h)]
theorem inn_mono {d e : Int} (h : d ≤ e) (N : List Nd) : byt (inn e N) ≤ byt (inn d N) := by
  induction N with
  | nil => exact Nat.le_refl _
  | cons y N ih =>
    by_cases h1 : e < y.1.dp
    · rw [inn_cons_near h1, inn_cons_near (by omega)]; simp only [byt]; omega
    · rw [inn_cons_far h1]; simp [byt]
theorem pts_step {p p' : Nat} {x : Te} {r : List Te} (hp : p' = p + ndL (x, frontB x (x.d.length + byt (inn x.dp (nds r))))) : ∀ d : Nat, (d : Int) ≤ x.dp → pts p (x :: r) d = pts p' r d
  | 0, _ => rfl
  | d + 1, h => by
    show (false, p + byt (inn (d : Int) (nds (x :: r)))) :: pts p (x :: r) d = (false, p' + byt (inn (d : Int) (nds r))) :: pts p' r d
    rw [pts_step hp d (by omega)]
    congr 2
    rw [nds, inn_cons_near (by simp only []; omega)]
    simp only [byt]
    omega
theorem front_pos (x : Te) (n : Nat) : 0 < (frontB x n).length := by
  unfold frontB
  rw [List.length_append, headB_len]
  split <;> omega
/-- An element and its reading: what behind it is read. -/
theorem rd_step {M : List Int} {p u d k : Nat} {x : Te} {r L : List Te} (hA : At M p (bytesOf (nds (x :: r)))) (hd : x.dp = d) (hd64 : d < 64) (hL : L.length < 65536) (hst : standB x = true) (hu : u ≤ M.length) (hroom : p + (frontB x (x.d.length + byt (inn x.dp (nds r)))).length + (x.d.length + byt (inn x.dp (nds r))) ≤ u) (hbig : M.length ≤ 16777216)
    (hk1 : x.co = true → k = d + 1) (hk0 : x.co = false → k = d ∧ byt (inn x.dp (nds r)) = 0) :
    pr M p u (pts p (x :: r) d) L = prC M (p + ndL (x, frontB x (x.d.length + byt (inn x.dp (nds r))))) (pts (p + ndL (x, frontB x (x.d.length + byt (inn x.dp (nds r))))) r k) (L ++ [x]) ∧ At M (p + ndL (x, frontB x (x.d.length + byt (inn x.dp (nds r))))) (bytesOf (nds r)) := by
  have h1 := rd_one (m := L.length) hA hd64 hL hst hu hroom (by omega)
  obtain ⟨b1, b2, b3, b4⟩ := h1
  have hs := hst
  unfold standB at hs
  simp only [decide_eq_true_eq] at hs
  obtain ⟨F, hF⟩ : ∃ F, (frontB x (x.d.length + byt (inn x.dp (nds r)))).length = F := ⟨_, rfl⟩
  have hN : ndL (x, frontB x (x.d.length + byt (inn x.dp (nds r)))) = F + x.d.length := by unfold ndL; simp only []; omega
  have hps := pts_step (p := p) (x := x) (r := r) rfl d (by omega)
  rw [hN] at hps ⊢
  rw [hF] at b1 b4 hroom
  have hR := b4.right
  refine ⟨?_, by rw [← Nat.add_assoc]; exact hR⟩
  rw [pr_ok (by omega) (by rw [pts_len]; exact b1), pts_len]
  have hdt := b4.left.take
  have hE : belE M p d x.tg ((x.d.length + byt (inn x.dp (nds r)) : Nat) : Int) (p + F) = x := by
    unfold belE
    rw [b2, b3]
    obtain ⟨dp, cl, tg, co, dd⟩ := x
    simp only [] at hd hs hk0 b2 hdt ⊢
    subst hd
    congr 1
    cases co with
    | true =>
      have := hs.2.2.2.2.2 rfl
      rw [if_pos (by simpa using b2), this]
    | false =>
      have := (hk0 rfl).2
      rw [if_neg (by simpa using b2), this, Int.toNat_natCast, Nat.add_zero, hdt]
  rw [hE, hps]
  unfold belP belT
  cases hco : x.co with
  | true =>
    rw [hco] at b2
    have hx0 : x.d = [] := hs.2.2.2.2.2 hco
    rw [if_pos (by simpa using b2), if_pos (by simpa using b2), if_neg (by omega), hk1 hco]
    rw [hx0]
    simp only [List.length_nil, Nat.add_zero, Nat.zero_add, pts, Int.toNat_natCast, hd]
  | false =>
    rw [hco] at b2
    rw [if_neg (by simpa using b2), if_neg (by simpa using b2), (hk0 hco).1, (hk0 hco).2]
    simp only [Nat.add_zero, Int.toNat_natCast, Nat.add_assoc]
theorem rowB_shut {x : Te} {r : List Te} (h : rowB x r = true) (hc : x.co = false) : byt (inn x.dp (nds r)) = 0 := by
  cases r with
  | nil => rfl
  | cons y r =>
    simp only [rowB, Bool.and_eq_true, folB, decide_eq_true_eq] at h
    rw [nds, inn_cons_far]
    · rfl
    · simp only []
      have := h.1.2.2.2
      simp [hc] at this
      omega
theorem rd_all {M : List Int} (hbig : M.length ≤ 16777216) : ∀ (R : List Te) (a : Te) (p k : Nat) (L : List Te), rowB a R = true → At M p (bytesOf (nds R)) → p + byt (nds R) = M.length → (a.co = true → (k : Int) = a.dp + 1) → (a.co = false → (k : Int) = a.dp) → L.length + R.length ≤ 65536 → prC M p (pts p R k) L = .inr (M.length, L ++ R)
  | [], a, p, k, L, _, _, hp, _, _, _ => by
    rw [pts_pop (d := 0) k (by omega) fun i _ _ => rfl]
    show prC M p [] L = _
    rw [prC_end, List.append_nil]
    simp only [nds, byt, Nat.add_zero] at hp
    rw [hp]
  | x :: r, a, p, k, L, hr, hA, hp, hk1, hk0, hL => by
    have hr0 := hr
    simp only [rowB, Bool.and_eq_true] at hr
    obtain ⟨⟨hst, hf⟩, hr2⟩ := hr
    simp only [folB, decide_eq_true_eq] at hf
    obtain ⟨d, hd⟩ : ∃ d : Nat, x.dp = d := ⟨x.dp.toNat, by omega⟩
    have hdk : d ≤ k := by
      cases hc : a.co with
      | true => have := hk1 hc; omega
      | false => have := hk0 hc; simp [hc] at hf; omega
    obtain ⟨e, rfl⟩ : ∃ e, d = e + 1 := ⟨d - 1, by omega⟩
    rw [pts_pop (d := e + 1) k hdk fun i h1 h2 => by rw [nds, inn_cons_far (by simp only []; omega)]; rfl]
    have hi : inn (e : Int) (nds (x :: r)) = (x, frontB x (x.d.length + byt (inn x.dp (nds r)))) :: inn (e : Int) (nds r) := by rw [nds, inn_cons_near (by simp only []; omega)]
    have hfp := front_pos x (x.d.length + byt (inn x.dp (nds r)))
    obtain ⟨F, hF⟩ : ∃ F, (frontB x (x.d.length + byt (inn x.dp (nds r)))).length = F := ⟨_, rfl⟩
    have hN : ndL (x, frontB x (x.d.length + byt (inn x.dp (nds r)))) = F + x.d.length := by unfold ndL; simp only []; omega
    have hmo := inn_mono (d := (e : Int)) (e := x.dp) (by omega) (nds r)
    have hle := inn_le (e : Int) (nds r)
    have hbn : byt (nds (x :: r)) = F + x.d.length + byt (nds r) := by rw [nds]; simp only [byt]; omega
    have hu : byt (inn (e : Int) (nds (x :: r))) = F + x.d.length + byt (inn (e : Int) (nds r)) := by rw [hi]; simp only [byt]; omega
    have hs := rd_step (k := if x.co = true then e + 1 + 1 else e + 1) (u := p + byt (inn (e : Int) (nds (x :: r)))) (L := L) hA hd (by omega) (by simp only [List.length_cons] at hL; omega) hst (by omega) (by omega) hbig (fun h => by rw [if_pos h]) (fun h => ⟨by rw [if_neg (by simp [h])], rowB_shut hr2 h⟩)
    show prC M p ((false, p + byt (inn (e : Int) (nds (x :: r)))) :: pts p (x :: r) e) L = _
    rw [prC_on (by simp [ends]; omega)]
    refine Eq.trans hs.1 ?_
    rw [rd_all hbig r x _ _ (L ++ [x]) hr2 hs.2 (by omega) (fun h => by rw [if_pos h]; omega) (fun h => by rw [if_neg (by simp [h])]; omega) (by simp only [List.length_append, List.length_cons, List.length_nil] at hL ⊢; omega)]
    simp
/-- A tree that is laid is read as it was. -/
theorem parse_laid {L : List Te} (hT : treeB L = true) (hb : byt (nds L) ≤ 16777216) : parseS (bytesOf (nds L)) = .inr L := by
  have hlen := bytesOf_len (nds L)
  cases L with
  | nil => cases hT
  | cons x r =>
    simp only [treeB, Bool.and_eq_true, decide_eq_true_eq] at hT
    obtain ⟨⟨⟨h1, h2⟩, h3⟩, h4⟩ := hT
    have hin : inn x.dp (nds r) = nds r := tree_byt (by simp only [treeB, Bool.and_eq_true, decide_eq_true_eq]; exact ⟨⟨⟨h1, h2⟩, h3⟩, h4⟩)
    unfold parseS
    rw [if_neg (by omega)]
    have hA : At (bytesOf (nds (x :: r))) 0 (bytesOf (nds (x :: r))) := ⟨by omega, fun q hq => by rw [Nat.zero_add]⟩
    have hbn : byt (nds (x :: r)) = ndL (x, frontB x (x.d.length + byt (inn x.dp (nds r)))) + byt (nds r) := by rw [nds]; simp only [byt]
    have hs := rd_step (d := 0) (p := 0) (k := if x.co = true then 1 else 0) (u := (bytesOf (nds (x :: r))).length) (L := []) hA h2 (by omega) (by simp) h3 (Nat.le_refl _) (by rw [hlen, hbn]; unfold ndL; simp only []; rw [hin]; omega) (by omega) (fun h => by rw [if_pos h]) (fun h => ⟨by rw [if_neg (by simp [h])], rowB_shut h4 h⟩)
    have h5 : pr (bytesOf (nds (x :: r))) 0 (bytesOf (nds (x :: r))).length [] [] = .inr ((bytesOf (nds (x :: r))).length, x :: r) := by
      refine Eq.trans hs.1 ?_
      rw [rd_all (by omega) r x _ _ ([] ++ [x]) h4 hs.2 (by omega) (fun h => by rw [if_pos h]; omega) (fun h => by rw [if_neg (by simp [h])]; omega) (by simp at h1 ⊢; omega)]
      simp
    rw [h5]
    simp
end Go.Proofs.YtefebamomdcaaaaGreatDoor
/-
  Ber: elements held against each other node by node, as their bytes are: over lists; no Go text in sight.
-/
namespace Go.Proofs.YtefebamomdcaaaaGreatDoor
open Go.RowKit
/-- Two rows of bytes held against each other. -/
def cmpB : List Int → List Int → Int
  | [], [] => 0
  | [], _ :: _ => -1
  | _ :: _, [] => 1
  | x :: a, y :: b => if x < y then -1 else if y < x then 1 else cmpB a b
theorem cmpB_eq : ∀ {a b : List Int}, cmpB a b = 0 ↔ a = b
  | [], [] => by simp [cmpB]
  | [], _ :: _ => by simp [cmpB]
  | _ :: _, [] => by simp [cmpB]
  | x :: a, y :: b => by
    rw [cmpB]
    split
    · simp; omega
    · split
      · simp; omega
      · rw [cmpB_eq]
        have : x = y := by omega
        simp [this]
theorem cmpB_self (a : List Int) : cmpB a a = 0 := cmpB_eq.2 rfl
theorem cmpB_range : ∀ (a b : List Int), cmpB a b = -1 ∨ cmpB a b = 0 ∨ cmpB a b = 1
  | [], [] => by simp [cmpB]
  | [], _ :: _ => by simp [cmpB]
  | _ :: _, [] => by simp [cmpB]
  | x :: a, y :: b => by
    rw [cmpB]
    split
    · simp
    · split
      · simp
      · exact cmpB_range a b
theorem cmpB_swap : ∀ (a b : List Int), cmpB b a = -cmpB a b
  | [], [] => by simp [cmpB]
  | [], _ :: _ => by simp [cmpB]
  | _ :: _, [] => by simp [cmpB]
  | x :: a, y :: b => by
    rw [cmpB, cmpB]
    split
    · rw [if_neg (by omega)]
      try rfl
    · split
      · rfl
      · exact cmpB_swap a b
theorem cmpB_trans : ∀ {a b c : List Int}, cmpB a b < 0 → cmpB b c < 0 → cmpB a c < 0
  | [], [], _, h, _ => by simp [cmpB] at h
  | _, _ :: _, [], _, h => by simp [cmpB] at h
  | [], _ :: _, _ :: _, _, _ => by simp [cmpB]
  | _ :: _, [], _, h, _ => by simp [cmpB] at h
  | x :: a, y :: b, z :: c, h1, h2 => by
    rw [cmpB] at h1 h2 ⊢
    split at h1
    · split at h2
      · rw [if_pos (by omega)]; omega
      · split at h2
        · omega
        · rw [if_pos (by omega)]; omega
    · split at h1
      · omega
      · split at h2
        · rw [if_pos (by omega)]; omega
        · split at h2
          · omega
          · rw [if_neg (by omega), if_neg (by omega)]
            exact cmpB_trans h1 h2
theorem cmpB_pre (c a b : List Int) : cmpB (c ++ a) (c ++ b) = cmpB a b := by
  induction c with
  | nil => rfl
  | cons x c ih => rw [List.cons_append, List.cons_append, cmpB, if_neg (by omega), if_neg (by omega), ih]
/-- They part at a byte. -/
def Prt2 (a b : List Int) : Prop := ∃ c x y p q, a = c ++ x :: p ∧ b = c ++ y :: q ∧ x ≠ y
theorem cmpB_part {a b : List Int} (h : Prt2 a b) (A B : List Int) : cmpB (a ++ A) (b ++ B) = cmpB a b := by
  obtain ⟨c, x, y, p, q, rfl, rfl, hne⟩ := h
  rw [List.append_assoc, List.append_assoc, cmpB_pre, cmpB_pre, List.cons_append, List.cons_append, cmpB, cmpB]
  by_cases h : x < y
  · rw [if_pos h, if_pos h]
  · rw [if_neg h, if_neg h, if_pos (by omega), if_pos (by omega)]
theorem part_or : ∀ (a b : List Int), a = b ∨ (∃ r, r ≠ [] ∧ a = b ++ r) ∨ (∃ r, r ≠ [] ∧ b = a ++ r) ∨ Prt2 a b
  | [], [] => .inl rfl
  | [], y :: b => .inr (.inr (.inl ⟨y :: b, by simp, rfl⟩))
  | x :: a, [] => .inr (.inl ⟨x :: a, by simp, rfl⟩)
  | x :: a, y :: b => by
    by_cases h : x = y
    · subst h
      rcases part_or a b with rfl | ⟨r, h1, rfl⟩ | ⟨r, h1, rfl⟩ | ⟨c, u, v, p, q, rfl, rfl, hne⟩
      · exact .inl rfl
      · exact .inr (.inl ⟨r, h1, rfl⟩)
      · exact .inr (.inr (.inl ⟨r, h1, rfl⟩))
      · exact .inr (.inr (.inr ⟨x :: c, u, v, p, q, rfl, rfl, hne⟩))
    · exact .inr (.inr (.inr ⟨[], x, y, a, b, rfl, rfl, h⟩))
theorem part_len {a b : List Int} (hl : a.length = b.length) (hne : a ≠ b) : Prt2 a b := by
  rcases part_or a b with h | ⟨r, h1, h⟩ | ⟨r, h1, h⟩ | h
  · exact absurd h hne
  · exfalso; have := congrArg List.length h; rw [List.length_append] at this; have : r.length ≠ 0 := fun h0 => h1 (List.eq_nil_of_length_eq_zero h0); omega
  · exfalso; have := congrArg List.length h; rw [List.length_append] at this; have : r.length ≠ 0 := fun h0 => h1 (List.eq_nil_of_length_eq_zero h0); omega
  · exact h
theorem lenB_pre {n m : Nat} {r A : List Int} (h : lenB n (cOf n) ++ A = lenB m (cOf m) ++ r) (hn : n < 281474976710656) (hm : m < 281474976710656) : n = m := by
  by_cases h1 : n < 128
  · have e1 : lenB n (cOf n) = [(n : Int)] := by unfold lenB; rw [if_pos h1]
    rw [e1] at h
    by_cases h2 : m < 128
    · have e2 : lenB m (cOf m) = [(m : Int)] := by unfold lenB; rw [if_pos h2]
      rw [e2] at h
      simp only [List.cons_append, List.nil_append, List.cons.injEq] at h
      omega
    · have e2 : lenB m (cOf m) = (128 + (cOf m : Int)) :: tb m (cOf m) (cOf m) := by unfold lenB; rw [if_neg h2]
      rw [e2] at h
      simp only [List.cons_append, List.nil_append, List.cons.injEq] at h
      omega
  · have e1 : lenB n (cOf n) = (128 + (cOf n : Int)) :: tb n (cOf n) (cOf n) := by unfold lenB; rw [if_neg h1]
    rw [e1] at h
    by_cases h2 : m < 128
    · have e2 : lenB m (cOf m) = [(m : Int)] := by unfold lenB; rw [if_pos h2]
      rw [e2] at h
      simp only [List.cons_append, List.nil_append, List.cons.injEq] at h
      omega
    · have e2 : lenB m (cOf m) = (128 + (cOf m : Int)) :: tb m (cOf m) (cOf m) := by unfold lenB; rw [if_neg h2]
      rw [e2] at h
      simp only [List.cons_append, List.cons.injEq] at h
      have hc : cOf n = cOf m := by omega
      have h3 : tb n (cOf n) (cOf n) = tb m (cOf m) (cOf m) := List.append_inj_left h.2 (by rw [tb_len, tb_len, hc])
      have val : ∀ k c, k / 256 ^ c = 0 → ∀ i, i ≤ c → (tb k c i).foldl (fun (s : Int) x => s * 256 + x) 0 = ((k / 256 ^ (c - i) : Nat) : Int) := by
        intro k c hk i
        induction i with
        | zero => intro _; simp only [tb, List.foldl_nil, Nat.sub_zero, hk]; rfl
        | succ i ih =>
          intro hi
          simp only [tb, List.foldl_append, List.foldl_cons, List.foldl_nil]
          rw [ih (by omega)]
          have h4 := by8_step k (c - 1 - i)
          rw [show c - 1 - i + 1 = c - i by omega] at h4
          rw [show c - (i + 1) = c - 1 - i by omega]
          unfold by8
          omega
      have v1 := val n _ (cOf_ok n hn).1 _ (Nat.le_refl _)
      have v2 := val m _ (cOf_ok m hm).1 _ (Nat.le_refl _)
      rw [h3, v2] at v1
      simp at v1
      omega
/-- A front is no beginning of another one. -/
theorem front_pre {x y : Te} {n m : Nat} {r A : List Int} (hx : standB x = true) (hy : standB y = true) (hn : n < 281474976710656) (hm : m < 281474976710656) (h : frontB x n ++ A = frontB y m ++ r) : x.cl = y.cl ∧ x.tg = y.tg ∧ x.co = y.co ∧ n = m := by
  have hs := hx
  have ht := hy
  unfold standB at hs ht
  simp only [decide_eq_true_eq] at hs ht
  obtain ⟨M, hM⟩ : ∃ M, frontB x n ++ A = M := ⟨_, rfl⟩
  have at0 : ∀ (a b : List Int), a ++ b = M → At M 0 a := fun a b e => by
    subst e
    refine ⟨by simp, fun q hq => ?_⟩
    rw [Nat.zero_add]
    simp [List.getD_eq_getElem?_getD, List.getElem?_append_left hq]
  have hk1 := kOf_ok x.tg.toNat (by omega)
  have hk2 := kOf_ok y.tg.toNat (by omega)
  have a1 : At M 0 (headB x.cl x.co x.tg.toNat (kOf x.tg.toNat)) := at0 _ (lenB n (cOf n) ++ A) (by rw [← hM]; unfold frontB; rw [List.append_assoc])
  have a2 : At M 0 (headB y.cl y.co y.tg.toNat (kOf y.tg.toNat)) := at0 _ (lenB m (cOf m) ++ r) (by rw [← hM, h]; unfold frontB; rw [List.append_assoc])
  have t1 := tagS_head x.cl x.co x.tg.toNat _ a1 (by unfold headOk; simp only [decide_eq_true_eq]; omega) hk1.1 hk1.2.1
  have t2 := tagS_head y.cl y.co y.tg.toNat _ a2 (by unfold headOk; simp only [decide_eq_true_eq]; omega) hk2.1 hk2.2.1
  have e1 : x.cl = y.cl := by rw [← t1.2.1, t2.2.1]
  have e3 : x.co = y.co := by rw [← t1.2.2, t2.2.2]
  have e2 : x.tg = y.tg := by
    have := t1.1.symm.trans t2.1
    simp only [Sum.inr.injEq, Prod.mk.injEq] at this
    omega
  refine ⟨e1, e2, e3, ?_⟩
  unfold frontB at h
  rw [e1, e2, e3, List.append_assoc, List.append_assoc] at h
  exact lenB_pre (List.append_cancel_left h) hn hm
theorem front_part {x y : Te} {n m : Nat} (hx : standB x = true) (hy : standB y = true) (hn : n < 281474976710656) (hm : m < 281474976710656) (hne : frontB x n ≠ frontB y m) : Prt2 (frontB x n) (frontB y m) := by
  rcases part_or (frontB x n) (frontB y m) with h | ⟨r, h1, h⟩ | ⟨r, h1, h⟩ | h
  · exact absurd h hne
  · exfalso
    obtain ⟨e1, e2, e3, e4⟩ := front_pre (A := []) hx hy hn hm (by rw [List.append_nil]; exact h)
    refine hne ?_
    unfold frontB
    rw [e1, e2, e3, e4]
  · exfalso
    obtain ⟨e1, e2, e3, e4⟩ := front_pre (A := []) hy hx hm hn (by rw [List.append_nil]; exact h)
    refine hne ?_
    unfold frontB
    rw [e1, e2, e3, e4]
  · exact h
/-- Nodes held against each other as the program does. -/
def cmpN : List Nd → List Nd → Int
  | [], _ => 0
  | _ :: _, [] => 0
  | x :: X, y :: Y => if cmpB x.2 y.2 ≠ 0 then cmpB x.2 y.2 else if cmpB x.1.d y.1.d ≠ 0 then cmpB x.1.d y.1.d else cmpN X Y
/-- A node whose front is one of its own. -/
def vN (y : Nd) : Prop := standB y.1 = true ∧ ∃ n, n < 281474976710656 ∧ y.2 = frontB y.1 n ∧ (y.1.co = false → y.1.d.length = n)
theorem bytesOf_cons (x : Nd) (X : List Nd) : bytesOf (x :: X) = x.2 ++ (x.1.d ++ bytesOf X) := by unfold bytesOf; rw [List.flatMap_cons, List.append_assoc]
theorem ndL_pos {y : Nd} (h : vN y) : 0 < ndL y := by
  obtain ⟨_, n, _, h2, _⟩ := h
  unfold ndL
  rw [h2]
  have := front_pos y.1 n
  omega
theorem vN_len {x y : Nd} (hx : vN x) (hy : vN y) (h : x.2 = y.2) : x.1.d.length = y.1.d.length := by
  obtain ⟨s1, n, hn, f1, l1⟩ := hx
  obtain ⟨s2, m, hm, f2, l2⟩ := hy
  rw [f1, f2] at h
  obtain ⟨_, _, e3, e4⟩ := front_pre (A := []) (r := []) s1 s2 hn hm (by rw [h])
  unfold standB at s1 s2
  simp only [decide_eq_true_eq] at s1 s2
  cases hc : x.1.co with
  | true => rw [s1.2.2.2.2.2 hc, s2.2.2.2.2.2 (by rw [← e3, hc])]
  | false => rw [l1 hc, l2 (by rw [← e3, hc]), e4]
theorem vN_part {x y : Nd} (hx : vN x) (hy : vN y) (h : x.2 ≠ y.2) : Prt2 x.2 y.2 := by
  obtain ⟨s1, n, hn, f1, l1⟩ := hx
  obtain ⟨s2, m, hm, f2, l2⟩ := hy
  rw [f1, f2] at h ⊢
  exact front_part s1 s2 hn hm h
theorem cmpN_run : ∀ {X Y : List Nd}, (∀ x ∈ X, vN x) → (∀ y ∈ Y, vN y) → byt X = byt Y → cmpN X Y = cmpB (bytesOf X) (bytesOf Y)
  | [], [], _, _, _ => rfl
  | [], y :: Y, _, hY, h => by have := ndL_pos (hY y (List.mem_cons_self ..)); simp only [byt] at h; omega
  | x :: X, [], hX, _, h => by have := ndL_pos (hX x (List.mem_cons_self ..)); simp only [byt] at h; omega
  | x :: X, y :: Y, hX, hY, h => by
    have hx := hX x (List.mem_cons_self ..)
    have hy := hY y (List.mem_cons_self ..)
    rw [cmpN, bytesOf_cons, bytesOf_cons]
    by_cases h1 : x.2 = y.2
    · rw [if_neg (by rw [h1, cmpB_self]; decide), h1, cmpB_pre]
      have hl := vN_len hx hy h1
      by_cases h2 : x.1.d = y.1.d
      · rw [if_neg (by rw [h2, cmpB_self]; decide), h2, cmpB_pre]
        refine cmpN_run (fun z hz => hX z (List.mem_cons_of_mem _ hz)) (fun z hz => hY z (List.mem_cons_of_mem _ hz)) ?_
        simp only [byt, ndL] at h
        rw [h1, h2] at h
        omega
      · rw [if_pos (fun h0 => h2 (cmpB_eq.1 h0)), cmpB_part (part_len hl h2)]
    · rw [if_pos (fun h0 => h1 (cmpB_eq.1 h0)), cmpB_part (vN_part hx hy h1)]
/-- Whole elements: the first node with all that it is made of. -/
def wN : List Nd → Prop
  | [] => False
  | x :: X => standB x.1 = true ∧ x.1.d.length + byt X < 281474976710656 ∧ x.2 = frontB x.1 (x.1.d.length + byt X) ∧ (x.1.co = false → X = []) ∧ ∀ y ∈ X, vN y
theorem cmpN_bytes {X Y : List Nd} (hX : wN X) (hY : wN Y) : cmpN X Y = cmpB (bytesOf X) (bytesOf Y) := by
  cases X with
  | nil => exact hX.elim
  | cons x X => cases Y with
    | nil => exact hY.elim
    | cons y Y =>
      obtain ⟨s1, n1, f1, c1, v1⟩ := hX
      obtain ⟨s2, n2, f2, c2, v2⟩ := hY
      have hvx : vN x := ⟨s1, _, n1, f1, fun h => by rw [c1 h]; simp [byt]⟩
      have hvy : vN y := ⟨s2, _, n2, f2, fun h => by rw [c2 h]; simp [byt]⟩
      by_cases h1 : x.2 = y.2
      · refine cmpN_run (fun z hz => ?_) (fun z hz => ?_) ?_
        · rcases List.mem_cons.1 hz with rfl | hz
          · exact hvx
          · exact v1 z hz
        · rcases List.mem_cons.1 hz with rfl | hz
          · exact hvy
          · exact v2 z hz
        · simp only [byt, ndL, h1]
          rw [f1, f2] at h1
          have := (front_pre (A := []) (r := []) s1 s2 n1 n2 (by rw [h1])).2.2.2
          omega
      · rw [cmpN, if_pos (fun h0 => h1 (cmpB_eq.1 h0)), bytesOf_cons, bytesOf_cons, cmpB_part (vN_part hvx hvy h1)]
end Go.Proofs.YtefebamomdcaaaaGreatDoor
