/-
  Der: of the reference: plain, Limbs, FromBytes, Same (picked from W17, W31, W33, W37, W44 by pick.py).
-/
import Derived.Test.YtedoghjefdkmaaaGreatK19
namespace Go.Proofs.YtedoghjefdkmaaaGreat
open Go.RowKit
set_option maxRecDepth 20000
theorem al {a w : World} {o : Obj} (h : Below a.heap.size a w) : Below a.heap.size a (w.alloc o) := h.alloc h.size o
theorem grow0 {a w w' : World} (h : Below a.heap.size a w) (hB : Below w.heap.size w w') : Below a.heap.size a w' := h.trans (hB.mono h.size)
theorem arr_new {k : IntKind} {e : TypeId} {w : World} {b : Nat} {cs : Array Value} {xs : List Int} (hb : b = w.heap.size) (h : cs = (xs.map (Value.int k)).toArray) : Arr k e (w.alloc (.cells cs e)) b xs := by
  subst hb; subst h; unfold Arr; rw [heap_alloc_new]
set_option maxHeartbeats 1000000 in
theorem NSame_any {w : World} (v u : Value) (xs : List Int) (hx : Sl .u32 w v xs) (hy : Sl .u32 w u xs) (lx : xs.length ≤ 1152921504606846976) :
    Calls Tryz.prog 11 #[v, u] w fun e w' => e = .returned (.bool true) ∧ Below w.heap.size w w' := by
  obtain ⟨a1, c1, rfl, hc1, h1⟩ := hx
  obtain ⟨a2, c2, rfl, hc2, h2⟩ := hy
  by_cases hne : xs = []
  · subst hne
    simp only [List.length_nil]
    go_enter Tryz.func11, Tryz.ntmps11
    go_wp2
    go_loop [5] (fun i => i = .int .i64 0) (fun _ => 0)
    case atStart => rfl
    case round =>
      subst hrel
      go_wp2
      go_ret
      exact ⟨rfl, Below.refl _ _⟩
  · rcases h1 with h1 | ⟨b1, o1, rfl, hb1, hr1⟩
    · exact absurd h1 hne
    rcases h2 with h2 | ⟨b2, o2, rfl, hb2, hr2⟩
    · exact absurd h2 hne
    obtain ⟨n, hn⟩ : ∃ n, xs.length = n := ⟨_, rfl⟩
    rw [hn] at lx hc1 hc2 ⊢
    have HN : Hid (xs.length = n) := hn
    clear hn hne
    go_enter Tryz.func11, Tryz.ntmps11
    go_wp2
    go_loopw [5] (fun i wr => ∃ k : Nat, k ≤ n ∧ i = .int .i64 k ∧ Below w.heap.size w wr) (fun i _ => n - (intOf i).toNat)
    case atStart => exact ⟨0, Nat.zero_le _, rfl, Below.refl _ _⟩
    case round =>
      obtain ⟨k, hk, rfl, hB⟩ := hrel
      by_cases hkn : k < n
      · obtain ⟨x, hx⟩ : ∃ x, xs.getD k 0 = x := ⟨_, rfl⟩
        have hcx : wr.cell? ⟨b1, o1 + k, none⟩ = some (.int .u32 x) := by rw [← hx]; exact (below_rd hB hb1 hr1) k (by rw [HN.out]; exact hkn)
        have hcy : wr.cell? ⟨b2, o2 + k, none⟩ = some (.int .u32 x) := by rw [← hx]; exact (below_rd hB hb2 hr2) k (by rw [HN.out]; exact hkn)
        have HB : Hid (Below w.heap.size w wr) := hB
        clear hx hB hr1 hr2
        go_wp2
        go_quiet (fail)
        go_wp2
        go_roundw
        case rel => exact ⟨k + 1, by omega, by go_num, HB.out.trans ⟨rfl, rfl, rfl, Nat.le_refl _, fun _ _ => rfl⟩⟩
        case measure => simp [intOf]; omega
      · have HB : Hid (Below w.heap.size w wr) := hB
        clear hB
        go_wp2
        go_ret
        exact ⟨rfl, HB.out⟩
set_option maxHeartbeats 400000 in
theorem plain_any (xs : List Int) (a : Option Addr) (c : Nat) (w : World) (h : Sl .u64 w (.slice a xs.length c) xs) (hl : xs.length ≤ 1152921504606846976) :
    Calls Tryz.prog 97 #[.slice a xs.length c] w fun e w' => e = .returned (.slice a (D.sig xs) c) ∧ w' = w := by
  have hc : xs.length ≤ c := by obtain ⟨_, _, h1, hc, _⟩ := h; cases h1; exact hc
  obtain ⟨a, c, hv, _, h1⟩ := h
  cases hv
  rcases h1 with rfl | ⟨b, off, rfl, hb, hr⟩
  · simp only [List.length_nil]
    go_enter Tryz.func97, Tryz.ntmps97
    go_wp2
    go_loop [3] (fun i => i = .int .i64 0) (fun _ => 0)
    case atStart => rfl
    case round =>
      subst hrel
      go_wp2
      go_ret
      exact ⟨by simp [D.sig], rfl⟩
  · go_enter Tryz.func97, Tryz.ntmps97
    go_wp2
    go_loop [3] (fun i => ∃ k : Nat, k ≤ xs.length ∧ i = .int .i64 k ∧ ∀ j, k ≤ j → j < xs.length → xs.getD j 0 = 0) (fun i => (intOf i).toNat)
    case atStart => exact ⟨xs.length, Nat.le_refl _, rfl, fun j h1 h2 => by omega⟩
    case round =>
      obtain ⟨k, hk, rfl, hz⟩ := hrel
      by_cases hk0 : k = 0
      · subst hk0
        have HS : Hid (D.sig xs = 0) := D.sig_eq (Nat.zero_le _) hz (.inl rfl)
        clear hz
        go_wp2
        go_ret
        exact ⟨by rw [HS.out]; rfl, rfl⟩
      · obtain ⟨m, rfl⟩ : ∃ m, k = m + 1 := ⟨k - 1, by omega⟩
        obtain ⟨x, hx⟩ : ∃ x, xs.getD m 0 = x := ⟨_, rfl⟩
        have hcell := hr m (by omega)
        rw [hx] at hcell
        have HZ : Hid (∀ j, m + 1 ≤ j → j < xs.length → xs.getD j 0 = 0) := hz
        have HX : Hid (xs.getD m 0 = x) := hx
        clear hz hx hr
        by_cases hx0 : x = 0
        · go_wp2
          go_round
          case rel => exact ⟨m, by omega, by go_num, fun j h1 h2 => by
            by_cases h3 : j = m
            · subst h3; rw [HX.out]; exact hx0
            · exact HZ.out j (by omega) h2⟩
          case measure => simp [intOf]
        · go_wp2
          go_ret
          exact ⟨by rw [D.sig_eq (k := m + 1) hk HZ.out (.inr (by intro h3; exact hx0 (HX.out.symm.trans h3)))]; rfl, rfl⟩
theorem plain_sl {w : World} (v : Value) (xs : List Int) (h : Sl .u64 w v xs) (hu : D.U16s xs) (hl : xs.length ≤ 1152921504606846976) (N : Int) (hN : D.val xs = N) :
    Calls Tryz.prog 97 #[v] w fun e w' => ∃ r, e = .returned r ∧ Sl .u64 w' r (D.lim N.toNat) ∧ w = w' := by
  subst hN
  have h0 := h
  obtain ⟨a, c, rfl, hc, h1⟩ := h
  refine (plain_any xs a c w h0 hl).mono ?_
  rintro e w' ⟨rfl, rfl⟩
  have hs := D.sig_le xs
  have e1 := D.take_sig_lim hu
  have e2 : (D.lim (D.val xs).toNat).length = D.sig xs := by rw [← e1]; simp; omega
  refine ⟨_, rfl, ⟨a, c, by rw [e2], by omega, ?_⟩, rfl⟩
  rcases h1 with rfl | ⟨b, off, rfl, hb, hr⟩
  · left; rfl
  · right; exact ⟨b, off, rfl, hb, by rw [← e1]; exact hr.take _⟩
theorem Arr.sl64 {w : World} {b : Nat} {S : List Int} (h : Arr .u64 83 w b S) : Sl .u64 w (.slice (some ⟨b, 0, none⟩) S.length S.length) S :=
  ⟨_, _, rfl, Nat.le_refl _, .inr ⟨b, 0, rfl, h.lt, by have := h.rd 0 S.length (by omega); rw [List.drop_zero, List.take_length] at this; exact this⟩⟩
set_option maxHeartbeats 2000000 in
theorem Limbs_any {w : World} (v : Value) (Ds : List Int) (hD : Sl .u64 w v Ds) (uD : D.U16s Ds) (hl : Ds.length ≤ 1073741824) (N : Int) (hN : D.val Ds = N) :
    Calls Tryz.prog 53 #[v] w fun e w' => ∃ r, e = .returned r ∧ Sl .u32 w' r (lim N.toNat) ∧ Below w.heap.size w w' := by
  have hN0 : 0 ≤ N := hN ▸ D.val_nonneg uD
  have hL : (D.lim N.toNat).length ≤ 1073741824 := by
    have h1 := D.take_sig_lim uD; have h2 := D.sig_le Ds
    rw [hN] at h1; rw [← h1]; simp; omega
  obtain ⟨Es, hE⟩ : ∃ Es, D.lim N.toNat = Es := ⟨_, rfl⟩
  have HE : Hid (D.lim N.toNat = Es) := hE
  have uE : D.U16s Es := hE ▸ D.lim_u16 _
  have HN : Hid (D.val Ds = N) := hN
  rw [hE] at hL
  clear hE hN
  go_enter Tryz.func53, Tryz.ntmps53
  go_wp2_with (go_at_call 97; refine (plain_sl _ Ds hD uD (by omega) N HN.out).mono ?_; rintro e w' ⟨r, rfl, hr, rfl⟩; rw [HE.out] at hr; obtain ⟨a, c, hv, hc⟩ := hr.len; subst hv)
  go_loopw [3, 4] (fun o i wr => ∃ j : Nat, j % 2 = 0 ∧ j ≤ Es.length + 1 ∧ i = .int .i64 j ∧ Row .u32 39 w.heap.size wr o (join (Es.take j)) ∧ Below w.heap.size w wr) (fun _ i _ => Es.length + 1 - (intOf i).toNat)
  case atStart => exact ⟨0, rfl, by omega, rfl, Row.nil _ _ _ _, Below.refl _ _⟩
  case round =>
    obtain ⟨j, hj2, hj, rfl, hrow, hBt⟩ := hrel
    by_cases hlt : j < Es.length
    · obtain ⟨y, hy⟩ : ∃ y, Es.getD j 0 = y := ⟨_, rfl⟩
      obtain ⟨z, hz⟩ : ∃ z, Es.getD (j + 1) 0 = z := ⟨_, rfl⟩
      have uy : D.U16 y := hy ▸ uE.at j
      have uz : D.U16 z := hz ▸ uE.at (j + 1)
      obtain ⟨uy1, uy2⟩ := uy
      obtain ⟨uz1, uz2⟩ := uz
      obtain ⟨b, off, ha, hb, hrd⟩ : ∃ b off, a = some ⟨b, off, none⟩ ∧ b < w.heap.size ∧ Rd .u64 w b off Es := by
        obtain ⟨a', c', h1, _, h2⟩ := hr
        cases h1
        rcases h2 with rfl | ⟨b, off, rfl, hb, hr⟩
        · simp at hlt
        · exact ⟨b, off, rfl, hb, hr⟩
      subst ha
      have hcy : wr.cell? ⟨b, off + j, none⟩ = some (.int .u64 y) := by rw [hBt.cell hb, hrd j hlt, hy]
      have hsz : w.heap.size ≤ wr.heap.size := hBt.size
      have hlen : (join (Es.take j)).length ≤ j := by have := join_length_le _ (Es.take j) (Nat.le_refl _); simp at this; omega
      have HL : Hid ((join (Es.take j)).length ≤ j) := hlen
      have hsn : join (Es.take (j + 2)) = join (Es.take j) ++ [y + 65536 * z] := by
        have := join_snoc (j / 2) Es (by omega)
        rw [show 2 * (j / 2 + 1) = j + 2 by omega, show 2 * (j / 2) = j by omega, hy, hz] at this; exact this
      have HH : Hid (join (Es.take (j + 2)) = join (Es.take j) ++ [y + 65536 * z] ∧ Below w.heap.size w wr) := ⟨hsn, hBt⟩
      by_cases hlt2 : j + 1 < Es.length
      · have hcz : wr.cell? ⟨b, off + (j + 1), none⟩ = some (.int .u64 z) := by rw [hBt.cell hb, hrd (j + 1) hlt2, hz]
        clear hy hz hrd hsn hr hBt hlen
        go_wp2_with (at_builtin; refine wpList_ap rfl (.tmp 33) (.tmp 35) 22 22 rfl .u32 39 4 Tryz.und32 Tryz.info32 (by decide) w.heap.size _ (join (Es.take j)) (by rfl) (hrow.alloc _) _ [y + 65536 * z] (by rfl) (src_sl Tryz.und32 (Arr.sl (S := [y + 65536 * z]) (arr_new rfl (by simp; omega)))) (by have := HL.out; simp only [List.length_singleton]; omega) (by simp; omega) ?_; intro v1 w1 hr1 hg1; have hB1 := hg1.below (hrow.alloc _) (by simp; omega))
        go_roundw
        case rel => exact ⟨j + 2, by omega, by omega, by go_num, by rw [HH.out.1]; exact hr1, (al HH.out.2).trans hB1⟩
        case measure => simp [intOf]; omega
      · have hz0 : z = 0 := by rw [← hz]; simp [List.getD, List.getElem?_eq_none (show Es.length ≤ j + 1 by omega)]
        subst hz0
        clear hy hz hrd hsn hr hBt hlen
        go_wp2_with (at_builtin; refine wpList_ap rfl (.tmp 33) (.tmp 35) 22 22 rfl .u32 39 4 Tryz.und32 Tryz.info32 (by decide) w.heap.size _ (join (Es.take j)) (by rfl) (hrow.alloc _) _ [y + 65536 * 0] (by rfl) (src_sl Tryz.und32 (Arr.sl (S := [y + 65536 * 0]) (arr_new rfl (by simp)))) (by have := HL.out; simp only [List.length_singleton]; omega) (by simp; omega) ?_; intro v1 w1 hr1 hg1; have hB1 := hg1.below (hrow.alloc _) (by simp; omega))
        go_roundw
        case rel => exact ⟨j + 2, by omega, by omega, by go_num, by rw [HH.out.1]; exact hr1, (al HH.out.2).trans hB1⟩
        case measure => simp [intOf]; omega
    · have hfull : Es.take j = Es := List.take_of_length_le (by omega)
      rw [hfull] at hrow
      have hs := hrow.sl
      rw [← HE.out, join_lim] at hs
      obtain ⟨a', c', hv, _⟩ := hs.len
      subst hv
      clear hfull hrow hr
      go_wp2
      go_ret
      exact ⟨_, rfl, hs, hBt⟩
/-- A number and an error, as two results, in whatever memory. -/
def RTwo (w : World) (e : Ending) (s : List Int × Int) : Prop := ∃ r, e = .returned (.tuple #[r, .int .i64 s.2]) ∧ Sl .u32 w r s.1
theorem RTwo.nil' {w : World} {n : Int} {s : List Int × Int} (hs : s = ([], n)) : RTwo w (.returned (.tuple #[.slice none 0 0, .int .i64 n])) s := by
  subst hs; exact ⟨_, rfl, ⟨none, 0, rfl, Nat.le_refl _, .inl rfl⟩⟩
theorem RTwo.mk' {w : World} {r : Value} {n : Int} {L : List Int} {s : List Int × Int} (h : Sl .u32 w r L) (hs : s = (L, n)) : RTwo w (.returned (.tuple #[r, .int .i64 n])) s := by
  subst hs; exact ⟨r, rfl, h⟩
def joinB : List Int → List Int
  | [] => []
  | [d] => [d]
  | d :: e :: r => (d + 256 * e) :: joinB r
theorem joinB_val (n : Nat) : ∀ ds : List Int, ds.length ≤ n → D.val (joinB ds) = bv ds := by
  induction n with
  | zero => intro ds h; have : ds = [] := List.eq_nil_of_length_eq_zero (by omega); subst this; rfl
  | succ n ih =>
    intro ds h
    match ds with
    | [] => rfl
    | [d] => simp [joinB, bv, D.val]
    | d :: e :: r => simp only [joinB, bv, D.val]; rw [ih r (by simp at h; omega)]; omega
theorem joinB_u16 (n : Nat) : ∀ ds : List Int, ds.length ≤ n → U8s ds → D.U16s (joinB ds) := by
  induction n with
  | zero => intro ds h _; have : ds = [] := List.eq_nil_of_length_eq_zero (by omega); subst this; exact D.U16s.nil
  | succ n ih =>
    intro ds h hu
    match ds with
    | [] => exact D.U16s.nil
    | [d] => have := hu d (by simp); unfold U8 at this; exact D.U16s.cons ⟨by omega, by omega⟩ D.U16s.nil
    | d :: e :: r =>
      have h1 := hu d (by simp); have h2 := hu e (by simp); unfold U8 at h1 h2
      exact D.U16s.cons ⟨by omega, by omega⟩ (ih r (by simp at h; omega) hu.tail.tail)
theorem joinB_snoc (k : Nat) : ∀ ds : List Int, 2 * k < ds.length → joinB (ds.take (2 * (k + 1))) = joinB (ds.take (2 * k)) ++ [ds.getD (2 * k) 0 + 256 * ds.getD (2 * k + 1) 0] := by
  induction k with
  | zero =>
    intro ds h
    match ds with
    | [d] => simp [joinB]
    | d :: e :: r => simp [joinB]
  | succ k ih =>
    intro ds h
    match ds with
    | [d] => simp at h
    | d :: e :: r =>
      have := ih r (by simp at h; omega)
      have e1 : 2 * (k + 1 + 1) = 2 * (k + 1) + 2 := by omega
      have e2 : 2 * (k + 1) = 2 * k + 2 := by omega
      rw [e1, e2, List.take_succ_cons, List.take_succ_cons, List.take_succ_cons, List.take_succ_cons]
      simp only [joinB, List.cons_append]
      rw [show 2 * k + 2 = 2 * (k + 1) by omega, this]
      simp [show 2 * (k + 1) = 2 * k + 1 + 1 by omega]
theorem joinB_length_le (n : Nat) : ∀ ds : List Int, ds.length ≤ n → (joinB ds).length ≤ ds.length := by
  induction n with
  | zero => intro ds h; have : ds = [] := List.eq_nil_of_length_eq_zero (by omega); subst this; simp [joinB]
  | succ n ih =>
    intro ds h
    match ds with
    | [] => simp [joinB]
    | [d] => simp [joinB]
    | d :: e :: r => have := ih r (by simp at h; omega); simp only [joinB, List.length_cons]; omega
set_option maxHeartbeats 2000000 in
theorem RFromBytes_any (bs : List Int) (v : Value) (w : World) (hb : Sl .u8 w v bs) (ub : U8s bs) :
    Calls Tryz.prog 32 #[v] w fun e w' => RTwo w' e (fromS bs) ∧ Below w.heap.size w w' := by
  have hb0 := hb
  obtain ⟨a, c, hv, hc⟩ := hb.len
  subst hv
  by_cases hlong : 2048 < bs.length
  · have HL : Hid (fromS bs = ([], 3)) := by unfold fromS; rw [if_pos hlong]; rfl
    go_enter Tryz.func32, Tryz.ntmps32
    go_wp2
    go_ret2
    exact ⟨RTwo.nil' HL.out, Below.refl _ _⟩
  obtain ⟨rb, hrb⟩ : ∃ rb, bs.reverse = rb := ⟨_, rfl⟩
  have lrb : rb.length = bs.length := by rw [← hrb]; simp
  have urb : U8s rb := hrb ▸ ub.rev
  have hget : ∀ j, j < bs.length → rb.getD j 0 = bs.getD (bs.length - 1 - j) 0 := fun j hj => by
    rw [← hrb, List.getD_eq_getElem?_getD, List.getElem?_reverse hj, ← List.getD_eq_getElem?_getD]
  obtain ⟨N, hN⟩ : ∃ N, bv rb = N := ⟨_, rfl⟩
  have HL : Hid (fromS bs = (lim N.toNat, 0)) := by unfold fromS; rw [if_neg hlong, hrb, hN]; rfl
  have HN : Hid (bv rb = N) := hN
  have HG : Hid (∀ j, j < bs.length → rb.getD j 0 = bs.getD (bs.length - 1 - j) 0) := hget
  clear hrb hN hget
  go_enter Tryz.func32, Tryz.ntmps32
  go_wp2
  go_loopw [4, 5] (fun o i wr => ∃ j : Nat, j % 2 = 0 ∧ j ≤ bs.length + 1 ∧ i = .int .i64 ((bs.length : Int) - 1 - j) ∧ Row .u64 83 w.heap.size wr o (joinB (rb.take j)) ∧ Below w.heap.size w wr) (fun _ i _ => (intOf i + 2).toNat)
  case atStart => exact ⟨0, rfl, by omega, by go_num, Row.nil _ _ _ _, Below.refl _ _⟩
  case round =>
    obtain ⟨j, hj2, hj, rfl, hrow, hBt⟩ := hrel
    by_cases hlt : j < bs.length
    · obtain ⟨i, hi⟩ : ∃ i, bs.length - 1 - j = i := ⟨_, rfl⟩
      have hiI : (bs.length : Int) - 1 - j = (i : Int) := by omega
      obtain ⟨y, hy⟩ : ∃ y, rb.getD j 0 = y := ⟨_, rfl⟩
      obtain ⟨z, hz⟩ : ∃ z, rb.getD (j + 1) 0 = z := ⟨_, rfl⟩
      have uy : U8 y := hy ▸ urb.at j
      have uz : U8 z := hz ▸ urb.at (j + 1)
      obtain ⟨uy1, uy2⟩ := uy
      obtain ⟨uz1, uz2⟩ := uz
      obtain ⟨b, off, ha, hbb, hrd⟩ : ∃ b off, a = some ⟨b, off, none⟩ ∧ b < w.heap.size ∧ Rd .u8 w b off bs := by
        obtain ⟨a', c', h1, _, h2⟩ := hb0
        cases h1
        rcases h2 with rfl | ⟨b, off, rfl, hb, hr⟩
        · simp at hlt
        · exact ⟨b, off, rfl, hb, hr⟩
      subst ha
      have hcy : wr.cell? ⟨b, off + i, none⟩ = some (.int .u8 y) := by rw [hBt.cell hbb, hrd i (by omega), ← hi, ← HG.out j hlt, hy]
      have hsz : w.heap.size ≤ wr.heap.size := hBt.size
      have hlen : (joinB (rb.take j)).length ≤ j := by have := joinB_length_le _ (rb.take j) (Nat.le_refl _); simp at this; omega
      have HLn : Hid ((joinB (rb.take j)).length ≤ j) := hlen
      have hsn : joinB (rb.take (j + 2)) = joinB (rb.take j) ++ [y + 256 * z] := by
        have := joinB_snoc (j / 2) rb (by omega)
        rw [show 2 * (j / 2 + 1) = j + 2 by omega, show 2 * (j / 2) = j by omega, hy, hz] at this; exact this
      have HH : Hid (joinB (rb.take (j + 2)) = joinB (rb.take j) ++ [y + 256 * z] ∧ Below w.heap.size w wr ∧ (bs.length : Int) - 1 - j = (i : Int)) := ⟨hsn, hBt, hiI⟩
      by_cases hi0 : i = 0
      · have hz0 : z = 0 := by rw [← hz]; simp [List.getD, List.getElem?_eq_none (show rb.length ≤ j + 1 by omega)]
        subst hz0
        subst hi0
        have hi00 : (bs.length : Int) - 1 - j = 0 := by omega
        rw [hi00]
        simp only [Nat.add_zero] at hcy
        clear hi00
        clear hy hz hrd hsn hBt hlen hb0 hb hiI hi
        go_wp2_with (at_builtin; refine wpList_ap rfl (.tmp 33) (.tmp 35) 77 77 rfl .u64 83 8 Tryz.und64 Tryz.info64 (by decide) w.heap.size _ (joinB (rb.take j)) (by rfl) (hrow.alloc _) _ [y + 256 * 0] (by rfl) (src_sl Tryz.und64 (Arr.sl64 (S := [y + 256 * 0]) (arr_new rfl (by simp)))) (by have := HLn.out; simp only [List.length_singleton]; omega) (by simp; omega) ?_; intro v1 w1 hr1 hg1; have hB1 := hg1.below (hrow.alloc _) (by simp; omega))
        go_roundw
        case rel => exact ⟨j + 2, by omega, by omega, by have := HH.out.2.2; go_num, by rw [HH.out.1]; exact hr1, (al HH.out.2.1).trans hB1⟩
        case measure => simp [intOf]
      · obtain ⟨i', rfl⟩ : ∃ i', i = i' + 1 := ⟨i - 1, by omega⟩
        have hcz : wr.cell? ⟨b, off + i', none⟩ = some (.int .u8 z) := by rw [hBt.cell hbb, hrd i' (by omega), ← hz, HG.out (j + 1) (by omega)]; congr 3; omega
        have hib : i' + 1 < bs.length := by omega
        rw [hiI]
        clear hy hz hrd hsn hBt hlen hb0 hb hiI hi hi0
        go_wp2_with (at_builtin; refine wpList_ap rfl (.tmp 33) (.tmp 35) 77 77 rfl .u64 83 8 Tryz.und64 Tryz.info64 (by decide) w.heap.size _ (joinB (rb.take j)) (by rfl) (hrow.alloc _) _ [y + 256 * z] (by rfl) (src_sl Tryz.und64 (Arr.sl64 (S := [y + 256 * z]) (arr_new rfl (by simp; omega)))) (by have := HLn.out; simp only [List.length_singleton]; omega) (by simp; omega) ?_; intro v1 w1 hr1 hg1; have hB1 := hg1.below (hrow.alloc _) (by simp; omega))
        go_roundw
        case rel => exact ⟨j + 2, by omega, by omega, by have := HH.out.2.2; go_num, by rw [HH.out.1]; exact hr1, (al HH.out.2.1).trans hB1⟩
        case measure => simp [intOf]; omega
    · have hneg : (bs.length : Int) - 1 - j < 0 := by omega
      have hfull : rb.take j = rb := List.take_of_length_le (by omega)
      rw [hfull] at hrow
      have hs := hrow.sl
      have hlen : (joinB rb).length ≤ 2048 := by have := joinB_length_le _ rb (Nat.le_refl _); omega
      have hu := joinB_u16 _ rb (Nat.le_refl _) urb
      have HV : Hid (D.val (joinB rb) = N) := (joinB_val _ rb (Nat.le_refl _)).trans HN.out
      clear hfull hrow hb0 hb
      go_wp2_with (go_at_call 53; refine (Limbs_any _ (joinB rb) hs hu (by omega) N HV.out).mono ?_; rintro e w' ⟨o, rfl, ho, hB⟩; replace hBt := grow0 hBt hB)
      go_ret2
      exact ⟨RTwo.mk' ho HL.out, hBt⟩
end Go.Proofs.YtedoghjefdkmaaaGreat
/-
  Der: yes or no; are bytes a number's?
-/
namespace Go.Proofs.YtedoghjefdkmaaaGreat
open Go.RowKit
/-- What Bool answers. -/
def boolV (X : List Int) : Bool := decide (X.length = 1) && decide (X.getD 0 0 = 255)
def boolE (X : List Int) : Int := if X.length = 1 ∧ (X.getD 0 0 = 0 ∨ X.getD 0 0 = 255) then 0 else 6
theorem bool_cases {w : World} {v : Value} {X : List Int} (hX : Sl .u8 w v X) (uX : U8s X) : (∃ a n c, v = .slice a n c ∧ X.length = n ∧ n ≠ 1) ∨ ∃ b off c x, v = .slice (some ⟨b, off, none⟩) 1 c ∧ X = [x] ∧ U8 x ∧ w.cell? ⟨b, off, none⟩ = some (.int .u8 x) := by
  obtain ⟨a, c, rfl, hc, hx⟩ := hX
  by_cases h : X.length = 1
  · right
    rcases hx with hx | ⟨b, off, rfl, hb, hr⟩
    · rw [hx] at h; simp at h
    · match X, h with
      | [x], _ => exact ⟨b, off, c, x, rfl, rfl, uX x (by simp), hr 0 (by simp)⟩
  · exact .inl ⟨a, _, c, rfl, rfl, h⟩
/-- Are these bytes a number's? -/
def intOk (X : List Int) : Bool := if X.length < 2 then decide (X.length = 1) else !((decide (X.getD 0 0 = 0) && decide (X.getD 1 0 < 128)) || (decide (X.getD 0 0 = 255) && decide (128 ≤ X.getD 1 0)))
theorem int_cases {w : World} {v : Value} {X : List Int} (hX : Sl .u8 w v X) (uX : U8s X) (hl : X.length ≤ 16384) : (∃ a n c, v = .slice a n c ∧ X.length = n ∧ n < 2) ∨ ∃ b off n c x y, v = .slice (some ⟨b, off, none⟩) n c ∧ X.length = n ∧ 2 ≤ n ∧ n ≤ c ∧ n ≤ 16384 ∧ X.getD 0 0 = x ∧ X.getD 1 0 = y ∧ U8 x ∧ U8 y ∧ w.cell? ⟨b, off, none⟩ = some (.int .u8 x) ∧ w.cell? ⟨b, off + 1, none⟩ = some (.int .u8 y) := by
  obtain ⟨a, c, rfl, hc, hx⟩ := hX
  by_cases h : X.length < 2
  · exact .inl ⟨a, _, c, rfl, rfl, h⟩
  · right
    rcases hx with hx | ⟨b, off, rfl, hb, hr⟩
    · rw [hx] at h; simp at h
    · exact ⟨b, off, _, c, _, _, rfl, rfl, by omega, hc, hl, rfl, rfl, uX.at 0, uX.at 1, hr 0 (by omega), hr 1 (by omega)⟩
set_option maxHeartbeats 2000000 in
theorem isInt_any {w : World} (v : Value) (X : List Int) (hX : Sl .u8 w v X) (uX : U8s X) (hl : X.length ≤ 16384) :
    Calls Tryz.prog 146 #[v] w fun e w' => e = .returned (.bool (intOk X)) ∧ w = w' := by
  rcases int_cases hX uX hl with ⟨a, n, c, rfl, hn, h1⟩ | ⟨b, off, n, c, x, y, rfl, hn, h2, hc, hn4, ex, ey, ⟨u0, u1⟩, ⟨y0, y1⟩, c0, c1⟩
  · have HV : Hid (intOk X = decide (n = 1)) := by
      show intOk X = _
      unfold intOk; rw [hn, if_pos h1]
    have hI : (n : Int) < 2 := by omega
    clear hX uX hn
    by_cases h : n = 1
    · subst h
      clear h1 hI
      go_enter Tryz.func146, Tryz.ntmps146
      go_wp2
      go_ret
      exact ⟨by rw [HV.out]; rfl, rfl⟩
    · have h0 : n = 0 := by omega
      subst h0
      clear h1 hI h
      go_enter Tryz.func146, Tryz.ntmps146
      go_wp2
      go_ret
      exact ⟨by rw [HV.out]; rfl, rfl⟩
  · have HV : Hid (intOk X = !((decide (x = 0) && decide (y < 128)) || (decide (x = 255) && decide (128 ≤ y)))) := by
      show intOk X = _
      unfold intOk; rw [hn, if_neg (by omega), ex, ey]
    have hI : (2 : Int) ≤ (n : Int) := by omega
    have hI1 : (1 : Int) < (n : Int) := by omega
    have hI2 : ¬ (n : Int) < 2 := by omega
    have hI3 : ((n : Int) == 1) = false := by simp; omega
    clear hX uX hn ex ey
    by_cases hy : y < 128
    · have q1 : decide (128 ≤ y) = false := by simp; omega
      have q2 : decide (y < 128) = true := by simp; omega
      have q3 : ¬ 128 ≤ y := by omega
      by_cases hx0 : x = 0
      · subst hx0
        have HW : Hid (intOk X = false) := by show _ = _; rw [HV.out]; simp; omega
        go_enter Tryz.func146, Tryz.ntmps146
        go_wp2
        all_goals go_ret
        all_goals exact ⟨by rw [HW.out]; rfl, rfl⟩
      by_cases hx1 : x = 255
      · subst hx1
        have HW : Hid (intOk X = true) := by show _ = _; rw [HV.out]; simp; omega
        clear hx0
        go_enter Tryz.func146, Tryz.ntmps146
        go_wp2
        all_goals go_ret
        all_goals exact ⟨by rw [HW.out]; rfl, rfl⟩
      · have HW : Hid (intOk X = true) := by show _ = _; rw [HV.out, decide_eq_false hx0, decide_eq_false hx1]; rfl
        have b0 : (x == 0) = false := by simpa using hx0
        have b1 : (x == 255) = false := by simpa using hx1
        clear hx0 hx1
        go_enter Tryz.func146, Tryz.ntmps146
        go_wp2
        all_goals go_ret
        all_goals exact ⟨by rw [HW.out]; rfl, rfl⟩
    · have q1 : decide (128 ≤ y) = true := by simp; omega
      have q2 : decide (y < 128) = false := by simp; omega
      have q3 : 128 ≤ y := by omega
      by_cases hx0 : x = 0
      · subst hx0
        have HW : Hid (intOk X = true) := by show _ = _; rw [HV.out]; simp; omega
        go_enter Tryz.func146, Tryz.ntmps146
        go_wp2
        all_goals go_ret
        all_goals exact ⟨by rw [HW.out]; rfl, rfl⟩
      by_cases hx1 : x = 255
      · subst hx1
        have HW : Hid (intOk X = false) := by show _ = _; rw [HV.out]; simp; omega
        clear hx0
        go_enter Tryz.func146, Tryz.ntmps146
        go_wp2
        all_goals go_ret
        all_goals exact ⟨by rw [HW.out]; rfl, rfl⟩
      · have HW : Hid (intOk X = true) := by show _ = _; rw [HV.out, decide_eq_false hx0, decide_eq_false hx1]; rfl
        have b0 : (x == 0) = false := by simpa using hx0
        have b1 : (x == 255) = false := by simpa using hx1
        clear hx0 hx1
        go_enter Tryz.func146, Tryz.ntmps146
        go_wp2
        all_goals go_ret
        all_goals exact ⟨by rw [HW.out]; rfl, rfl⟩
set_option maxHeartbeats 2000000 in
theorem whole_any {w : World} (v : Value) (X : List Int) (hX : Sl .u8 w v X) (uX : U8s X) (hl : X.length ≤ 16384) :
    Calls Tryz.prog 117 #[v] w fun e w' => e = .returned (.bool (intOk X)) ∧ w = w' := by
  rcases int_cases hX uX hl with ⟨a, n, c, rfl, hn, h1⟩ | ⟨b, off, n, c, x, y, rfl, hn, h2, hc, hn4, ex, ey, ⟨u0, u1⟩, ⟨y0, y1⟩, c0, c1⟩
  · have HV : Hid (intOk X = decide (n = 1)) := by
      show intOk X = _
      unfold intOk; rw [hn, if_pos h1]
    have hI : (n : Int) < 2 := by omega
    clear hX uX hn
    by_cases h : n = 1
    · subst h
      clear h1 hI
      go_enter Tryz.func117, Tryz.ntmps117
      go_wp2
      go_ret
      exact ⟨by rw [HV.out]; rfl, rfl⟩
    · have h0 : n = 0 := by omega
      subst h0
      clear h1 hI h
      go_enter Tryz.func117, Tryz.ntmps117
      go_wp2
      go_ret
      exact ⟨by rw [HV.out]; rfl, rfl⟩
  · have HV : Hid (intOk X = !((decide (x = 0) && decide (y < 128)) || (decide (x = 255) && decide (128 ≤ y)))) := by
      show intOk X = _
      unfold intOk; rw [hn, if_neg (by omega), ex, ey]
    have hI : (2 : Int) ≤ (n : Int) := by omega
    have hI1 : (1 : Int) < (n : Int) := by omega
    have hI2 : ¬ (n : Int) < 2 := by omega
    have hI3 : ((n : Int) == 1) = false := by simp; omega
    clear hX uX hn ex ey
    by_cases hy : y < 128
    · have q1 : decide (128 ≤ y) = false := by simp; omega
      have q2 : decide (y < 128) = true := by simp; omega
      have q3 : ¬ 128 ≤ y := by omega
      by_cases hx0 : x = 0
      · subst hx0
        have HW : Hid (intOk X = false) := by show _ = _; rw [HV.out]; simp; omega
        go_enter Tryz.func117, Tryz.ntmps117
        go_wp2
        all_goals go_ret
        all_goals exact ⟨by rw [HW.out]; rfl, rfl⟩
      by_cases hx1 : x = 255
      · subst hx1
        have HW : Hid (intOk X = true) := by show _ = _; rw [HV.out]; simp; omega
        clear hx0
        go_enter Tryz.func117, Tryz.ntmps117
        go_wp2
        all_goals go_ret
        all_goals exact ⟨by rw [HW.out]; rfl, rfl⟩
      · have HW : Hid (intOk X = true) := by show _ = _; rw [HV.out, decide_eq_false hx0, decide_eq_false hx1]; rfl
        have b0 : (x == 0) = false := by simpa using hx0
        have b1 : (x == 255) = false := by simpa using hx1
        clear hx0 hx1
        go_enter Tryz.func117, Tryz.ntmps117
        go_wp2
        all_goals go_ret
        all_goals exact ⟨by rw [HW.out]; rfl, rfl⟩
    · have q1 : decide (128 ≤ y) = true := by simp; omega
      have q2 : decide (y < 128) = false := by simp; omega
      have q3 : 128 ≤ y := by omega
      by_cases hx0 : x = 0
      · subst hx0
        have HW : Hid (intOk X = true) := by show _ = _; rw [HV.out]; simp; omega
        go_enter Tryz.func117, Tryz.ntmps117
        go_wp2
        all_goals go_ret
        all_goals exact ⟨by rw [HW.out]; rfl, rfl⟩
      by_cases hx1 : x = 255
      · subst hx1
        have HW : Hid (intOk X = false) := by show _ = _; rw [HV.out]; simp; omega
        clear hx0
        go_enter Tryz.func117, Tryz.ntmps117
        go_wp2
        all_goals go_ret
        all_goals exact ⟨by rw [HW.out]; rfl, rfl⟩
      · have HW : Hid (intOk X = true) := by show _ = _; rw [HV.out, decide_eq_false hx0, decide_eq_false hx1]; rfl
        have b0 : (x == 0) = false := by simpa using hx0
        have b1 : (x == 255) = false := by simpa using hx1
        clear hx0 hx1
        go_enter Tryz.func117, Tryz.ntmps117
        go_wp2
        all_goals go_ret
        all_goals exact ⟨by rw [HW.out]; rfl, rfl⟩
end Go.Proofs.YtedoghjefdkmaaaGreat
/-
  Der: any bytes as a small number.
-/
namespace Go.Proofs.YtedoghjefdkmaaaGreat
open Go.RowKit
/-- The number of the first i bytes, the first bit being its sign. -/
def iv (X : List Int) : Nat → Int
  | 0 => if 128 ≤ X.getD 0 0 then -1 else 0
  | i + 1 => 256 * iv X i + X.getD i 0
theorem iv_bd {X : List Int} (hU : U8s X) : ∀ i, -(128 * ((256 ^ i : Nat) : Int)) ≤ iv X (i + 1) ∧ iv X (i + 1) < 128 * ((256 ^ i : Nat) : Int)
  | 0 => by
    have h := hU.at 0
    unfold U8 at h
    show -(128 * ((1 : Nat) : Int)) ≤ 256 * (if 128 ≤ X.getD 0 0 then -1 else 0) + X.getD 0 0 ∧ 256 * (if 128 ≤ X.getD 0 0 then -1 else 0) + X.getD 0 0 < 128 * ((1 : Nat) : Int)
    split <;> omega
  | i + 1 => by
    have h := hU.at (i + 1)
    unfold U8 at h
    have h2 := iv_bd hU i
    rw [Nat.pow_succ]
    obtain ⟨P, hP⟩ : ∃ P, 256 ^ i = P := ⟨_, rfl⟩
    rw [hP] at h2 ⊢
    show _ ≤ 256 * iv X (i + 1) + X.getD (i + 1) 0 ∧ 256 * iv X (i + 1) + X.getD (i + 1) 0 < _
    omega
theorem iv_small {X : List Int} (hU : U8s X) (i : Nat) (hi : i ≤ 6) : -36028797018963968 ≤ iv X (i + 1) ∧ iv X (i + 1) < 36028797018963968 := by
  have h := iv_bd hU i
  have h2 : 256 ^ i ≤ 256 ^ 6 := Nat.pow_le_pow_right (by decide) hi
  omega
theorem iv_range {X : List Int} (hU : U8s X) (i : Nat) (hi : i ≤ 7) : -9223372036854775808 ≤ iv X (i + 1) ∧ iv X (i + 1) < 9223372036854775808 := by
  have h := iv_bd hU i
  have h2 : 256 ^ i ≤ 256 ^ 7 := Nat.pow_le_pow_right (by decide) hi
  omega
theorem or_s64 (t x : Int) (h0 : -36028797018963968 ≤ t) (h1 : t < 36028797018963968) (x0 : 0 ≤ x) (x1 : x < 256) : bits .or .i64 (t * 256) x = t * 256 + x := by
  obtain ⟨b, rfl⟩ := Int.eq_ofNat_of_zero_le x0
  obtain ⟨m, hm⟩ : ∃ m : Nat, (m : Int) = t % 72057594037927936 := ⟨(t % 72057594037927936).toNat, by omega⟩
  have e1 : (BitVec.ofInt 64 (t * 256)).toNat = m * 256 := by
    rw [BitVec.toNat_ofInt]
    have : t * 256 % ((2 ^ 64 : Nat) : Int) = ((m * 256 : Nat) : Int) := by
      have : ((2 ^ 64 : Nat) : Int) = 18446744073709551616 := by decide
      rw [this]; omega
    rw [this]; rfl
  have e2 : (BitVec.ofInt 64 ((b : Nat) : Int)).toNat = b := by
    rw [BitVec.ofInt_natCast, BitVec.toNat_ofNat]
    exact Nat.mod_eq_of_lt (by omega)
  have hb : b < 2 ^ 8 := by omega
  show IntKind.i64.wrap ((BitVec.ofInt 64 (t * 256) ||| BitVec.ofInt 64 ((b : Nat) : Int)).toNat : Int) = _
  rw [BitVec.toNat_or, e1, e2, show m * 256 = 2 ^ 8 * m by omega, ← Nat.two_pow_add_eq_or_of_lt hb m, IntKind.wrap_i64]
  have : ((2 ^ 8 * m + b : Nat) : Int) = 256 * (m : Int) + b := by omega
  rw [this]
  omega
theorem wrap_i8 (x : Int) : IntKind.i8.wrap x = (x + 128) % 256 - 128 := by
  simp [IntKind.wrap, IntKind.bits, IntKind.signed]
  omega
def intV (X : List Int) : Int := if intOk X = true ∧ X.length ≤ 8 then iv X X.length else 0
def intE (X : List Int) : Int := if intOk X = false then 6 else if 8 < X.length then 3 else 0
theorem intOk_ne {X : List Int} (h : intOk X = true) : 1 ≤ X.length := by
  cases X with
  | nil => simp [intOk] at h
  | cons x X => simp
end Go.Proofs.YtedoghjefdkmaaaGreat
/-
  Der: the reference's Int.
-/
namespace Go.Proofs.YtedoghjefdkmaaaGreat
open Go.RowKit
end Go.Proofs.YtedoghjefdkmaaaGreat
/-
  Der: the bytes of a small number.
-/
namespace Go.Proofs.YtedoghjefdkmaaaGreat
open Go.RowKit
def qs (n : Int) : Nat → Int
  | 0 => n
  | d + 1 => qs n d / 256
def rsI (n : Int) : Nat → Int
  | 0 => n / 128
  | j + 1 => rsI n j / 256
theorem rsI_qs (n : Int) : ∀ j, rsI n j = qs n j / 128
  | 0 => rfl
  | j + 1 => by
    show rsI n j / 256 = qs n j / 256 / 128
    rw [rsI_qs n j]; omega
def pk (n : Int) (j : Nat) : Prop := rsI n j = 0 ∨ rsI n j = -1
theorem pk_next {n : Int} {j : Nat} (h : pk n j) : pk n (j + 1) := by
  unfold pk at *
  show rsI n j / 256 = 0 ∨ rsI n j / 256 = -1
  omega
theorem pk_more {n : Int} {j : Nat} (h : pk n j) : ∀ d, pk n (j + d)
  | 0 => h
  | d + 1 => pk_next (pk_more h d)
theorem pk_all {n : Int} (h0 : -9223372036854775808 ≤ n) (h1 : n ≤ 9223372036854775807) : pk n 7 := by
  unfold pk
  show n / 128 / 256 / 256 / 256 / 256 / 256 / 256 / 256 = 0 ∨ n / 128 / 256 / 256 / 256 / 256 / 256 / 256 / 256 = -1
  omega
/-- So many bytes it takes. -/
def IsM (n : Int) (m : Nat) : Prop := 1 ≤ m ∧ m ≤ 8 ∧ pk n (m - 1) ∧ (m = 1 ∨ ¬ pk n (m - 2))
theorem IsM.uniq {n : Int} {m m' : Nat} (h : IsM n m) (h' : IsM n m') : m = m' := by
  obtain ⟨a1, a2, a3, a4⟩ := h
  obtain ⟨b1, b2, b3, b4⟩ := h'
  rcases Nat.lt_trichotomy m m' with hlt | heq | hgt
  · rcases b4 with b4 | b4
    · omega
    · have := pk_more a3 (m' - 2 - (m - 1))
      rw [show m - 1 + (m' - 2 - (m - 1)) = m' - 2 by omega] at this
      exact absurd this b4
  · exact heq
  · rcases a4 with a4 | a4
    · omega
    · have := pk_more b3 (m - 2 - (m' - 1))
      rw [show m' - 1 + (m - 2 - (m' - 1)) = m - 2 by omega] at this
      exact absurd this a4
def pI (n : Int) (m : Nat) : List Int := (List.range m).map fun i => qs n (m - 1 - i) % 256
theorem pI_len (n : Int) (m : Nat) : (pI n m).length = m := by unfold pI; simp
theorem pI_get (n : Int) (m i : Nat) (hi : i < m) : (pI n m).getD i 0 = qs n (m - 1 - i) % 256 := by
  unfold pI; simp [List.getD, hi]
theorem shr_qs (n : Int) (d : Nat) (hd : d ≤ 7) : n / 2 ^ (8 * d) = qs n d := by
  have h : d = 0 ∨ d = 1 ∨ d = 2 ∨ d = 3 ∨ d = 4 ∨ d = 5 ∨ d = 6 ∨ d = 7 := by omega
  rcases h with rfl | rfl | rfl | rfl | rfl | rfl | rfl | rfl
  · show n / 1 = n; omega
  · rfl
  · show n / 65536 = n / 256 / 256; omega
  · show n / 16777216 = n / 256 / 256 / 256; omega
  · show n / 4294967296 = n / 256 / 256 / 256 / 256; omega
  · show n / 1099511627776 = n / 256 / 256 / 256 / 256 / 256; omega
  · show n / 281474976710656 = n / 256 / 256 / 256 / 256 / 256 / 256; omega
  · show n / 72057594037927936 = n / 256 / 256 / 256 / 256 / 256 / 256 / 256; omega
theorem set_next (A : List Int) (m i : Nat) (hA : A.length = m) (hi : i < m) : (A.take i ++ List.replicate (m - i) 0).set i (A.getD i 0) = A.take (i + 1) ++ List.replicate (m - (i + 1)) 0 := by
  rw [List.set_append_right _ _ (by rw [List.length_take]; omega), List.length_take, show i - min i A.length = 0 by omega, show m - i = (m - (i + 1)) + 1 by omega, List.replicate_succ, List.set_cons_zero, List.take_succ_eq_append_getElem (by omega), List.append_assoc, List.getD_eq_getElem?_getD, List.getElem?_eq_getElem (by omega)]
  rfl
theorem wrap8 (x : Int) : IntKind.u8.wrap x = x % 256 := IntKind.wrap_u8 x
end Go.Proofs.YtedoghjefdkmaaaGreat
/-
  Der: the reference's bytes of a small number.
-/
namespace Go.Proofs.YtedoghjefdkmaaaGreat
open Go.RowKit
theorem qs_mod (n : Int) (d : Nat) (hd : d ≤ 7) : qs (n % 18446744073709551616) d % 256 = qs n d % 256 := by
  have h : d = 0 ∨ d = 1 ∨ d = 2 ∨ d = 3 ∨ d = 4 ∨ d = 5 ∨ d = 6 ∨ d = 7 := by omega
  rcases h with rfl | rfl | rfl | rfl | rfl | rfl | rfl | rfl
  all_goals
    simp only [qs]
    omega
theorem pI_u8 (n : Int) (m : Nat) : U8s (pI n m) := by
  intro x hx
  unfold pI at hx
  obtain ⟨i, _, rfl⟩ := List.mem_map.1 hx
  unfold U8
  omega
theorem int_pI {n : Int} {m : Nat} (h1 : 1 ≤ m) (hp : pk n (m - 1)) : intOk (pI n m) = true ↔ (m = 1 ∨ ¬ pk n (m - 2)) := by
  unfold intOk
  rw [pI_len]
  by_cases hm : m = 1
  · subst hm; simp
  · obtain ⟨d, rfl⟩ : ∃ d, m = d + 2 := ⟨m - 2, by omega⟩
    rw [if_neg (by omega), pI_get n _ 0 (by omega), pI_get n _ 1 (by omega), show d + 2 - 1 - 0 = d + 1 by omega, show d + 2 - 1 - 1 = d by omega, show d + 2 - 2 = d by omega]
    have hp' : qs n (d + 1) / 128 = 0 ∨ qs n (d + 1) / 128 = -1 := by
      have := hp
      unfold pk at this
      rw [show d + 2 - 1 = d + 1 by omega, rsI_qs] at this
      exact this
    have e : qs n (d + 1) = qs n d / 256 := rfl
    have hq : pk n d ↔ (qs n d / 128 = 0 ∨ qs n d / 128 = -1) := by unfold pk; rw [rsI_qs]
    rw [hq, e]
    rw [e] at hp'
    clear hp hq e
    obtain ⟨a, ha⟩ : ∃ a, qs n d = a := ⟨_, rfl⟩
    rw [ha] at hp' ⊢
    clear ha
    simp only [Bool.not_eq_true', Bool.or_eq_false_iff, Bool.and_eq_false_iff, decide_eq_false_iff_not]
    omega
end Go.Proofs.YtedoghjefdkmaaaGreat
