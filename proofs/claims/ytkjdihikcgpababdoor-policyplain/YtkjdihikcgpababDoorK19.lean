/-
  Text: folding, byte by byte; a character and its bytes.
-/
import Derived.Lib.MapLaws
import Derived.Lib.ValidLaws
import Derived.Shelf.Unicode.ValidAny
import Derived.Test.YtkjdihikcgpababDoorK18
namespace Go.Proofs.YtkjdihikcgpababDoor
open Go.RowKit
def low (c : UInt8) : UInt8 := if 65 ≤ c.toNat ∧ c.toNat ≤ 90 then UInt8.ofNat (c.toNat + 32) else c
def gap (a : List UInt8) (p : Bool) : List UInt8 := if p = true ∧ a ≠ [] then [32] else []
def fstep (st : List UInt8 × Bool) (c : UInt8) : List UInt8 × Bool := if c = 32 then (st.1, true) else (st.1 ++ gap st.1 st.2 ++ [low c], false)
def foldB (l : List UInt8) : List UInt8 := (l.foldl fstep ([], false)).1
theorem low_high {c : UInt8} (h : 128 ≤ c.toNat) : low c = c := by unfold low; rw [if_neg (by omega)]
theorem u8_eq {a b : UInt8} (h : a.toNat = b.toNat) : a = b := UInt8.toNat_inj.1 h
theorem low_nat (c : UInt8) : (low c).toNat = if 65 ≤ c.toNat ∧ c.toNat ≤ 90 then c.toNat + 32 else c.toNat := by
  unfold low
  split
  · rename_i h; simp; omega
  · rfl
theorem low32 (c : UInt8) : low c = 32 ↔ c = 32 := by
  constructor
  · intro h
    have := congrArg UInt8.toNat h
    rw [low_nat] at this
    apply u8_eq
    simp at this ⊢
    split at this <;> omega
  · rintro rfl; rfl
theorem high_foldl : ∀ (m : List UInt8) (a : List UInt8), (∀ x ∈ m, 128 ≤ x.toNat) → m.foldl fstep (a, false) = (a ++ m, false)
  | [], a, _ => by simp
  | x :: m, a, h => by
    have hx := h x (by simp)
    have e : fstep (a, false) x = (a ++ [x], false) := by
      unfold fstep
      rw [if_neg (fun e => by subst e; simp at hx), low_high hx]
      simp [gap]
    rw [List.foldl_cons, e, high_foldl m _ (fun y hy => h y (by simp [hy]))]
    simp
theorem high_fold (m : List UInt8) (hm : m ≠ []) (a : List UInt8) (p : Bool) (h : ∀ x ∈ m, 128 ≤ x.toNat) : m.foldl fstep (a, p) = (a ++ gap a p ++ m, false) := by
  match m, hm with
  | x :: m, _ =>
    have hx := h x (by simp)
    have e : fstep (a, p) x = (a ++ gap a p ++ [x], false) := by
      unfold fstep
      rw [if_neg (fun e => by subst e; simp at hx), low_high hx]
    rw [List.foldl_cons, e, high_foldl m _ (fun y hy => h y (by simp [hy]))]
    simp
/-- What a character that is decoded knows of its bytes. -/
theorem dec_cases (l : List UInt8) (hne : l ≠ []) :
    (∃ b t, l = b :: t ∧ b.toNat < 128 ∧ Lib.decodeL l = (b.toNat, 1)) ∨
    (128 ≤ (Lib.decodeL l).1 ∧ (Lib.decodeL l).1 ≤ 1114111 ∧ 1 ≤ (Lib.decodeL l).2 ∧ (Lib.decodeL l).2 ≤ l.length ∧ (∀ x ∈ l.take (Lib.decodeL l).2, 128 ≤ x.toNat) ∧ ((Lib.decodeL l).1 ≠ 65533 → Lib.encodeRune ((Lib.decodeL l).1 : Int) = l.take (Lib.decodeL l).2)) := by
  match l, hne with
  | b :: t, _ =>
    by_cases hb : b.toNat < 128
    · exact .inl ⟨b, t, rfl, hb, Lib.decodeL_ascii b t hb⟩
    · right
      have hE := Lib.encode_decode (b :: t) (by simp)
      obtain ⟨L, hL⟩ : ∃ L, L = b :: t := ⟨_, rfl⟩
      have h0 : L.getD 0 0 = b := by rw [hL]; rfl
      rw [← hL] at hE ⊢
      rw [Lib.decodeL_N] at hE ⊢
      have hn0 : 0 < L.length := by rw [hL]; simp
      clear hL
      rw [h0] at hE ⊢
      rcases Lib.decodeN_shape L.length b.toNat (L.getD 1 0).toNat (L.getD 2 0).toNat (L.getD 3 0).toNat with ⟨c, e⟩ | ⟨c1, c2, c3, cv, e⟩ | ⟨c1, c2, c3, c4, cv, cs, e⟩ | ⟨c1, c2, c3, c4, c5, cv, cw, e⟩ | e
      · omega
      · rw [e] at hE ⊢
        refine ⟨by dsimp only; omega, by dsimp only; have := b.toNat_lt; omega, by dsimp only; omega, by dsimp only; omega, ?_, fun hn => hE (fun h => hn h.1)⟩
        rw [Lib.takeB L c2, h0]
        intro x hx
        simp only [List.mem_cons, List.not_mem_nil, or_false] at hx
        rcases hx with rfl | rfl <;> omega
      · rw [e] at hE ⊢
        refine ⟨by dsimp only; omega, by dsimp only; have := b.toNat_lt; omega, by dsimp only; omega, by dsimp only; omega, ?_, fun hn => hE (fun h => hn h.1)⟩
        rw [Lib.takeC L c2, h0]
        intro x hx
        simp only [List.mem_cons, List.not_mem_nil, or_false] at hx
        rcases hx with rfl | rfl | rfl <;> omega
      · rw [e] at hE ⊢
        refine ⟨by dsimp only; omega, by dsimp only; omega, by dsimp only; omega, by dsimp only; omega, ?_, fun hn => hE (fun h => hn h.1)⟩
        rw [Lib.takeD L c2, h0]
        intro x hx
        simp only [List.mem_cons, List.not_mem_nil, or_false] at hx
        rcases hx with rfl | rfl | rfl | rfl <;> omega
      · rw [e] at hE ⊢
        refine ⟨by dsimp only; omega, by dsimp only; omega, by dsimp only; omega, by dsimp only; omega, ?_, fun hn => absurd rfl hn⟩
        rw [Lib.takeA L hn0, h0]
        intro x hx
        simp only [List.mem_cons, List.not_mem_nil, or_false] at hx
        subst hx; omega
/-- What is written of the character that stands ahead. -/
def wr1 (l : List UInt8) : List UInt8 := (l.take (Lib.decodeL l).2).map low
theorem map_low_high (m : List UInt8) (h : ∀ x ∈ m, 128 ≤ x.toNat) : m.map low = m := by
  induction m with
  | nil => rfl
  | cons x m ih => rw [List.map_cons, ih (fun y hy => h y (by simp [hy])), low_high (h x (by simp))]
theorem fold_step (l : List UInt8) (hne : l ≠ []) (a : List UInt8) (p : Bool) (h32 : (Lib.decodeL l).1 ≠ 32) : (l.take (Lib.decodeL l).2).foldl fstep (a, p) = (a ++ gap a p ++ wr1 l, false) := by
  rcases dec_cases l hne with ⟨b, t, rfl, hb, e⟩ | ⟨h1, _, h2, h3, h4, _⟩
  · unfold wr1
    rw [e] at h32 ⊢
    have hn : b ≠ 32 := fun h => h32 (by rw [h]; rfl)
    simp [fstep, hn]
  · unfold wr1
    rw [map_low_high _ h4, high_fold _ ?_ a p h4]
    intro h0
    have := congrArg List.length h0
    rw [List.length_take, Nat.min_eq_left h3, List.length_nil] at this
    omega
theorem blank_step (l : List UInt8) (hne : l ≠ []) (h32 : (Lib.decodeL l).1 = 32) : (Lib.decodeL l).2 = 1 ∧ l.take 1 = [32] := by
  rcases dec_cases l hne with ⟨b, t, rfl, hb, e⟩ | ⟨h1, _⟩
  · rw [e] at h32 ⊢
    have : b = 32 := u8_eq (by simpa using h32)
    subst this
    exact ⟨rfl, rfl⟩
  · omega
end Go.Proofs.YtkjdihikcgpababDoor
/-
  Text: putSmall, Fold.
-/
namespace Go.Proofs.YtkjdihikcgpababDoor
open Go.RowKit
def str (l : List UInt8) : ByteArray := ⟨l.toArray⟩
theorem str_size (l : List UInt8) : (str l).size = l.length := by simp [str, ByteArray.size]
theorem str_data (l : List UInt8) : (str l).data.toList = l := by simp [str]
theorem str_eta (s : ByteArray) : str s.data.toList = s := by simp [str]
/-- A range's iterator in another block than b stands as it stood. -/
def IKept (b : Nat) (w w' : World) : Prop := ∀ (k : Nat) (s : ByteArray) (pos : Nat), k ≠ b → w.heap[k]? = some (.stringIter s pos) → w'.heap[k]? = some (.stringIter s pos)
theorem Kpt.ik {b : Nat} {w w' : World} (h : Kpt b w w') : IKept b w w' := fun _ _ _ hb hk => Lib.OthersKept.iter h hk hb
theorem below_ik {b : Nat} {w w' : World} (h : Below w.heap.size w w') : IKept b w w' := fun k _ _ _ hk => by rw [h.block k (heap_lt hk)]; exact hk
theorem IKept.trans {b : Nat} {w w1 w2 : World} (h : IKept b w w1) (k : IKept b w1 w2) : IKept b w w2 := fun n s p hb hn => k n s p hb (h n s p hb hn)
theorem IKept.refl (b : Nat) (w : World) : IKept b w w := fun _ _ _ _ h => h
theorem isGreat_any {w : World} (c : Int) (r : Bool) (hr : r = decide (65 ≤ c ∧ c ≤ 90)) : Calls Tryd.prog 71 #[.int .i32 c] w fun e w' => e = .returned (.bool r) ∧ w = w' := by
  by_cases ha : 65 ≤ c
  · by_cases hb : c ≤ 90
    · have : r = true := by rw [hr]; simp [ha, hb]
      subst this
      clear hr
      go_enter Tryd.func71, Tryd.ntmps71
      go_wp2
      go_ret
      exact ⟨rfl, rfl⟩
    · have : r = false := by rw [hr]; simp; omega
      subst this
      clear hr
      go_enter Tryd.func71, Tryd.ntmps71
      go_wp2
      go_ret
      exact ⟨rfl, rfl⟩
  · have : r = false := by rw [hr]; simp; omega
    subst this
    clear hr
    go_enter Tryd.func71, Tryd.ntmps71
    go_wp2
    go_ret
    exact ⟨rfl, rfl⟩
abbrev U8T (w : World) : Prop := Lib.Utf8Tabs 0 1 w
theorem enc_low (m : List UInt8) (hm : m ≠ []) (hG : 65 ≤ (Lib.decodeL m).1 ∧ (Lib.decodeL m).1 ≤ 90) : Lib.encodeRune (((Lib.decodeL m).1 : Int) + 32) = wr1 m := by
  rcases dec_cases m hm with ⟨b, t, rfl, hb, e⟩ | ⟨h1, _⟩
  · unfold wr1
    rw [e] at hG ⊢
    simp only at hG
    unfold Lib.encodeRune
    rw [Lib.encodeRuneZ_one (by simp only; omega) (by simp only; omega)]
    simp only [List.take_succ_cons, List.take_zero, List.map_cons, List.map_nil]
    congr 1
    apply u8_eq
    rw [low_nat, if_pos hG]
    simp
    omega
  · omega
theorem enc_same (m : List UInt8) (hm : m ≠ []) (hG : ¬ (65 ≤ (Lib.decodeL m).1 ∧ (Lib.decodeL m).1 ≤ 90)) (hE : (Lib.decodeL m).1 ≠ 65533) : Lib.encodeRune ((Lib.decodeL m).1 : Int) = wr1 m := by
  rcases dec_cases m hm with ⟨b, t, rfl, hb, e⟩ | ⟨h1, _, _, _, h4, h5⟩
  · unfold wr1
    rw [e] at hG ⊢
    simp only at hG
    unfold Lib.encodeRune
    rw [Lib.encodeRuneZ_one (by simp only; omega) (by simp only; omega)]
    simp only [List.take_succ_cons, List.take_zero, List.map_cons, List.map_nil]
    congr 1
    apply u8_eq
    rw [low_nat, if_neg hG]
    simp
  · unfold wr1
    rw [map_low_high _ h4, h5 hE]
theorem err_same (m : List UInt8) (hm : m ≠ []) (hE : (Lib.decodeL m).1 = 65533) : m.take (Lib.decodeL m).2 = wr1 m := by
  rcases dec_cases m hm with ⟨b, t, rfl, hb, e⟩ | ⟨h1, _, _, _, h4, h5⟩
  · rw [e] at hE; simp only at hE; omega
  · unfold wr1
    rw [map_low_high _ h4]
set_option maxHeartbeats 2000000 in
set_option maxRecDepth 100000 in
theorem putSmall_any {w : World} (B b : Nat) (l : List UInt8) (m : List UInt8) (hm : m ≠ []) (hml : m.length ≤ 1000000) (h : Bld B b l w) (hlen : l.length ≤ 1000000) (hBw : B ≤ w.heap.size) (hT : U8T w) :
    Calls Tryd.prog 68 #[.pointer (some ⟨b, 0, none⟩), .int .i32 (Lib.decodeL m).1, .string (str m)] w fun e w' => e = .returned (.tuple #[]) ∧ Bld B b (l ++ wr1 m) w' ∧ Below B w w' ∧ IKept b w w' := by
  have hr1 : (Lib.decodeL m).1 ≤ 1114111 := Lib.decodeL_rune m
  have HL := enc_low m hm
  have HS := enc_same m hm
  have HE := err_same m hm
  have hlt : (Lib.decodeL m).2 ≤ m.length := by
    rcases dec_cases m hm with ⟨b, t, rfl, hb, e⟩ | ⟨_, _, _, h3, _⟩
    · rw [e]; simp
    · exact h3
  have hdg : Lib.decodeGo (str m) = Lib.decodeL m := by
    show (if (str m).size = 0 then (65533, 0) else Utf8.decode (str m) 0) = _
    rw [if_neg (by rw [str_size]; intro h0; exact hm (List.eq_nil_of_length_eq_zero h0))]
    rfl
  obtain ⟨R, hR⟩ : ∃ R, (Lib.decodeL m).1 = R := ⟨_, rfl⟩
  obtain ⟨K, hK⟩ : ∃ K, (Lib.decodeL m).2 = K := ⟨_, rfl⟩
  have HD : Hid (∀ w, U8T w → Calls Tryd.prog 76 #[.string (str m)] w fun e w' => e = .returned (.tuple #[.int .i32 R, .int .i64 K]) ∧ Below w.heap.size w w') := fun w hT => by
    have := Tryd.utf8_DecodeRuneInString (str m) w hT
    rw [hdg, hR, hK] at this
    exact this
  rw [hR] at HL HS HE hr1 ⊢
  rw [hK] at HE hlt
  clear hdg hR hK
  have hz : (str m).size = m.length := str_size m
  have hx : (str m).extract 0 K = str (m.take K) := by
    unfold str
    apply ByteArray.ext
    simp [ByteArray.data_extract]
  obtain ⟨S, hS⟩ : ∃ S, str m = S := ⟨_, rfl⟩
  rw [hS] at HD hz hx ⊢
  clear hS
  by_cases hG : 65 ≤ R ∧ R ≤ 90
  · have hL := HL hG
    have g0 : (65 : Int) ≤ R := by omega
    have g1 : (R : Int) ≤ 90 := by omega
    have HX : Hid (Bld B b l w ∧ Lib.encodeRune ((R : Int) + 32) = wr1 m) := ⟨h, hL⟩
    clear HL HS HE h hL HD hx hz hT
    go_enter Tryd.func68, Tryd.ntmps68
    go_wp2_with (go_at_call 71; refine (isGreat_any _ true (by simp; omega)).mono ?_; rintro e w' ⟨rfl, rfl⟩)
    have hr : (R : Int) - 65 + 97 = R + 32 := by omega
    rw [hr]
    refine (WriteRune_k B b l ((R : Int) + 32) (by omega) (by omega) HX.out.1 (by omega) hBw).mono ?_
    rintro e w1 ⟨⟨n, rfl⟩, hb, hB, hk⟩
    rw [HX.out.2] at hb
    go_wp2
    go_end0
    exact ⟨rfl, hb, hB, hk.ik⟩
  · by_cases hE : R = 65533
    · subst hE
      have HX : Hid (Bld B b l w ∧ U8T w ∧ m.take K = wr1 m) := ⟨h, hT, HE rfl⟩
      have HXX : Hid (S.extract 0 K = str (m.take K)) := hx
      have kz : (K : Int) ≤ (S.size : Int) := by omega
      have HZ : Hid (S.size = m.length) := hz
      have HKL : Hid (K ≤ m.length) := hlt
      clear HL HS HE h hx hT hz hlt hG
      go_enter Tryd.func68, Tryd.ntmps68
      go_wp2_with (go_at_call 71; refine (isGreat_any _ false (by simp)).mono ?_; rintro e w' ⟨rfl, rfl⟩)
      refine (HD.out _ HX.out.2.1).mono ?_
      rintro e w1 ⟨rfl, hb1⟩
      go_wp2_with fail
      rw [HXX.out]
      refine (WriteString_k B b l (str (m.take K)) (HX.out.1.below hb1) (by omega) (by rw [str_size, List.length_take]; omega) (by have := hb1.size; omega)).mono ?_
      rintro e w2 ⟨rfl, hb, hB, hk⟩
      rw [str_data, HX.out.2.2] at hb
      go_wp2
      go_end0
      exact ⟨rfl, hb, (hb1.mono hBw).trans hB, (below_ik hb1).trans hk.ik⟩
    · have HX : Hid (Bld B b l w ∧ Lib.encodeRune (R : Int) = wr1 m) := ⟨h, HS hG hE⟩
      have nE : ¬ (R : Int) = 65533 := by omega
      have HG : Hid (¬ (65 ≤ R ∧ R ≤ 90)) := hG
      have HR : Hid (R ≤ 1114111) := hr1
      clear HL HS HE h HD hx hz hT hG hE hlt
      go_enter Tryd.func68, Tryd.ntmps68
      go_wp2_with (go_at_call 71; refine (isGreat_any _ false (by have := HG.out; simp; omega)).mono ?_; rintro e w' ⟨rfl, rfl⟩)
      refine (WriteRune_k B b l (R : Int) (by omega) (by have := HR.out; omega) HX.out.1 (by omega) hBw).mono ?_
      rintro e w1 ⟨⟨n, rfl⟩, hb, hB, hk⟩
      rw [HX.out.2] at hb
      go_wp2
      go_end0
      exact ⟨rfl, hb, hB, hk.ik⟩
def fst0 (l : List UInt8) (k : Nat) : List UInt8 × Bool := (l.take k).foldl fstep ([], false)
theorem fstep_len (st : List UInt8 × Bool) (c : UInt8) : (fstep st c).1.length + (if (fstep st c).2 then 1 else 0) ≤ st.1.length + (if st.2 then 1 else 0) + 1 := by
  unfold fstep gap
  split
  · simp only [if_true]
    split <;> omega
  · rcases st with ⟨a, p⟩
    cases p <;> simp <;> split <;> simp
theorem foldl_len : ∀ (m : List UInt8) (st : List UInt8 × Bool), (m.foldl fstep st).1.length + (if (m.foldl fstep st).2 then 1 else 0) ≤ st.1.length + (if st.2 then 1 else 0) + m.length
  | [], st => Nat.le_refl _
  | c :: m, st => by
    have h1 := fstep_len st c
    have h2 := foldl_len m (fstep st c)
    rw [List.foldl_cons, List.length_cons]
    omega
theorem fst0_len (l : List UInt8) (k : Nat) (hk : k ≤ l.length) : (fst0 l k).1.length ≤ k := by
  have := foldl_len (l.take k) ([], false)
  rw [List.length_take, Nat.min_eq_left hk] at this
  simp at this
  unfold fst0
  omega
theorem fst0_next (l : List UInt8) (k j : Nat) : fst0 l (k + j) = ((l.drop k).take j).foldl fstep (fst0 l k) := by
  unfold fst0
  rw [List.take_add, List.foldl_append]
theorem drop_ext (S : ByteArray) (l : List UInt8) (pos : Nat) (h : S.data.toList = l) : S.extract pos S.size = str (l.drop pos) := by
  apply ByteArray.ext
  apply Array.ext'
  rw [str_data, Lib.extract_eq, h]
  have hz : S.size = l.length := by rw [← h, Array.length_toList]; rfl
  rw [hz, List.take_of_length_le (by simp)]
theorem iter_new (w : World) (o : Obj) (S : ByteArray) : ((w.alloc o).iter S 0).heap[w.heap.size + 1]? = some (.stringIter S 0) := by
  have := World.iter_heap (w.alloc o) S 0
  simpa using this
theorem Len_k {w : World} (B b : Nat) (l : List UInt8) (h : Bld B b l w) : Calls Tryd.prog 67 #[.pointer (some ⟨b, 0, none⟩)] w fun e w' => e = .returned (.int .i64 l.length) ∧ w = w' := by
  have := Tryd.Builder_Len_f B b _ w h
  rw [Lib.byteCells_length] at this
  exact this.mono fun e w' h => ⟨h.1, h.2.symm⟩
theorem gap_nil (A : List UInt8) (p : Bool) (h : p = false ∨ A = []) : gap A p = [] := by
  unfold gap
  rcases h with rfl | rfl <;> simp
theorem gap_one (A : List UInt8) (h : A ≠ []) : gap A true = [32] := by unfold gap; simp [h]
set_option maxHeartbeats 4000000 in
set_option maxRecDepth 100000 in
theorem Fold_any {w : World} (l : List UInt8) (hl : l.length ≤ 100000) (hT : U8T w) :
    Calls Tryd.prog 56 #[.string (str l)] w fun e w' => e = .returned (.string (str (foldB l))) ∧ Below w.heap.size w w' := by
  obtain ⟨S, hS⟩ : ∃ S, str l = S := ⟨_, rfl⟩
  have hz : S.size = l.length := by rw [← hS]; exact str_size l
  have hd : S.data.toList = l := by rw [← hS]; exact str_data l
  have HT : Hid (U8T w) := hT
  have HS : Hid (str l = S ∧ S.data.toList = l ∧ S.size = l.length) := ⟨hS, hd, hz⟩
  rw [hS]
  clear hS hd hT hz
  go_enter Tryd.func56, Tryd.ntmps56
  go_wp2
  go_loopw [4] (fun bl wr => ∃ (pos n : Nat), bl = .int .i64 n ∧ Bld w.heap.size w.heap.size (fst0 l pos).1 wr ∧ wr.heap[w.heap.size + 1]? = some (.stringIter S pos) ∧ Below w.heap.size w wr ∧ (fst0 l pos).2 = decide (0 < n) ∧ pos ≤ l.length ∧ n ≤ pos) (fun _ wr => l.length - wr.iterPos (w.heap.size + 1))
  case atStart =>
    exact ⟨0, 0, rfl, Bld.fresh w _, iter_new w _ S, ((Below.refl _ w).alloc (Nat.le_refl _) _).alloc (by simp) _, rfl, Nat.zero_le _, Nat.le_refl _⟩
  case round =>
    obtain ⟨pos, n, rfl, hI, hit, hbw, hp, hpl, hnp⟩ := hrel
    have hsz : w.heap.size + 1 < wr.heap.size := heap_lt hit
    have hal := fst0_len l pos hpl
    have HM : Hid (wr.iterPos (w.heap.size + 1) = pos) := by
      show _ = _
      unfold World.iterPos; rw [hit]
    by_cases hlt : pos < l.length
    · have hps : pos < S.size := by rw [HS.out.2.2]; exact hlt
      have hnx := fun ty => Lib.run_next_any_at (P := Tryd.prog) wr (w.heap.size + 1) S pos ty hit hps
      have hdl : Utf8.decode S pos = Lib.decodeL (l.drop pos) := by rw [← Lib.decodeL_drop, HS.out.2.1]
      rw [hdl] at hnx
      have hne : l.drop pos ≠ [] := by intro h0; have := congrArg List.length h0; simp at this; omega
      have hw1 := Lib.decodeL_width (l.drop pos)
      have hwl : pos + (Lib.decodeL (l.drop pos)).2 ≤ l.length := by
        rcases dec_cases _ hne with ⟨b, t, e0, hb, e⟩ | ⟨_, _, _, h3, _⟩
        · rw [e]; simp only; omega
        · rw [List.length_drop] at h3; omega
      have hN := fst0_next l pos (Lib.decodeL (l.drop pos)).2
      have hfs := fold_step (l.drop pos) hne (fst0 l pos).1 (fst0 l pos).2
      have hbs := blank_step (l.drop pos) hne
      have hrl := Lib.decodeL_rune (l.drop pos)
      have hx := drop_ext S l pos HS.out.2.1
      obtain ⟨A, p, hAp⟩ : ∃ A p, fst0 l pos = (A, p) := ⟨_, _, rfl⟩
      rw [hAp] at hN hfs hI hp hal
      simp only at hfs hI hp hal
      obtain ⟨m, hm⟩ : ∃ m, l.drop pos = m := ⟨_, rfl⟩
      have HPS : Hid (∀ (W : World) (X : List UInt8), X.length ≤ 1000000 → Bld w.heap.size w.heap.size X W → w.heap.size ≤ W.heap.size → U8T W → Calls Tryd.prog 68 #[.pointer (some ⟨w.heap.size, 0, none⟩), .int .i32 (Lib.decodeL m).1, .string (S.extract pos S.size)] W fun e w' => e = .returned (.tuple #[]) ∧ Bld w.heap.size w.heap.size (X ++ wr1 m) w' ∧ Below w.heap.size W w' ∧ IKept w.heap.size W w') := fun W X h1 h2 h3 h4 => by
        rw [hx, hm]
        exact putSmall_any w.heap.size w.heap.size X m (hm ▸ hne) (by rw [← hm, List.length_drop]; omega) h2 h1 h3 h4
      rw [hm] at hnx hw1 hwl hN hfs hbs hrl hne
      clear hx hdl
      obtain ⟨R, hR⟩ : ∃ R, (Lib.decodeL m).1 = R := ⟨_, rfl⟩
      obtain ⟨K, hK⟩ : ∃ K, (Lib.decodeL m).2 = K := ⟨_, rfl⟩
      rw [hR] at hnx hfs hbs HPS hrl
      rw [hK] at hnx hw1 hwl hN hfs hbs
      clear hR hK
      have hI2 : Bld w.heap.size w.heap.size A (wr.iterAt (w.heap.size + 1) S (pos + K)) := Lib.IsBuilderF.iterAt hI hit (pos + K)
      have hit2 := Lib.iterAt_heap wr (w.heap.size + 1) S pos (pos + K) hit
      have hbw2 := Lib.below_iterAt hbw (k := w.heap.size + 1) (by omega) S (pos + K)
      clear hI hit hbw
      by_cases h32 : R = 32
      · subst h32
        obtain ⟨rfl, h1⟩ := hbs rfl
        have HF : Hid (fst0 l (pos + 1) = (A, true)) := by
          show _ = _
          rw [hN, h1]; rfl
        have HX : Hid (Bld w.heap.size w.heap.size A (wr.iterAt (w.heap.size + 1) S (pos + 1)) ∧ (wr.iterAt (w.heap.size + 1) S (pos + 1)).heap[w.heap.size + 1]? = some (.stringIter S (pos + 1)) ∧ Below w.heap.size w (wr.iterAt (w.heap.size + 1) S (pos + 1))) := ⟨hI2, hit2, hbw2⟩
        clear hN hfs hbs h1 hI2 hit2 hbw2 HPS hAp hm
        go_wp2
        go_roundw
        case rel => exact ⟨pos + 1, n + 1, by go_num, by rw [HF.out]; exact HX.out.1, HX.out.2.1, HX.out.2.2, by rw [HF.out]; simp, by omega, by omega⟩
        case measure =>
          have e : (wr.iterAt (w.heap.size + 1) S (pos + 1)).iterPos (w.heap.size + 1) = pos + 1 := by unfold World.iterPos; rw [HX.out.2.1]
          rw [e, HM.out]; omega
      · have hF := hfs h32
        have r32 : ¬ (R : Int) = 32 := by omega
        clear hfs hbs
        rw [hF] at hN
        clear hF
        obtain ⟨W0, hW0⟩ : ∃ W0, wr.iterAt (w.heap.size + 1) S (pos + K) = W0 := ⟨_, rfl⟩
        rw [hW0] at hnx hI2 hit2 hbw2
        clear hW0
        have HX : Hid (Bld w.heap.size w.heap.size A W0 ∧ W0.heap[w.heap.size + 1]? = some (.stringIter S (pos + K)) ∧ Below w.heap.size w W0) := ⟨hI2, hit2, hbw2⟩
        have kz : (pos : Int) ≤ (S.size : Int) := by omega
        clear hI2 hit2 hbw2 h32 hm hAp hsz hlt hps
        have fin : ∀ (X : List UInt8) (W : World), fst0 l (pos + K) = (X ++ wr1 m, false) → Bld w.heap.size w.heap.size (X ++ wr1 m) W → Below w.heap.size W0 W → IKept w.heap.size W0 W →
            (∃ (pos' n' : Nat), (Value.int .i64 0) = .int .i64 n' ∧ Bld w.heap.size w.heap.size (fst0 l pos').1 W ∧ W.heap[w.heap.size + 1]? = some (.stringIter S pos') ∧ Below w.heap.size w W ∧ (fst0 l pos').2 = decide (0 < n') ∧ pos' ≤ l.length ∧ n' ≤ pos') ∧ l.length - W.iterPos (w.heap.size + 1) < l.length - wr.iterPos (w.heap.size + 1) := by
          intro X W e1 h1 h2 h3
          have hi := h3 _ S (pos + K) (by omega) HX.out.2.1
          refine ⟨⟨pos + K, 0, rfl, by rw [e1]; exact h1, hi, HX.out.2.2.trans h2, by rw [e1]; rfl, hwl, by omega⟩, ?_⟩
          have e : W.iterPos (w.heap.size + 1) = pos + K := by unfold World.iterPos; rw [hi]
          rw [e, HM.out]; omega
        have HFIN : Hid _ := fin
        clear fin
        by_cases hn : n = 0
        · subst hn
          have hg : gap A p = [] := gap_nil _ _ (.inl (by simpa using hp))
          rw [hg, List.append_nil] at hN
          have HN : Hid (fst0 l (pos + K) = (A ++ wr1 m, false)) := hN
          clear hN hg hp hne
          go_wp2_with fail
          refine (HPS.out _ A (by omega) HX.out.1 (by have := HX.out.2.2.size; omega) (HX.out.2.2 |> fun h => Utf8Tabs_below HT.out h)).mono ?_
          rintro e W1 ⟨rfl, h1, h2, h3⟩
          have H := HFIN.out A W1 HN.out h1 h2 h3
          have HH : Hid _ := H
          clear H h1 h2 h3 hnx
          go_wp2
          go_roundw
          case rel => exact HH.out.1
          case measure => exact HH.out.2
        · have n0 : (0 : Int) < (n : Int) := by omega
          have hp1 : p = true := by rw [hp]; simp; omega
          subst hp1
          clear hp
          by_cases hA : A = []
          · subst hA
            rw [gap_nil _ _ (.inr rfl), List.append_nil] at hN
            have HN : Hid (fst0 l (pos + K) = ([] ++ wr1 m, false)) := hN
            clear hN hne
            go_wp2_with (go_at_call 67; refine (Len_k _ _ [] HX.out.1).mono ?_; rintro e w' ⟨rfl, rfl⟩)
            refine (HPS.out _ [] (by simp) HX.out.1 (by have := HX.out.2.2.size; omega) (HX.out.2.2 |> fun h => Utf8Tabs_below HT.out h)).mono ?_
            rintro e W1 ⟨rfl, h1, h2, h3⟩
            have H := HFIN.out [] W1 HN.out h1 h2 h3
            have HH : Hid _ := H
            clear H h1 h2 h3 hnx
            go_wp2
            go_roundw
            case rel => exact HH.out.1
            case measure => exact HH.out.2
          · rw [gap_one A hA] at hN
            have HN : Hid (fst0 l (pos + K) = ((A ++ [32]) ++ wr1 m, false)) := hN
            have a0 : (0 : Int) < (A.length : Int) := by have := List.length_pos_iff.2 hA; omega
            clear hN hne hA
            go_wp2_with (go_at_call 67; refine (Len_k _ _ A HX.out.1).mono ?_; rintro e w' ⟨rfl, rfl⟩)
            refine (WriteByte_k w.heap.size w.heap.size A 32 HX.out.1 (by omega) (by have := HX.out.2.2.size; omega)).mono ?_
            rintro e W1 ⟨rfl, h1, h2, h3⟩
            have H1 : Hid (Bld w.heap.size w.heap.size (A ++ [32]) W1 ∧ Below w.heap.size W0 W1 ∧ Kpt w.heap.size W0 W1) := ⟨h1, h2, h3⟩
            clear h1 h2 h3
            go_wp2_with fail
            refine (HPS.out _ (A ++ [32]) (by simp; omega) H1.out.1 (by have := (HX.out.2.2.trans H1.out.2.1).size; omega) (Utf8Tabs_below HT.out (HX.out.2.2.trans H1.out.2.1))).mono ?_
            rintro e W2 ⟨rfl, h1, h2, h3⟩
            have H := HFIN.out (A ++ [32]) W2 HN.out h1 (H1.out.2.1.trans h2) (H1.out.2.2.ik.trans h3)
            have HH : Hid _ := H
            clear H h1 h2 h3 hnx
            go_wp2
            go_roundw
            case rel => exact HH.out.1
            case measure => exact HH.out.2
    · have hps : ¬ pos < S.size := by rw [HS.out.2.2]; exact hlt
      have hnx := fun ty => Lib.run_next_end_at (P := Tryd.prog) wr (w.heap.size + 1) S pos ty hit hps
      have HX : Hid (Bld w.heap.size w.heap.size (fst0 l pos).1 wr ∧ Below w.heap.size w wr ∧ l.take pos = l) := ⟨hI, hbw, List.take_of_length_le (by omega)⟩
      clear hI hit hbw hp hps hlt
      go_wp2_with fail
      refine (Tryd.Builder_String_any_k w.heap.size w.heap.size (fst0 l pos).1 _ HX.out.1 (by omega)).mono ?_
      rintro e W1 ⟨rfl, _, b1, _⟩
      go_wp2
      go_ret
      refine ⟨?_, HX.out.2.1.trans b1⟩
      show Ending.returned (.string (str (fst0 l pos).1)) = _
      unfold fst0 foldB
      rw [HX.out.2.2]
end Go.Proofs.YtkjdihikcgpababDoor
