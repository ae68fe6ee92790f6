/-
  Text: the reference's utf8, printable.
-/
import Derived.Test.YtonekkfpadgdhaaDoorT17
namespace Go.Proofs.YtonekkfpadgdhaaDoor
open Go.RowKit
def wh (m : List UInt8) : Nat := if (Lib.decodeL m).1 = 65533 ∧ (Lib.decodeL m).2 = 1 then 0 else (Lib.decodeL m).2
theorem getD_drop (l : List UInt8) (i k : Nat) : (l.drop i).getD k 0 = l.getD (i + k) 0 := by simp [List.getD]
theorem whole_any {w : World} (v : Value) (l : List UInt8) (i : Nat) (hX : Sl .u8 w v (nums l)) (hi : i < l.length) (hl : l.length ≤ 100000) :
    Calls Tryd.prog 43 #[v, .int .i64 i] w fun e w' => e = .returned (.int .i64 (wh (l.drop i))) ∧ w = w' := by
  obtain ⟨a, c, rfl, hc, hr⟩ := hX
  rw [nums_len] at hc ⊢
  rcases hr with hn | ⟨b, off, rfl, hb, hrd⟩
  · have := congrArg List.length hn
    rw [nums_len, List.length_nil] at this
    omega
  have ce : ∀ k, i + k < l.length → w.cell? ⟨b, off + (i + k), none⟩ = some (.int .u8 ((l.getD (i + k) 0).toNat : Int)) := fun k hk => by
    have := hrd (i + k) (by rw [nums_len]; exact hk)
    rw [nums_get l _ hk] at this; exact this
  have hA : At4 w b off i l.length (l.getD i 0).toNat (l.getD (i + 1) 0).toNat (l.getD (i + 2) 0).toNat (l.getD (i + 3) 0).toNat := ⟨ce 0 hi, ce 1, ce 2, ce 3⟩
  have hw : wh (l.drop i) = whN (l.length - i) (l.getD i 0).toNat (l.getD (i + 1) 0).toNat (l.getD (i + 2) 0).toNat (l.getD (i + 3) 0).toNat := by
    unfold wh
    rw [Lib.decodeL_N, wh_dec _ _ _ _ _ (UInt8.toNat_lt _) (UInt8.toNat_lt _) (UInt8.toNat_lt _) (UInt8.toNat_lt _), List.length_drop, getD_drop, getD_drop, getD_drop, getD_drop]
    rfl
  rw [hw]
  have h0 := UInt8.toNat_lt (l.getD i 0)
  have h1 := UInt8.toNat_lt (l.getD (i + 1) 0)
  have h2 := UInt8.toNat_lt (l.getD (i + 2) 0)
  have h3 := UInt8.toNat_lt (l.getD (i + 3) 0)
  generalize (l.getD i 0).toNat = x0 at hA h0 ⊢
  generalize (l.getD (i + 1) 0).toNat = x1 at hA h1 ⊢
  generalize (l.getD (i + 2) 0).toNat = x2 at hA h2 ⊢
  generalize (l.getD (i + 3) 0).toNat = x3 at hA h3 ⊢
  by_cases g1 : x0 < 128
  · exact whole_low b off c i _ x0 x1 x2 x3 hA hi hc hl h0 h1 h2 h3 g1
  · by_cases g2 : x0 < 192 ∨ 248 ≤ x0
    · exact whole_none b off c i _ x0 x1 x2 x3 hA hi hc hl h0 h1 h2 h3 (by omega) g2
    · by_cases g3 : x0 < 224
      · exact whole_2 b off c i _ x0 x1 x2 x3 hA hi hc hl h0 h1 h2 h3 (by omega) g3
      · by_cases g4 : x0 < 240
        · exact whole_3 b off c i _ x0 x1 x2 x3 hA hi hc hl h0 h1 h2 h3 (by omega) g4
        · exact whole_4 b off c i _ x0 x1 x2 x3 hA hi hc hl h0 h1 h2 h3 (by omega) (by omega)
theorem wh_step (m : List UInt8) (hm : m ≠ []) : (wh m = 0 → Lib.validD m = false) ∧ (wh m ≠ 0 → Lib.validD m = Lib.validD (m.drop (wh m)) ∧ wh m ≤ m.length) := by
  have hv := Lib.validD_step m hm
  have hle : (Lib.decodeL m).2 ≤ m.length := by
    rcases dec_cases m hm with ⟨b, t, rfl, hb, e⟩ | ⟨_, _, _, h3, _⟩
    · rw [e]; simp
    · exact h3
  have h1 := Lib.decodeL_width m
  unfold wh
  by_cases hb : (Lib.decodeL m).1 = 65533 ∧ (Lib.decodeL m).2 = 1
  · rw [if_pos hb] at hv ⊢
    exact ⟨fun _ => hv, fun h => absurd rfl h⟩
  · rw [if_neg hb] at hv ⊢
    exact ⟨fun h => by omega, fun _ => ⟨hv, hle⟩⟩
set_option maxHeartbeats 2000000 in
set_option maxRecDepth 100000 in
theorem RUtf8_any {w : World} (v : Value) (l : List UInt8) (hX : Sl .u8 w v (nums l)) (hl : l.length ≤ 100000) :
    Calls Tryd.prog 28 #[v] w fun e w' => e = .returned (.bool (Lib.validD l)) ∧ Below w.heap.size w w' := by
  have HX : Hid (Sl .u8 w v (nums l)) := hX
  obtain ⟨a, c, rfl, -⟩ := sl_str hX
  obtain ⟨n, hn⟩ : ∃ n, l.length = n := ⟨_, rfl⟩
  have HN : Hid (l.length = n) := hn
  rw [hn] at HX hl ⊢
  have nz : (n : Int) ≤ 100000 := by omega
  clear hX hn
  go_enter Tryd.func28, Tryd.ntmps28
  go_wp2
  go_loopw [3] (fun iv wr => ∃ i : Nat, iv = .int .i64 i ∧ i ≤ n ∧ Lib.validD l = Lib.validD (l.drop i) ∧ Below w.heap.size w wr) (fun iv _ => n - (intOf iv).toNat)
  case atStart => exact ⟨0, rfl, Nat.zero_le _, rfl, Below.refl _ _⟩
  case round =>
    obtain ⟨i, rfl, hi, hv, hb⟩ := hrel
    have HB : Hid (Below w.heap.size w wr) := hb
    clear hb
    by_cases hlt : i < n
    · have z1 : (i : Int) < (n : Int) := by omega
      have hne : l.drop i ≠ [] := by intro h0; have := congrArg List.length h0; simp at this; have := HN.out; omega
      have hst := wh_step (l.drop i) hne
      rw [List.drop_drop, List.length_drop, HN.out] at hst
      have HW : Hid (∀ W, Below w.heap.size w W → Calls Tryd.prog 43 #[.slice a n c, .int .i64 i] W fun e w' => e = .returned (.int .i64 (wh (l.drop i))) ∧ W = w') := fun W hW => whole_any _ l i (below_sl hW HX.out) (by rw [HN.out]; exact hlt) (by rw [HN.out]; exact hl)
      obtain ⟨k, hk⟩ : ∃ k, wh (l.drop i) = k := ⟨_, rfl⟩
      rw [hk] at hst HW
      clear hk hne
      by_cases k0 : k = 0
      · subst k0
        have HF : Hid (Lib.validD l = false) := by show _ = _; rw [hv, hst.1 rfl]
        clear hst hv
        go_wp2_with (go_at_call 43; refine (HW.out _ HB.out).mono ?_; rintro e w' ⟨rfl, rfl⟩)
        go_ret
        exact ⟨by rw [HF.out]; rfl, HB.out⟩
      · obtain ⟨h1, h2⟩ := hst.2 k0
        have HF : Hid (Lib.validD l = Lib.validD (l.drop (i + k))) := by show _ = _; rw [hv, h1]
        have kz : ((k : Int) == 0) = false := by rw [beq_eq_false_iff_ne]; omega
        have kl : (i : Int) + (k : Int) ≤ (n : Int) := by omega
        clear hst hv h1
        go_wp2_with (go_at_call 43; refine (HW.out _ HB.out).mono ?_; rintro e w' ⟨rfl, rfl⟩)
        go_roundw
        case rel => exact ⟨i + k, by go_num, by omega, HF.out, HB.out⟩
        case measure => simp [intOf]; omega
    · have HF : Hid (Lib.validD l = true) := by
        show _ = _
        rw [hv, List.drop_of_length_le (by rw [HN.out]; omega)]; rfl
      have z1 : ¬ (i : Int) < (n : Int) := by omega
      clear hv
      go_wp2
      go_ret
      exact ⟨by rw [HF.out]; rfl, HB.out⟩
def mk2 : ByteArray := ⟨#[32, 39, 40, 41, 43, 44, 45, 46, 47, 58, 61, 63]⟩
def plainP (c : Nat) : Bool := decide ((65 ≤ c ∧ c ≤ 90) ∨ (97 ≤ c ∧ c ≤ 122) ∨ (48 ≤ c ∧ c ≤ 57))
set_option maxRecDepth 100000 in
theorem pP_mk : ∀ c : Fin 256, pP c.val = (plainP c.val || mk2.data.toList.any fun y => y.toNat == c.val) := by decide +kernel
theorem mk2_size : mk2.size = 12 := rfl
def isY (x : UInt8) (l : List UInt8) : Bool := l.any fun y => y.toNat == x.toNat
theorem isY_snoc (x : UInt8) (l : List UInt8) (i : Nat) (h : i < l.length) : isY x (l.take (i + 1)) = (isY x (l.take i) || ((l.getD i 0).toNat == x.toNat)) := by
  unfold isY
  rw [List.take_add_one, List.getElem?_eq_getElem h, List.any_append]
  simp [h]
theorem isY_cut (x : UInt8) (l : List UInt8) (i : Nat) (h : isY x (l.take i) = true) : isY x l = true := by
  unfold isY at *
  rw [← List.take_append_drop i l, List.any_append, h]; rfl
theorem pP_byte (x : UInt8) : pP x.toNat = (plainP x.toNat || isY x mk2.data.toList) := pP_mk ⟨x.toNat, x.toNat_lt⟩
theorem mk2_str : str mk2.data.toList = mk2 := rfl
set_option maxHeartbeats 2000000 in
set_option maxRecDepth 100000 in
theorem Rprintable_any {w : World} (x : UInt8) : Calls Tryd.prog 29 #[.int .u8 x.toNat] w fun e w' => e = .returned (.bool (pP x.toNat)) ∧ Below w.heap.size w w' := by
  have x256 : (x.toNat : Int) < 256 := by have := x.toNat_lt; omega
  rw [pP_byte]
  by_cases hp : plainP x.toNat = true
  · have HP : Hid (plainP x.toNat = true) := hp
    unfold plainP at hp
    have hp' := of_decide_eq_true hp
    clear hp
    rcases hp' with ⟨h1, h2⟩ | ⟨h1, h2⟩ | ⟨h1, h2⟩
    · have g1 : (65 : Int) ≤ (x.toNat : Int) := by omega
      have g2 : (x.toNat : Int) ≤ 90 := by omega
      go_enter Tryd.func29, Tryd.ntmps29
      go_wp2
      go_ret
      exact ⟨by rw [HP.out]; rfl, Below.refl _ _⟩
    · have g1 : (65 : Int) ≤ (x.toNat : Int) := by omega
      have g2 : ¬ (x.toNat : Int) ≤ 90 := by omega
      have g3 : (97 : Int) ≤ (x.toNat : Int) := by omega
      have g4 : (x.toNat : Int) ≤ 122 := by omega
      go_enter Tryd.func29, Tryd.ntmps29
      go_wp2
      go_ret
      exact ⟨by rw [HP.out]; rfl, Below.refl _ _⟩
    · have g1 : ¬ (65 : Int) ≤ (x.toNat : Int) := by omega
      have g3 : ¬ (97 : Int) ≤ (x.toNat : Int) := by omega
      have g5 : (48 : Int) ≤ (x.toNat : Int) := by omega
      have g6 : (x.toNat : Int) ≤ 57 := by omega
      go_enter Tryd.func29, Tryd.ntmps29
      go_wp2
      go_ret
      exact ⟨by rw [HP.out]; rfl, Below.refl _ _⟩
  · have hpf : plainP x.toNat = false := by simpa using hp
    rw [hpf, Bool.false_or]
    have hn : ¬ ((65 ≤ x.toNat ∧ x.toNat ≤ 90) ∨ (97 ≤ x.toNat ∧ x.toNat ≤ 122) ∨ (48 ≤ x.toNat ∧ x.toNat ≤ 57)) := by
      unfold plainP at hpf; exact of_decide_eq_false hpf
    have cs : (¬ (48 : Int) ≤ (x.toNat : Int) ∧ ¬ (65 : Int) ≤ (x.toNat : Int) ∧ ¬ (97 : Int) ≤ (x.toNat : Int)) ∨ ((48 : Int) ≤ (x.toNat : Int) ∧ ¬ (x.toNat : Int) ≤ 57 ∧ ¬ (65 : Int) ≤ (x.toNat : Int) ∧ ¬ (97 : Int) ≤ (x.toNat : Int)) ∨ ((48 : Int) ≤ (x.toNat : Int) ∧ ¬ (x.toNat : Int) ≤ 57 ∧ (65 : Int) ≤ (x.toNat : Int) ∧ ¬ (x.toNat : Int) ≤ 90 ∧ ¬ (97 : Int) ≤ (x.toNat : Int)) ∨ ((48 : Int) ≤ (x.toNat : Int) ∧ ¬ (x.toNat : Int) ≤ 57 ∧ (65 : Int) ≤ (x.toNat : Int) ∧ ¬ (x.toNat : Int) ≤ 90 ∧ (97 : Int) ≤ (x.toNat : Int) ∧ ¬ (x.toNat : Int) ≤ 122) := by omega
    clear hp hpf hn
    have HG : Hid (∀ i (h : i < mk2.size), i < 12 → mk2[i]'h = mk2.data.toList.getD i 0) := fun i h hl => str_get mk2.data.toList i h hl
    have HLn : Hid (mk2.size = 12 ∧ mk2.data.toList.length = 12 ∧ mk2 = ⟨#[32, 39, 40, 41, 43, 44, 45, 46, 47, 58, 61, 63]⟩) := ⟨rfl, rfl, rfl⟩
    obtain ⟨M, hM⟩ : ∃ M, mk2 = M := ⟨_, rfl⟩
    rw [hM] at HG HLn ⊢
    clear hM
    rcases cs with ⟨c1, c2, c3⟩ | ⟨c1, c2, c3, c4⟩ | ⟨c1, c2, c3, c4, c5⟩ | ⟨c1, c2, c3, c4, c5, c6⟩
    all_goals
      go_enter Tryd.func29, Tryd.ntmps29
      go_wp2
      rw [← HLn.out.2.2]
      go_loopw [4] (fun iv wr => ∃ i : Nat, iv = .int .i64 i ∧ i ≤ 12 ∧ isY x (M.data.toList.take i) = false ∧ Below w.heap.size w wr) (fun iv _ => 12 - (intOf iv).toNat)
      case atStart => exact ⟨0, rfl, Nat.zero_le _, rfl, Below.refl _ _⟩
      case round =>
        obtain ⟨i, rfl, hi, hy, hb⟩ := hrel
        have HB : Hid (Below w.heap.size w wr) := hb
        clear hb
        by_cases hlt : i < 12
        · have z1 : (i : Int) < (M.size : Int) := by rw [HLn.out.1]; omega
          have hX := HG.out i (by rw [HLn.out.1]; exact hlt) hlt
          have hs := isY_snoc x M.data.toList i (by rw [HLn.out.2.1]; exact hlt)
          obtain ⟨y, hyy⟩ : ∃ y, M.data.toList.getD i 0 = y := ⟨_, rfl⟩
          rw [hyy] at hX hs
          rw [hy, Bool.false_or] at hs
          clear hy hyy
          by_cases he : y.toNat = x.toNat
          · have HF : Hid (isY x M.data.toList = true) := isY_cut x _ (i + 1) (by rw [hs]; simp [he])
            have e1 : ((y.toNat : Int) == (x.toNat : Int)) = true := by simp [he]
            clear hs he
            go_wp2
            go_ret
            exact ⟨by rw [HF.out]; rfl, HB.out⟩
          · have HF : Hid (isY x (M.data.toList.take (i + 1)) = false) := by show _ = _; rw [hs]; simp [he]
            have e1 : ((y.toNat : Int) == (x.toNat : Int)) = false := by rw [beq_eq_false_iff_ne]; omega
            clear hs he
            go_wp2
            go_roundw
            case rel => exact ⟨i + 1, by go_num, by omega, HF.out, HB.out⟩
            case measure => simp [intOf]; omega
        · have HF : Hid (isY x M.data.toList = false) := by
            show _ = _
            rw [List.take_of_length_le (by rw [HLn.out.2.1]; omega)] at hy
            exact hy
          have z1 : ¬ (i : Int) < (M.size : Int) := by rw [HLn.out.1]; omega
          clear hy
          go_wp2
          go_ret
          exact ⟨by rw [HF.out]; rfl, HB.out⟩
end Go.Proofs.YtonekkfpadgdhaaDoor
