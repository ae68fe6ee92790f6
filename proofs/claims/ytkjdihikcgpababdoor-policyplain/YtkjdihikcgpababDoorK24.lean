/-
  Text: Key, Alike.
-/
import Derived.Lib.ItoaLen
import Derived.Lib.Strings
import Derived.Test.YtkjdihikcgpababDoorK23
namespace Go.Proofs.YtkjdihikcgpababDoor
open Go.RowKit
abbrev P10 (w : World) : Prop := Lib.TabIs Tryd.prog w "internal/strconv.uint64pow10" .u64 Lib.pow10Tab
theorem Itoa_any {w : World} (n : Int) (h0 : -9223372036854775808 ≤ n) (h1 : n ≤ 9223372036854775807) (hT : P10 w) :
    Calls Tryd.prog 47 #[.int .i64 n] w fun e w' => e = .returned (.string (str (Lib.itoa n))) ∧ Below w.heap.size w w' := by
  refine (Tryd.strconv_Itoa n h0 h1 w hT).mono ?_
  rintro e w' ⟨rfl, k, os, rfl⟩
  refine ⟨rfl, rfl, rfl, rfl, ?_, fun j hj => ?_⟩
  · show _ ≤ (w.heap ++ os).size
    rw [Array.size_append]; omega
  · show (w.heap ++ os)[j]? = _
    rw [Array.getElem?_append_left hj]
theorem pairs_len : ∀ (l t : List UInt8), pairsB l = some t → 2 * t.length ≤ 3 * l.length
  | [], t, h => by simp [pairsB] at h; subst h; simp
  | [_], t, h => by simp [pairsB] at h
  | a :: b :: l, t, h => by
    unfold pairsB at h
    split at h
    · cases h
    · obtain ⟨t', h1, rfl⟩ := Option.map_eq_some_iff.1 h
      have := pairs_len l t' h1
      have h3 : (Lib.encodeRune ((a.toNat * 256 + b.toNat : Nat) : Int)).length ≤ 3 := by
        have := a.toNat_lt; have := b.toNat_lt
        unfold Lib.encodeRune Lib.encodeRuneZ
        rw [List.length_map]
        repeat' split
        all_goals simp
        all_goals omega
      rw [List.length_append]
      simp only [List.length_cons]
      omega
theorem textS_len (tag : Int) (l : List UInt8) : (textS tag l).1.length ≤ 2 * l.length := by
  have key : ∀ b, (okT b l).1.length ≤ 2 * l.length := by
    intro b; unfold okT; cases b <;> simp; omega
  unfold textS
  repeat' split
  all_goals try exact key _
  · unfold pairT
    split
    · rename_i t h
      have := pairs_len l t h
      simp only; omega
    · simp
  · simp
def keyB (tag : Int) (l : List UInt8) : List UInt8 := if (textS tag l).2 = 0 then 61 :: foldB (textS tag l).1 else 35 :: (Lib.itoa tag ++ 58 :: l)
theorem str_app (a b : List UInt8) : str a ++ str b = str (a ++ b) := by
  apply ByteArray.ext
  simp [str, ByteArray.data_append]
theorem Tryd.g_pw : Tryd.prog.globalNamed "internal/strconv.uint64pow10" = some 2 := by kernel_rfl
theorem Tabs_below {w w' : World} (h : P10 w) (hb : Below w.heap.size w w') : P10 w' := by
  have hc := h.cell Tryd.g_pw 0 (by decide)
  have hlt : 2 < w.heap.size := by
    rcases Nat.lt_or_ge 2 w.heap.size with h' | h'
    · exact h'
    · unfold World.cell? at hc
      rw [Array.getElem?_eq_none h'] at hc
      cases hc
  unfold P10 Lib.TabIs World.var? at *
  rw [Tryd.g_pw] at h ⊢
  rw [← h]
  simp only [Option.bind_some]
  rw [hb.block _ hlt]
theorem errno_range (tag : Int) (l : List UInt8) : (textS tag l).2 = 0 ∨ (textS tag l).2 = 60 ∨ (textS tag l).2 = 61 := by
  have key : ∀ b, (okT b l).2 = 0 ∨ (okT b l).2 = 60 ∨ (okT b l).2 = 61 := by
    intro b; unfold okT; cases b <;> simp
  unfold textS
  repeat' split
  all_goals try exact key _
  · unfold pairT
    split <;> simp
  · simp
set_option maxHeartbeats 4000000 in
set_option maxRecDepth 100000 in
theorem Key_any {w : World} (tag : Int) (v : Value) (l : List UInt8) (hX : Sl .u8 w v (nums l)) (hl : l.length ≤ 50000) (h0 : -9223372036854775808 ≤ tag) (h1 : tag ≤ 9223372036854775807) (hT : U8T w) (hP : P10 w) : Calls Tryd.prog 46 #[.int .i64 tag, v] w fun e w' => e = .returned (.string (str (keyB tag l))) ∧ Below w.heap.size w w' := by
  have HC : Hid (Calls Tryd.prog 55 #[.int .i64 tag, v] w fun e w' => e = TextEnd tag l ∧ Below w.heap.size w w') := Text_any tag v l hX (by omega) hT
  have HX : Hid (Sl .u8 w v (nums l) ∧ U8T w ∧ P10 w) := ⟨hX, hT, hP⟩
  have HE := errno_range tag l
  have HN := textS_len tag l
  unfold TextEnd at HC
  obtain ⟨T, E, hTE⟩ : ∃ T E, textS tag l = (T, E) := ⟨_, _, rfl⟩
  have HK : Hid (keyB tag l = if E = 0 then 61 :: foldB T else 35 :: (Lib.itoa tag ++ 58 :: l)) := by
    show _ = _
    unfold keyB
    rw [hTE]
  rw [hTE] at HC HE HN
  simp only at HC HE HN
  clear hTE hT hP
  obtain ⟨a, c, rfl, -⟩ := sl_str hX
  clear hX
  by_cases hE : E = 0
  · subst hE
    rw [if_pos rfl] at HK
    go_enter Tryd.func46, Tryd.ntmps46
    go_wp2_with fail
    refine HC.out.mono ?_
    rintro e w1 ⟨rfl, hb⟩
    go_wp2_with fail
    refine (Fold_any T (by omega) (Utf8Tabs_below HX.out.2.1 hb)).mono ?_
    rintro e w2 ⟨rfl, hb2⟩
    have zF : (str (foldB T)).size ≤ 100000 := by
      rw [str_size]
      have := fst0_len T T.length (Nat.le_refl _)
      unfold fst0 at this
      rw [List.take_length] at this
      unfold foldB; omega
    obtain ⟨F, hF⟩ : ∃ F, str (foldB T) = F := ⟨_, rfl⟩
    rw [hF] at zF
    have HF : Hid (str (foldB T) = F) := hF
    rw [hF]
    clear hF
    go_wp2
    go_ret
    refine ⟨?_, below_via hb hb2 (Nat.le_refl _)⟩
    rw [HK.out]
    show Ending.returned (.string (str [61] ++ F)) = _
    rw [← HF.out, str_app]; rfl
  · have nE : (E != 0) = true := by simp [hE]
    rw [if_neg hE] at HK
    go_enter Tryd.func46, Tryd.ntmps46
    go_wp2_with fail
    refine HC.out.mono ?_
    rintro e w1 ⟨rfl, hb⟩
    have zI : (str (Lib.itoa tag)).size ≤ 21 := by rw [str_size]; exact Lib.itoa_length_le tag h0 h1
    have zD : (str l).size ≤ 50000 := by rw [str_size]; exact hl
    obtain ⟨I, hI⟩ : ∃ I, str (Lib.itoa tag) = I := ⟨_, rfl⟩
    obtain ⟨D, hD⟩ : ∃ D, str l = D := ⟨_, rfl⟩
    have HCV : ∀ W, Below w.heap.size w W → Sem.run Tryd.prog (convert 38 9 (.slice a l.length c)) W = .ok (.string (str l)) W := fun W hW => by
      obtain ⟨a', c', e, h⟩ := sl_str (below_sl hW HX.out.1)
      cases e
      exact h
    have HIT : Hid (∀ W, Below w.heap.size w W → Calls Tryd.prog 47 #[.int .i64 tag] W fun e w' => e = .returned (.string I) ∧ Below W.heap.size W w') := fun W hW => hI ▸ Itoa_any tag h0 h1 (Tabs_below HX.out.2.2 hW)
    rw [hI] at zI
    rw [hD] at zD HCV
    have HKS : Hid (∀ W, Below w.heap.size w W → Below w.heap.size w W ∧ Sem.run Tryd.prog (convert 38 9 (.slice a l.length c)) W = .ok (.string D) W) := fun W hW => ⟨hW, HCV _ hW⟩
    have HID : Hid (str (Lib.itoa tag) = I ∧ str l = D) := ⟨hI, hD⟩
    clear hI hD HCV HC
    have n1 : ¬ 9223372036854775807 < 1 + I.size := by omega
    have n2 : ¬ 9223372036854775807 < 1 + I.size + 1 := by omega
    have n3 : ¬ 9223372036854775807 < 1 + I.size + 1 + D.size := by omega
    go_wp2_with fail
    go_region_held3 (fun W => Below w.heap.size w W ∧ Sem.run Tryd.prog (convert 38 9 (.slice a l.length c)) W = .ok (.string D) W) ((refine HKS.out _ ?_; first | exact hb.drew | exact Below.drew (And.left (by assumption)) | exact And.left (by assumption) | exact below_via (And.left (by assumption)) hb2 (Nat.le_refl _) | exact Below.drew (below_via (And.left (by assumption)) hb2 (Nat.le_refl _)))) ((go_at_call 47; refine (HIT.out _ (And.left (by assumption))).mono ?_; rintro e w2 ⟨rfl, hb2⟩))
    all_goals
      rename_i hHeld
      have HB : Hid (Below w.heap.size w w2) := hHeld.1
      clear hHeld
      go_wp2
      go_ret
      refine ⟨?_, HB.out⟩
      rw [HK.out]
      show Ending.returned (.string (str [35] ++ I ++ str [58] ++ D)) = _
      rw [← HID.out.1, ← HID.out.2, str_app, str_app, str_app]
      simp
theorem beq_str (a b : List UInt8) : ((str a).toList == (str b).toList) = decide (a = b) := by
  rw [Lib.toList_data, Lib.toList_data, str_data, str_data, Bool.eq_iff_iff, beq_iff_eq, decide_eq_true_eq]
end Go.Proofs.YtkjdihikcgpababDoor
/-
  Policy: the name of one part: what it is compared by.
-/
namespace Go.Proofs.YtkjdihikcgpababDoor
open Go.RowKit Go.Sort Go.Lib
def tA : ByteArray := ⟨#[50, 46, 53, 46, 52, 46, 49, 48]⟩
def kA : ByteArray := ⟨#[61, 97]⟩
def mL : Tx := [50, 46, 53, 46, 52, 46, 49, 48, 61, 50, 58, 61, 97, 59]
theorem key_a : keyB 12 [97] = [61, 97] := by decide +kernel
theorem itoa_2 : Lib.itoa 2 = [50] := by decide +kernel
theorem m_all : ((((tA ++ (⟨#[61]⟩ : ByteArray)) ++ (⟨#[50]⟩ : ByteArray)) ++ (⟨#[58]⟩ : ByteArray)) ++ kA) ++ (⟨#[59]⟩ : ByteArray) = ⟨mL.toArray⟩ := by decide +kernel
theorem run_lnS {P : Program} {a : Act} {W : World} {o : Oper} {x : Operand} {t : TypeId} {s : ByteArray} (hop : o.op = .call { callee := .builtin .len, args := #[x], argTypes := #[t] }) (hk : P.underlying t = some .string) (hx : a.eval x = .string s) : (execOp a.eval o).run P W = .ok (.value (.int .i64 (s.size : Int))) W := by
  have e1 : (#[x] : Array Operand).map a.eval = #[.string s] := by simp only [List.map_toArray, List.map_cons, List.map_nil, hx]
  unfold execOp
  simp only [hop, resolve, e1]
  simp [go_sem, invoke, Builtin.len_, underlying, hk]
theorem run_add {P : Program} {a : Act} {W : World} {o : Oper} {x y : Operand} {t t2 : TypeId} {s r : ByteArray} (hop : o.op = .binOp .add t x y t2) (hx : a.eval x = .string s) (hy : a.eval y = .string r) (hl : s.size + r.size ≤ 9223372036854775807) : (execOp a.eval o).run P W = .ok (.value (.string (s ++ r))) W :=
  run_bin hop hx hy (by simp [go_sem]; exact hl)
theorem eg_Itoa (args : Array Value) (w : World) : (callFunc 47 args).run Tryd.prog w = .ok (.enter 47 args) w := enters_of Tryd.func47 (by kernel_rfl) rfl args w
theorem frM15 {ops : Array Oper} {V : Nat → Value} {t : Array Value} {d0 d1 d2 d3 d4 d5 d6 d7 d8 d9 d10 d11 d12 d13 : Nat} (hs : ops.size = 15) (h0 : dstOf ops 0 = some d0) (h1 : dstOf ops 1 = some d1) (h2 : dstOf ops 2 = some d2) (h3 : dstOf ops 3 = some d3) (h4 : dstOf ops 4 = some d4) (h5 : dstOf ops 5 = some d5) (h6 : dstOf ops 6 = some d6) (h7 : dstOf ops 7 = some d7) (h8 : dstOf ops 8 = some d8) (h9 : dstOf ops 9 = some d9) (h10 : dstOf ops 10 = some d10) (h11 : dstOf ops 11 = some d11) (h12 : dstOf ops 12 = some d12) (h13 : dstOf ops 13 = some d13) (h14 : dstOf ops 14 = none) : frF ops V t ops.size = ((((((((((((((t.setIfInBounds d0 (V 0)).setIfInBounds d1 (V 1)).setIfInBounds d2 (V 2)).setIfInBounds d3 (V 3)).setIfInBounds d4 (V 4)).setIfInBounds d5 (V 5)).setIfInBounds d6 (V 6)).setIfInBounds d7 (V 7)).setIfInBounds d8 (V 8)).setIfInBounds d9 (V 9)).setIfInBounds d10 (V 10)).setIfInBounds d11 (V 11)).setIfInBounds d12 (V 12)).setIfInBounds d13 (V 13)) := by
  rw [hs]
  simp only [frF, h0, h1, h2, h3, h4, h5, h6, h7, h8, h9, h10, h11, h12, h13, h14]
set_option maxRecDepth 20000 in
set_option maxHeartbeats 4000000 in
theorem marks_a {w : World} (n1 n2 : Nat) (l1 : n1 < w.heap.size) (l2 : n2 < w.heap.size) (d2 : w.cell? ⟨n2, 0, none⟩ = some (.string tA)) (d3 : w.cell? ⟨n2, 1, none⟩ = some (.int .i64 12)) (d4 : w.cell? ⟨n2, 2, none⟩ = some (.slice (some ⟨n1, 0, none⟩) 1 1)) (d5 : w.cell? ⟨n1, 0, none⟩ = some (.int .u8 97)) (hT : U8T w) (hP : P10 w) :
    Calls Tryd.prog 31 #[.slice (some ⟨n2, 0, none⟩) 1 1] w fun e w' => ∃ b, e = .returned (.slice (some ⟨b, 0, none⟩) 1 1) ∧ Blk 9 w' b [encStr mL] ∧ Below w.heap.size w w' := by
  have HX : Hid (U8T w ∧ P10 w) := ⟨hT, hP⟩
  have HC : Hid (∀ W : World, Below w.heap.size w W → W.cell? ⟨n2, 0, none⟩ = some (.string tA) ∧ W.cell? ⟨n2, 1, none⟩ = some (.int .i64 12) ∧ W.cell? ⟨n2, 2, none⟩ = some (.slice (some ⟨n1, 0, none⟩) 1 1) ∧ Sl .u8 W (.slice (some ⟨n1, 0, none⟩) 1 1) (nums [97])) := fun W h => ⟨(h.cell (p := ⟨n2, 0, none⟩) l2).trans d2, (h.cell (p := ⟨n2, 1, none⟩) l2).trans d3, (h.cell (p := ⟨n2, 2, none⟩) l2).trans d4, ⟨some ⟨n1, 0, none⟩, 1, rfl, Nat.le_refl _, .inr ⟨n1, 0, rfl, Nat.lt_of_lt_of_le l1 h.size, fun i hi => by
    have : i = 0 := by simp [nums] at hi; exact hi
    subst this
    exact (h.cell (p := ⟨n1, 0, none⟩) l1).trans d5⟩⟩⟩
  have HK : Hid (∀ W : World, Below w.heap.size w W → Calls Tryd.prog 46 #[.int .i64 12, .slice (some ⟨n1, 0, none⟩) 1 1] W fun e w' => e = .returned (.string kA) ∧ Below W.heap.size W w') := fun W h => by
    have := Key_any (w := W) 12 _ [97] (HC.out W h).2.2.2 (by decide) (by decide) (by decide) (Utf8Tabs_below hT h) (Tabs_below hP h)
    rw [key_a] at this
    exact this
  have HI : Hid (∀ W : World, Below w.heap.size w W → Calls Tryd.prog 47 #[.int .i64 2] W fun e w' => e = .returned (.string ⟨#[50]⟩) ∧ Below W.heap.size W w') := fun W h => by
    refine (Tryd.strconv_Itoa 2 (by decide) (by decide) W (Tabs_below hP h)).mono ?_
    rintro e w' ⟨rfl, k, os, rfl⟩
    rw [itoa_2]
    exact ⟨rfl, (below_drewN k (Below.refl _ _)).trans ⟨rfl, rfl, rfl, by simp [grow], fun q hq => by show ((W.drewN k).heap ++ os)[q]? = _; rw [Array.getElem?_append_left (by exact hq)]⟩⟩
  clear hT hP d2 d3 d4 d5 l1 l2
  go_enter Tryd.func31, Tryd.ntmps31
  go_wp2_with (refine wpList_mkV w rfl (.tmp 8) (.tmp 8) 22 rfl (.string ⟨#[]⟩) rfl 9 16 Tryd.undX Tryd.infoX 1 rfl rfl (by omega) (by omega) ?_; intro w1 hA1 hb1)
  obtain ⟨q0, q1, q2, _⟩ := HC.out w1 hb1
  have hsz : w.heap.size < w1.heap.size := hA1.lt
  have H1 : Hid (Blk 9 w1 w.heap.size [.string ⟨#[]⟩] ∧ Below w.heap.size w w1) := ⟨hA1, hb1⟩
  clear hA1 hb1
  refine wp_loop_rounds 2 ?_
  rw [rounds_succ]
  have HB5 : Hid (Below w.heap.size w (w1.alloc (.cells #[.string tA, .int .i64 12, .slice (some ⟨n1, 0, none⟩) 1 1] 63)) ∧ Blk 9 (w1.alloc (.cells #[.string tA, .int .i64 12, .slice (some ⟨n1, 0, none⟩) 1 1] 63)) w.heap.size [.string ⟨#[]⟩] ∧ Blk 63 (w1.alloc (.cells #[.string tA, .int .i64 12, .slice (some ⟨n1, 0, none⟩) 1 1] 63)) w1.heap.size [.string tA, .int .i64 12, .slice (some ⟨n1, 0, none⟩) 1 1]) := ⟨H1.out.2.alloc H1.out.2.size _, H1.out.1.alloc _, Blk.new _ _ _⟩
  go_upto_region 6 with (first
    | (go_at_call 46; refine (HK.out _ HB5.out.1).mono ?_; rintro e w2 ⟨rfl, hb2⟩)
    | go_in)
  have H2 : Hid (Below w.heap.size w w2 ∧ Blk 9 w2 w.heap.size [.string ⟨#[]⟩] ∧ Blk 63 w2 w1.heap.size [.string tA, .int .i64 12, .slice (some ⟨n1, 0, none⟩) 1 1]) := ⟨below_via HB5.out.1 hb2 (Nat.le_refl _), below_blk hb2 HB5.out.2.1.lt HB5.out.2.1, below_blk hb2 HB5.out.2.2.lt HB5.out.2.2⟩
  clear hb2 q0 q1 q2 HB5
  refine wp_region_cl (β := Unit) (fun _ kk => ([.slice (some ⟨w.heap.size, 0, none⟩) 1 1, .int .i64 0, .pointer (some ⟨w1.heap.size, 0, none⟩), .string tA, .string (tA ++ (⟨#[61]⟩ : ByteArray)), .string kA, .int .i64 2, .string ⟨#[50]⟩, .string ((tA ++ (⟨#[61]⟩ : ByteArray)) ++ (⟨#[50]⟩ : ByteArray)), .string (((tA ++ (⟨#[61]⟩ : ByteArray)) ++ (⟨#[50]⟩ : ByteArray)) ++ (⟨#[58]⟩ : ByteArray)), .string kA, .string ((((tA ++ (⟨#[61]⟩ : ByteArray)) ++ (⟨#[50]⟩ : ByteArray)) ++ (⟨#[58]⟩ : ByteArray)) ++ kA), .string (((((tA ++ (⟨#[61]⟩ : ByteArray)) ++ (⟨#[50]⟩ : ByteArray)) ++ (⟨#[58]⟩ : ByteArray)) ++ kA) ++ (⟨#[59]⟩ : ByteArray)), .pointer (some ⟨w.heap.size, 0, none⟩), undef] : List Value).getD kk undef) (fun _ LB W => StS 14 (fun W => Blk 9 W w.heap.size [encStr mL]) (fun W => Blk 9 W w.heap.size [.string ⟨#[]⟩]) (fun W => Below w.heap.size w W ∧ Blk 63 W w1.heap.size [.string tA, .int .i64 12, .slice (some ⟨n1, 0, none⟩) 1 1]) LB W) () rfl (by decide +kernel) (show dstB _ 40 = true by decide +kernel) (StS.start H2.out.2.1 ⟨H2.out.1.drew, H2.out.2.2⟩) (fun _ LB W hup hS => ?_) (fun k9 _ LB W a hk hno hsz9 hdep hv h0 hcl hS => ?_)
  rotate_left
  · replace hk : k9 < 15 := hk
    have x3 : a.eval (.tmp 3) = .slice (some ⟨w.heap.size, 0, none⟩) 1 1 := (h0 3 (by decide +kernel)).trans rfl
    have x4 : a.eval (.tmp 4) = .int .i64 0 := (h0 4 (by decide +kernel)).trans rfl
    have x5 : a.eval (.tmp 5) = .pointer (some ⟨w1.heap.size, 0, none⟩) := (h0 5 (by decide +kernel)).trans rfl
    have x6 : a.eval (.tmp 6) = .string kA := (h0 6 (by decide +kernel)).trans rfl
    have sz : ∀ s : ByteArray, s.size = 8 ∨ s.size = 9 ∨ s.size = 10 ∨ s.size = 11 ∨ s.size = 13 → ∀ r : ByteArray, r.size = 1 ∨ r.size = 2 → s.size + r.size ≤ 9223372036854775807 := fun s h r h' => by omega
    obtain rfl | rfl | rfl | rfl | rfl | rfl | rfl | rfl | rfl | rfl | rfl | rfl | rfl | rfl | rfl : k9 = 0 ∨ k9 = 1 ∨ k9 = 2 ∨ k9 = 3 ∨ k9 = 4 ∨ k9 = 5 ∨ k9 = 6 ∨ k9 = 7 ∨ k9 = 8 ∨ k9 = 9 ∨ k9 = 10 ∨ k9 = 11 ∨ k9 = 12 ∨ k9 = 13 ∨ k9 = 14 := by omega
    · exact rg_val rfl (wn_any rfl) (run_mv rfl x3) (hS.other (by decide))
    · exact rg_val rfl (wn_any rfl) (run_mv rfl x4) (hS.other (by decide))
    · exact rg_val rfl (wn_any rfl) (run_fa (v := .pointer (some ⟨w1.heap.size, 0, none⟩)) rfl x5 (by simp [go_sem, Instr.fieldAt])) (hS.other (by decide))
    · have e24 : a.eval (.tmp 24) = .pointer (some ⟨w1.heap.size, 0, none⟩) := hv 2 _ (show 2 < 15 by decide) (hdep 2 (by decide +kernel)) rfl
      have q0 : W.cell? ⟨w1.heap.size, 0, none⟩ = some (.string tA) := hS.2.2.2.cell 0
      exact rg_val rfl (wn_any rfl) (run_ld (v := .string tA) rfl e24 (by simp [go_sem, Instr.loadAt, q0])) (hS.other (by decide))
    · have e25 : a.eval (.tmp 25) = .string tA := hv 3 _ (show 3 < 15 by decide) (hdep 3 (by decide +kernel)) rfl
      exact rg_val rfl (wn_any rfl) (run_add rfl e25 rfl (by decide +kernel)) (hS.other (by decide))
    · exact rg_val rfl (wn_any rfl) (run_mv rfl x6) (hS.other (by decide))
    · have e27 : a.eval (.tmp 27) = .string kA := hv 5 _ (show 5 < 15 by decide) (hdep 5 (by decide +kernel)) rfl
      exact rg_val rfl (wn_any rfl) (run_lnS rfl Tryd.undStr e27) (hS.other (by decide))
    · have e28 : a.eval (.tmp 28) = .int .i64 2 := hv 6 _ (show 6 < 15 by decide) (hdep 6 (by decide +kernel)) rfl
      exact rg_call rfl (wn_any rfl) (run_cl1 rfl e28 eg_Itoa) (R := fun w' => Below W.heap.size W w') (HI.out W hS.2.2.1) (fun w' h => StS.move hS (by decide) (fun k => below_blk h k.lt k) (fun k => below_blk h k.lt k) (fun k => ⟨below_via k.1 h (Nat.le_refl _), below_blk h k.2.lt k.2⟩))
    · have e26 : a.eval (.tmp 26) = .string (tA ++ (⟨#[61]⟩ : ByteArray)) := hv 4 _ (show 4 < 15 by decide) (hdep 4 (by decide +kernel)) rfl
      have e29 : a.eval (.tmp 29) = .string ⟨#[50]⟩ := hv 7 _ (show 7 < 15 by decide) (hdep 7 (by decide +kernel)) rfl
      exact rg_val rfl (wn_any rfl) (run_add rfl e26 e29 (by decide +kernel)) (hS.other (by decide))
    · have e30 : a.eval (.tmp 30) = .string ((tA ++ (⟨#[61]⟩ : ByteArray)) ++ (⟨#[50]⟩ : ByteArray)) := hv 8 _ (show 8 < 15 by decide) (hdep 8 (by decide +kernel)) rfl
      exact rg_val rfl (wn_any rfl) (run_add rfl e30 rfl (by decide +kernel)) (hS.other (by decide))
    · exact rg_val rfl (wn_any rfl) (run_mv rfl x6) (hS.other (by decide))
    · have e31 : a.eval (.tmp 31) = .string (((tA ++ (⟨#[61]⟩ : ByteArray)) ++ (⟨#[50]⟩ : ByteArray)) ++ (⟨#[58]⟩ : ByteArray)) := hv 9 _ (show 9 < 15 by decide) (hdep 9 (by decide +kernel)) rfl
      have e32 : a.eval (.tmp 32) = .string kA := hv 10 _ (show 10 < 15 by decide) (hdep 10 (by decide +kernel)) rfl
      exact rg_val rfl (wn_any rfl) (run_add rfl e31 e32 (by decide +kernel)) (hS.other (by decide))
    · have e33 : a.eval (.tmp 33) = .string ((((tA ++ (⟨#[61]⟩ : ByteArray)) ++ (⟨#[50]⟩ : ByteArray)) ++ (⟨#[58]⟩ : ByteArray)) ++ kA) := hv 11 _ (show 11 < 15 by decide) (hdep 11 (by decide +kernel)) rfl
      exact rg_val rfl (wn_any rfl) (run_add rfl e33 rfl (by decide +kernel)) (hS.other (by decide))
    · have e22 : a.eval (.tmp 22) = .slice (some ⟨w.heap.size, 0, none⟩) 1 1 := hv 0 _ (show 0 < 15 by decide) (hdep 0 (by decide +kernel)) rfl
      have e23 : a.eval (.tmp 23) = .int .i64 0 := hv 1 _ (show 1 < 15 by decide) (hdep 1 (by decide +kernel)) rfl
      exact rg_val rfl (wn_any rfl) (run_ia (v := .pointer (some ⟨w.heap.size, 0, none⟩)) rfl e22 e23 (by simp [go_sem, Instr.indexAt])) (hS.other (by decide))
    · have e35 : a.eval (.tmp 35) = .pointer (some ⟨w.heap.size, 0, none⟩) := hv 13 _ (show 13 < 15 by decide) (hdep 13 (by decide +kernel)) rfl
      have e34 : a.eval (.tmp 34) = encStr mL := (hv 12 _ (show 12 < 15 by decide) (hdep 12 (by decide +kernel)) rfl).trans (by show Value.string _ = Value.string _; rw [m_all])
      have hA := hS.2.1 hno
      have q : W.cell? ⟨w.heap.size, 0, none⟩ = some (.string ⟨#[]⟩) := hA.cell 0
      have f := hA.frozen 0
      exact rg_st1 rfl (wn_any rfl) rfl (run_s1 rfl e35 e34 (by simp [go_sem, Instr.storeAt, q, f])) (StS.put (hsz9 14 (by decide)) (hA.set 0 _) ⟨(Upd.set W w.heap.size 0 _).below hS.2.2.1 hS.2.2.1.size (Nat.le_refl _), (Upd.set W w.heap.size 0 _).blk hS.2.2.2 (by omega)⟩)
  rw [frM15 rfl rfl rfl rfl rfl rfl rfl rfl rfl rfl rfl rfl rfl rfl rfl rfl]
  simp only [List.setIfInBounds_toArray, List.set_cons_succ, List.set_cons_zero, List.getD_cons_zero, List.getD_cons_succ]
  have H3 : Hid (Blk 9 W w.heap.size [encStr mL] ∧ Below w.heap.size w W) := ⟨hS.1 (hup 14 (by decide)), hS.2.2.1⟩
  have HSo : Hid (Calls Tryd.prog 26 #[.slice (some ⟨w.heap.size, 0, none⟩) 1 1] W fun e w' => e = .returned (.tuple #[]) ∧ Blk 9 w' w.heap.size [encStr mL] ∧ Upd W w' w.heap.size) := by
    have := Sort_any w.heap.size 1 [mL] rfl (by decide) H3.out.1
    rw [List.mergeSort_singleton] at this
    exact this
  clear hS hup
  go_wp2_with (first
    | (go_at_call 26; refine HSo.out.mono ?_; rintro e w4 ⟨rfl, hA4, hU4⟩)
    | go_in)
  rw [rounds_succ]
  go_wp2_with (first
    | (go_at_call 26; refine HSo.out.mono ?_; rintro e w4 ⟨rfl, hA4, hU4⟩)
    | go_in)
  go_ret
  exact ⟨_, rfl, hA4, hU4.below H3.out.2 H3.out.2.size (Nat.le_refl _)⟩
def nK : ByteArray := ⟨(mL ++ [47]).toArray⟩
set_option maxRecDepth 20000 in
set_option maxHeartbeats 4000000 in
theorem nKey_nil {w : World} : Calls Tryd.prog 28 #[.slice none 0 0] w fun e w' => e = .returned (.string ⟨#[]⟩) ∧ Below w.heap.size w w' := by
  have HB : Hid (Bld w.heap.size w.heap.size [] (w.alloc (.cells #[.pointer none, .slice none 0 0] 81))) := Lib.IsBuilderF.of (Lib.fresh_isBuilder _ _ w)
  have hb1 := (Below.refl w.heap.size w).alloc (Nat.le_refl _) (.cells #[.pointer none, .slice none 0 0] 81)
  have HB1 : Hid (Below w.heap.size w (w.alloc (.cells #[.pointer none, .slice none 0 0] 81))) := hb1
  clear hb1
  go_enter Tryd.func28, Tryd.ntmps28
  go_wp2
  refine wp_loop_rounds 1 ?_
  rw [rounds_succ]
  go_wp2_with (first
    | (go_at_call 34; refine (Tryd.Builder_String_any_k w.heap.size w.heap.size [] _ HB.out HB1.out.size).mono ?_; rintro e w2 ⟨rfl, _, hb2, _⟩)
    | go_in)
  go_ret
  exact ⟨rfl, HB1.out.trans hb2⟩
set_option maxRecDepth 20000 in
set_option maxHeartbeats 4000000 in
theorem nKey_a {w : World} (v : Value) (hv : NameA w v) (hT : U8T w) (hP : P10 w) : Calls Tryd.prog 28 #[v] w fun e w' => e = .returned (.string nK) ∧ Below w.heap.size w w' := by
  obtain ⟨n1, n2, n3, rfl, l1, l2, l3, d1, d2, d3, d4, d5⟩ := hv
  have HM : Hid (∀ W : World, Below w.heap.size w W → Calls Tryd.prog 31 #[.slice (some ⟨n2, 0, none⟩) 1 1] W fun e w' => ∃ b, e = .returned (.slice (some ⟨b, 0, none⟩) 1 1) ∧ Blk 9 w' b [encStr mL] ∧ Below W.heap.size W w') := fun W h =>
    marks_a n1 n2 (Nat.lt_of_lt_of_le l1 h.size) (Nat.lt_of_lt_of_le l2 h.size) ((h.cell (p := ⟨n2, 0, none⟩) l2).trans d2) ((h.cell (p := ⟨n2, 1, none⟩) l2).trans d3) ((h.cell (p := ⟨n2, 2, none⟩) l2).trans d4) ((h.cell (p := ⟨n1, 0, none⟩) l1).trans d5) (Utf8Tabs_below hT h) (Tabs_below hP h)
  have HB : Hid (Bld w.heap.size w.heap.size [] (w.alloc (.cells #[.pointer none, .slice none 0 0] 81))) := Lib.IsBuilderF.of (Lib.fresh_isBuilder _ _ w)
  have hb1 := (Below.refl w.heap.size w).alloc (Nat.le_refl _) (.cells #[.pointer none, .slice none 0 0] 81)
  have HB1 : Hid (Below w.heap.size w (w.alloc (.cells #[.pointer none, .slice none 0 0] 81))) := hb1
  have q3 : (w.alloc (.cells #[.pointer none, .slice none 0 0] 81)).cell? ⟨n3, 0, none⟩ = some (.slice (some ⟨n2, 0, none⟩) 1 1) := (hb1.cell (p := ⟨n3, 0, none⟩) l3).trans d1
  clear hb1 hT hP d1 d2 d3 d4 d5 l1 l2 l3
  go_enter Tryd.func28, Tryd.ntmps28
  go_wp2
  refine wp_loop_rounds 2 ?_
  rw [rounds_succ]
  go_upto_region 6 with (first
    | (go_at_call 31; refine (HM.out _ HB1.out).mono ?_; rintro e w2 ⟨b, rfl, hA2, hb2⟩)
    | go_in)
  have q4 : w2.cell? ⟨b, 0, none⟩ = some (encStr mL) := hA2.cell 0
  have H2 : Hid (Bld w.heap.size w.heap.size [] w2 ∧ Below w.heap.size w w2) := ⟨HB.out.below hb2, below_via HB1.out hb2 (Nat.le_refl _)⟩
  clear hA2 hb2 q3
  refine wp_loop_rounds 2 ?_
  rw [rounds_succ]
  go_wp2_with (first
    | (go_at_call 32; refine (WriteString_k w.heap.size w.heap.size [] ⟨mL.toArray⟩ H2.out.1 (by decide) (by decide) H2.out.2.size).mono ?_; rintro e w3 ⟨rfl, hB3, hb3, _⟩; have H3 : Hid (Bld w.heap.size w.heap.size mL w3 ∧ Below w.heap.size w w3) := ⟨hB3, H2.out.2.trans hb3⟩; clear hB3 hb3)
    | go_in)
  rw [rounds_succ]
  go_wp2_with (first
    | (go_at_call 33; refine (WriteByte_k w.heap.size w.heap.size mL 47 H3.out.1 (by decide) H3.out.2.size).mono ?_; rintro e w4 ⟨rfl, hB4, hb4, _⟩; have H4 : Hid (Bld w.heap.size w.heap.size (mL ++ [47]) w4 ∧ Below w.heap.size w w4) := ⟨hB4, H3.out.2.trans hb4⟩; clear hB4 hb4)
    | go_in)
  rw [rounds_succ]
  go_wp2_with (first
    | (go_at_call 34; refine (Tryd.Builder_String_any_k w.heap.size w.heap.size (mL ++ [47]) _ H4.out.1 H4.out.2.size).mono ?_; rintro e w5 ⟨rfl, _, hb5, _⟩)
    | go_in)
  go_ret
  exact ⟨rfl, H4.out.2.trans hb5⟩
theorem nK_is : nK.toList.isEmpty = false := by simp [nK, mL]
theorem nK_ne : (nK == (⟨#[]⟩ : ByteArray)) = false := by decide +kernel
set_option maxRecDepth 20000 in
set_option maxHeartbeats 4000000 in
theorem Own_a {w : World} (nv sub cp : Value) (cr ch : Int) (o : Bool) (hv : NameA w nv) (hs : sub = if o = true then nv else .slice none 0 0) (hT : U8T w) (hP : P10 w) : OwnC w (.agg #[.slice none 0 0, .slice none 0 0, .slice none 0 0, nv, sub, .int .i64 0, .int .i64 0, .int .i64 0, .slice none 0 0, .slice none 0 0, .slice none 0 0, .slice none 0 0, .int .i64 0, .int .i64 0, .int .i64 0, .int .i64 0, .slice none 0 0, .bool false, .int .i64 0, .int .i64 0, .slice none 0 0, .bool false, .slice none 0 0, .slice none 0 0, .slice none 0 0, cp, .int .i64 cr, .int .i64 ch, .slice none 0 0, .slice none 0 0, .bool false]) o := by
  intro w1 h1
  have HK : Hid (∀ W : World, Below w1.heap.size w1 W → Calls Tryd.prog 28 #[nv] W fun e w' => e = .returned (.string nK) ∧ Below W.heap.size W w') := fun W h => by
    have hb := h1.trans (h.mono h1.size)
    exact nKey_a nv (hv.below hb) (Utf8Tabs_below hT hb) (Tabs_below hP hb)
  have HN : Hid (∀ W : World, Calls Tryd.prog 28 #[.slice none 0 0] W fun e w' => e = .returned (.string ⟨#[]⟩) ∧ Below W.heap.size W w') := fun W => nKey_nil
  have HS : Hid (∀ W : World, Below w1.heap.size w1 W → Calls Tryd.prog 25 #[nv, sub] W fun e w' => e = .returned (.bool o) ∧ Below W.heap.size W w') := fun W h => by
    cases o with
    | true =>
      rw [if_pos rfl] at hs
      subst hs
      have HK2 : Hid (Below w1.heap.size w1 W) := h
      clear h hv hT hP
      go_enter Tryd.func25, Tryd.ntmps25
      go_wp2_with (first
        | (go_at_call 28; first | (refine (HK.out _ (below_via HK2.out hb2 (Nat.le_refl _))).mono ?_; rintro e w3 ⟨rfl, hb3⟩) | (refine (HK.out _ HK2.out).mono ?_; rintro e w2 ⟨rfl, hb2⟩))
        | go_in)
      go_ret
      exact ⟨by simp, hb2.trans (hb3.mono hb2.size)⟩
    | false =>
      rw [if_neg (by simp)] at hs
      subst hs
      have HK2 : Hid (Below w1.heap.size w1 W) := h
      have hne := nK_ne
      clear h hv hT hP
      go_enter Tryd.func25, Tryd.ntmps25
      go_wp2_with (first
        | (go_at_call 28; first | (have hq := hb2; clear hq; refine (HN.out _).mono ?_; rintro e w3 ⟨rfl, hb3⟩) | (refine (HK.out _ HK2.out).mono ?_; rintro e w2 ⟨rfl, hb2⟩))
        | go_in)
      go_ret
      exact ⟨by show Ending.returned (.bool nK.toList.isEmpty) = _; rw [nK_is], hb2.trans (hb3.mono hb2.size)⟩
  have c3 : (w1.alloc (.cells #[.slice none 0 0, .slice none 0 0, .slice none 0 0, nv, sub, .int .i64 0, .int .i64 0, .int .i64 0, .slice none 0 0, .slice none 0 0, .slice none 0 0, .slice none 0 0, .int .i64 0, .int .i64 0, .int .i64 0, .int .i64 0, .slice none 0 0, .bool false, .int .i64 0, .int .i64 0, .slice none 0 0, .bool false, .slice none 0 0, .slice none 0 0, .slice none 0 0, cp, .int .i64 cr, .int .i64 ch, .slice none 0 0, .slice none 0 0, .bool false] 51)).cell? ⟨w1.heap.size, 3, none⟩ = some nv := (Blk.new 51 w1 [.slice none 0 0, .slice none 0 0, .slice none 0 0, nv, sub, .int .i64 0, .int .i64 0, .int .i64 0, .slice none 0 0, .slice none 0 0, .slice none 0 0, .slice none 0 0, .int .i64 0, .int .i64 0, .int .i64 0, .int .i64 0, .slice none 0 0, .bool false, .int .i64 0, .int .i64 0, .slice none 0 0, .bool false, .slice none 0 0, .slice none 0 0, .slice none 0 0, cp, .int .i64 cr, .int .i64 ch, .slice none 0 0, .slice none 0 0, .bool false]).cell 3
  clear hv hs hT hP HK HN
  have HB : Hid (∀ o1 : Obj, Below w1.heap.size w1 (w1.alloc o1)) := fun o1 => (Below.refl _ _).alloc (Nat.le_refl _) _
  go_enter Tryd.func16, Tryd.ntmps16
  go_wp2_with (first
    | (go_at_call 25; refine (HS.out _ (HB.out _)).mono ?_; rintro e w4 ⟨rfl, hb4⟩)
    | go_in)
  go_ret
  exact ⟨rfl, (HB.out _).trans (hb4.mono (HB.out _).size)⟩
end Go.Proofs.YtkjdihikcgpababDoor
/-
  Policy: Run along any certificates of the law's; has, among.
-/
namespace Go.Proofs.YtkjdihikcgpababDoor
open Go.RowKit Go.Sort Go.Lib
def TabK (w : World) : Prop := U8T w ∧ P10 w
theorem TabK.below {w w' : World} (h : TabK w) (hb : Below w.heap.size w w') : TabK w' := ⟨Utf8Tabs_below h.1 hb, Tabs_below h.2 hb⟩
/-- The certificates that these say, in a row. -/
def CAs (w : World) (v : Value) (Z : List Bt) : Prop := ∃ Y, CertS w v Y ∧ RelC w Z Y
theorem CAs.below {w w' : World} {v : Value} {Z : List Bt} (h : CAs w v Z) (hb : Below w.heap.size w w') : CAs w' v Z := by
  obtain ⟨Y, h1, h2⟩ := h
  exact ⟨Y, h1.below hb, h2.below hb⟩
/-- What is asked of each. -/
def BtsOk (w : World) (Z : List Bt) : Prop := Z.length ≤ 30 ∧ ∀ z ∈ Z, TxS w z.v z.P ∧ z.P.length ≤ 400 ∧ (Lit.int .i64 z.r).wf = true ∧ (Lit.int .i64 z.i).wf = true
theorem BtsOk.below {w w' : World} {Z : List Bt} (h : BtsOk w Z) (hb : Below w.heap.size w w') : BtsOk w' Z := ⟨h.1, fun z hz => ⟨(h.2 z hz).1.below hb, (h.2 z hz).2⟩⟩
set_option maxRecDepth 20000 in
theorem Run_many {w : World} (v u : Value) (Z : List Bt) (U : List Tx) (ex inh : Bool) (hv : CAs w v Z) (hZ : BtsOk w Z) (hu : TxS w u U) (hU : U.length ≤ 200000) (hT : TabK w) :
    Calls Tryd.prog 5 #[v, u, .bool ex, .bool inh] w fun e w' => EndOut w' e (runP (Z.map ceOf) U ex inh) ∧ Below w.heap.size w w' := by
  obtain ⟨Y, h1, h2⟩ := hv
  have hat : ∀ (i : Nat) (y : Ct) (c : Ce), Y[i]? = some y → (Z.map ceOf)[i]? = some c → ∃ z, z ∈ Z ∧ c = ceOf z ∧ CRel w z y := fun i y c hy hc => by
    rw [List.getElem?_map] at hc
    cases hz : Z[i]? with
    | none => rw [hz] at hc; cases hc
    | some z =>
      rw [hz] at hc
      exact ⟨z, List.mem_of_getElem? hz, (Option.some.inj hc).symm, h2.2 i z y hz hy⟩
  have hlen : Y.length = (Z.map ceOf).length := by rw [List.length_map, h2.1]
  refine Run_any v u Y (Z.map ceOf) U ex inh h1 hu hlen (by have := hZ.1; rw [List.length_map]; omega) hU ?_ (fun c hc => ?_) (fun i y c hy hc => ?_) (fun i y hy => ?_)
  · intro i y c hy hc W p uv hb hTx hK
    obtain ⟨z, hz, rfl, hy1⟩ := hat i y c hy hc
    obtain ⟨z1, z2, z3, z4⟩ := hZ.2 z hz
    have hi : i < 30 := by have h7 := (List.getElem?_eq_some_iff.1 hc).1; rw [List.length_map] at h7; have := hZ.1; omega
    have hS : p.S.length ≤ 524288 := by have := hK.1; omega
    obtain ⟨nv, sub, cp, r, h⟩ := y
    obtain ⟨y1, y2, y3, y4, y5⟩ := hy1
    simp only [] at y1 y2 y3 y4 y5
    subst y4; subst y5
    have hcp : TxS W cp z.P := by rw [y3]; exact z1.below hb
    by_cases hl : i + 1 = (Z.map ceOf).length
    · rw [decide_eq_true hl]
      exact Step_last (w := W) uv p.e p.a nv sub cp z.r z.i p.S z.P z.own hTx hcp hS (by omega)
    · rw [decide_eq_false hl]
      exact Step_more (w := W) uv p.e p.a nv sub cp z.r z.i p.S z.P z.own hTx hcp hS (by omega) (Own_a nv sub cp z.r z.i z.own (y1.below hb) y2 (hT.below hb).1 (hT.below hb).2) hK.2.1 hK.2.2
  · obtain ⟨z, hz, rfl⟩ := List.mem_map.1 hc
    obtain ⟨z1, z2, z3, z4⟩ := hZ.2 z hz
    exact ⟨z2, wf_in z3, wf_in z4⟩
  · obtain ⟨z, hz, rfl, hy1⟩ := hat i y c hy hc
    exact hy1.2.2.2.1.symm
  · have hi : i < (Z.map ceOf).length := by rw [← hlen]; exact (List.getElem?_eq_some_iff.1 hy).1
    obtain ⟨z, hz, _, hy1⟩ := hat i y _ hy (List.getElem?_eq_getElem hi)
    exact one_of hy1 (hZ.2 z hz).1
set_option maxRecDepth 20000 in
set_option maxHeartbeats 4000000 in
theorem hasL_any {w : World} (v : Value) (L : List Tx) (s : Tx) (hv : TxS w v L) (hL : L.length ≤ 1048576) :
    Calls Tryd.prog 7 #[v, encStr s] w fun e w' => e = .returned (.bool (decide (s ∈ L))) ∧ Below w.heap.size w w' := by
  obtain ⟨n, hn⟩ : ∃ n, L.length = n := ⟨_, rfl⟩
  obtain ⟨a, c, rfl, hc⟩ := hv.form
  rw [hn] at hv hL hc ⊢
  have HX : Hid (TxS w (.slice a n c) L ∧ L.length = n) := ⟨hv, hn⟩
  obtain ⟨O, hO⟩ : ∃ O, decide (s ∈ L) = O := ⟨_, rfl⟩
  rw [hO]
  have HO : Hid (decide (s ∈ L) = O) := hO
  clear hv hn hO
  go_enter Tryd.func7, Tryd.ntmps7
  go_wp2
  go_loopw [5] (fun i wr => ∃ k : Nat, k ≤ n ∧ i = .int .i64 (k : Int) ∧ s ∉ L.take k ∧ Below w.heap.size w wr) (fun i _ => n - (intOf i).toNat)
  case atStart => exact ⟨0, Nat.zero_le _, rfl, by simp, Below.refl _ _⟩
  case round =>
    obtain ⟨k, hk, rfl, hE, hB⟩ := hrel
    by_cases hkn : k < n
    · have hkI : (k : Int) < (n : Int) := by omega
      have kA : k < L.length := by rw [HX.out.2]; exact hkn
      obtain ⟨b1, o1, rfl, q1, _⟩ := (HX.out.1.below hB).at kA
      obtain ⟨x, hx⟩ : ∃ x, L[k] = x := ⟨_, rfl⟩
      rw [hx] at q1
      have HE : Hid (L.take (k + 1) = L.take k ++ [x] ∧ s ∉ L.take k ∧ Below w.heap.size w wr ∧ x ∈ L) := ⟨by rw [List.take_succ_eq_append_getElem kA, hx], hE, hB, by rw [← hx]; exact List.getElem_mem kA⟩
      clear hE hB hx
      by_cases hxy : x = s
      · subst hxy
        have hb : (x == x) = true := by simp
        have HF : Hid (O = true) := by
          show _ = _
          rw [← HO.out]
          exact decide_eq_true HE.out.2.2.2
        go_wp2
        go_ret
        exact ⟨by rw [HF.out]; exact rfl, HE.out.2.2.1⟩
      · have hb : (x == s) = false := by simpa using hxy
        go_wp2
        go_roundw
        case rel => exact ⟨k + 1, by omega, by go_num, by rw [HE.out.1, List.mem_append]; rintro (h | h); exact HE.out.2.1 h; exact hxy (List.mem_singleton.1 h).symm, HE.out.2.2.1⟩
        case measure => simp [intOf]; omega
    · obtain rfl : k = n := by omega
      have hkI : ¬ (k : Int) < (k : Int) := by omega
      have HT : Hid (O = false) := by
        show _ = _
        rw [← HO.out]
        refine decide_eq_false ?_
        rw [List.take_of_length_le (Nat.le_of_eq HX.out.2)] at hE
        exact hE
      have HB : Hid (Below w.heap.size w wr) := hB
      clear hE hB
      go_wp2
      go_ret
      exact ⟨by rw [HT.out]; exact rfl, HB.out⟩
end Go.Proofs.YtkjdihikcgpababDoor
/-
  Policy: a list turned about; an append in a region that draws.
-/
namespace Go.Proofs.YtkjdihikcgpababDoor
open Go.RowKit Go.Sort Go.Lib
open Go.RowKit
section
variable {P : Program} {ops : Array Oper} {Q : Exit → Act → World → Prop} {β : Type} {V : β → Nat → Value} {S : β → Array Bool → World → Prop} {i : Nat} {b : β} {L : Array Bool} {a : Act} {W : World}
/-- A value that comes with new memory, told when it comes. -/
theorem rg_newu {o : Oper} (ho : ops[i]? = some o) (hw : Region.wanted o (yielded ops a.tmps) = true) {v : Value} {W' : World} (hr : (execOp a.eval o).run P W = .ok (.value v) W') (b' : β) (hk : ∀ k, k ≠ i → Up L k → V b' k = V b k) (hv : V b' i = v) (hS : S b' (L.setIfInBounds i true) W') : DetOp P ops Q V S i b L a W :=
  rg_op ho hw (by
    unfold Oper.wp
    rw [hr]
    exact ⟨b', hk, by rw [hv]; exact put_dst ho, hS⟩)
end
/-- Texts in a row of their own stay where a row of another type is written. -/
theorem VRow.mgrew {B B2 : Nat} {w w' : World} {v ov : Value} {xs ys : List Value} {m n : Nat} {T U : TypeId} (h : VRow T B w v xs) (hr : MRow m U B2 w ov n ys) (hG : MGrew U w w' ov) (hTU : T ≠ U) : VRow T B w' v xs := by
  rcases hG with hG | ⟨b, n', c', S', rfl, hA', hU⟩
  · exact h.below hG
  · rcases h with h | ⟨b2, S, e, h1, hA, h2⟩
    · exact .inl h
    · refine .inr ⟨b2, S, e, h1, hU.blk hA (fun e2 => ?_), h2⟩
      subst e2
      unfold Blk at hA hA'
      rw [hA] at hA'
      injection hA' with hA'
      injection hA' with _ h5 _
      exact hTU h5
theorem up_me {F : Array Bool} {i : Nat} (h : i < F.size) : Up (F.setIfInBounds i true) i := by unfold Up; simp [Array.getD_eq_getD_getElem?, h]
theorem stepsO_ok : ∀ (l : List Ce) (p q : Po) (k : Nat), PoOk p k → (∀ c ∈ l, CeOk c) → stepsP p l = some q → PoOk q (k + 400 * l.length)
  | [], p, q, k, h, _, e => by
    have : p = q := Option.some.inj e
    subst this
    exact h
  | c :: l, p, q, k, h, hc, e => by
    have e' : (if (stepP p c l.isEmpty).2 = true then stepsP (stepP p c l.isEmpty).1 l else none) = some q := e
    by_cases h2 : (stepP p c l.isEmpty).2 = true
    · rw [if_pos h2] at e'
      have := stepsO_ok l _ q (k + 400) (stepP_ok l.isEmpty h (hc c List.mem_cons_self)) (fun c' hc' => hc c' (List.mem_cons_of_mem _ hc')) e'
      rw [List.length_cons, show k + 400 * (l.length + 1) = k + 400 + 400 * l.length by omega]
      exact this
    · rw [if_neg h2] at e'; cases e'
theorem grantO_len (S U : List Tx) : (grant S U).length ≤ S.length + U.length := by
  unfold grant
  split
  · have := srt_le S; omega
  · have h1 := srt_le (adm S U)
    have h2 := adm_len S U
    omega
theorem runO_len (l : List Ce) (U : List Tx) (ex inh : Bool) (hl : l.length ≤ 30) (hc : ∀ c ∈ l, CeOk c) : (runP l U ex inh).1.length ≤ 20000 + U.length := by
  unfold runP
  cases l.getLast? with
  | none => simp
  | some c =>
    simp only []
    cases hs : stepsP (startP l.length ex inh) l with
    | none => simp
    | some p =>
      have h1 := (stepsO_ok l _ p 1 (startP_ok l.length ex inh) hc hs).1
      have h2 := grantO_len p.S U
      show (if grant p.S U = [] ∧ (if c.r = 0 then (0 : Int) else less p.e) ≤ 0 then (([] : List Tx), false) else (grant p.S U, true)).1.length ≤ _
      by_cases h : grant p.S U = [] ∧ (if c.r = 0 then (0 : Int) else less p.e) ≤ 0
      · rw [if_pos h]; simp
      · rw [if_neg h]
        show (grant p.S U).length ≤ _
        omega
end Go.Proofs.YtkjdihikcgpababDoor
