/-
  The reference's Base, Same; the page's helpers; Parse of bytes that begin with 2. (wip/mku31.py)
-/
import Derived.Test.YtkdclocjijmgpaaK29
namespace Go.Proofs.Ytkdclocjijmgpaa
open Go.RowKit
set_option maxRecDepth 20000
set_option maxHeartbeats 4000000 in
theorem RBase_any {w : World} (c : Int) : Calls Try.prog 42 #[.int .i64 c] w fun e w' => ∃ r q, e = .returned (.agg #[r, q]) ∧ Nb w' r (crvN (·.gx) (crv c)) ∧ Nb w' q (crvN (·.gy) (crv c)) ∧ Below w.heap.size w w' := by
  by_cases h1 : c = 1
  · subst h1
    go_enter Try.func42, Try.ntmps42
    go_upto_region 2 with (fail)
    refine wp_gen (fun W => Blk 24 W w.heap.size [.slice none 0 0, .slice none 0 0] ∧ Below w.heap.size w W) ⟨Blk.new _ w _, al1 _⟩ ?_
    rintro W2 ⟨hB, hBw⟩
    have hA : Blk 24 (World.alloc (World.alloc W2 (Obj.cells #[Value.int IntKind.u32 3633889942, Value.int IntKind.u32 4104206661, Value.int IntKind.u32 770388896, Value.int IntKind.u32 1996717441, Value.int IntKind.u32 1671708914, Value.int IntKind.u32 4173129445, Value.int IntKind.u32 3777774151, Value.int IntKind.u32 1796723186] 45)) (Obj.cells #[Value.int IntKind.u32 935285237, Value.int IntKind.u32 3417718888, Value.int IntKind.u32 1798397646, Value.int IntKind.u32 734933847, Value.int IntKind.u32 2081398294, Value.int IntKind.u32 2397563722, Value.int IntKind.u32 4263149467, Value.int IntKind.u32 1340293858] 45)) w.heap.size [.slice none 0 0, .slice none 0 0] := (hB.alloc _).alloc _
    have d0 : World.cell? (World.alloc (World.alloc W2 (Obj.cells #[Value.int IntKind.u32 3633889942, Value.int IntKind.u32 4104206661, Value.int IntKind.u32 770388896, Value.int IntKind.u32 1996717441, Value.int IntKind.u32 1671708914, Value.int IntKind.u32 4173129445, Value.int IntKind.u32 3777774151, Value.int IntKind.u32 1796723186] 45)) (Obj.cells #[Value.int IntKind.u32 935285237, Value.int IntKind.u32 3417718888, Value.int IntKind.u32 1798397646, Value.int IntKind.u32 734933847, Value.int IntKind.u32 2081398294, Value.int IntKind.u32 2397563722, Value.int IntKind.u32 4263149467, Value.int IntKind.u32 1340293858] 45)) ⟨w.heap.size, 0, none⟩ = some (.slice none 0 0) := hA.cell 0
    have d1 : World.cell? (World.alloc (World.alloc W2 (Obj.cells #[Value.int IntKind.u32 3633889942, Value.int IntKind.u32 4104206661, Value.int IntKind.u32 770388896, Value.int IntKind.u32 1996717441, Value.int IntKind.u32 1671708914, Value.int IntKind.u32 4173129445, Value.int IntKind.u32 3777774151, Value.int IntKind.u32 1796723186] 45)) (Obj.cells #[Value.int IntKind.u32 935285237, Value.int IntKind.u32 3417718888, Value.int IntKind.u32 1798397646, Value.int IntKind.u32 734933847, Value.int IntKind.u32 2081398294, Value.int IntKind.u32 2397563722, Value.int IntKind.u32 4263149467, Value.int IntKind.u32 1340293858] 45)) ⟨w.heap.size, 1, none⟩ = some (.slice none 0 0) := hA.cell 1
    have g0 : World.frozen? (World.alloc (World.alloc W2 (Obj.cells #[Value.int IntKind.u32 3633889942, Value.int IntKind.u32 4104206661, Value.int IntKind.u32 770388896, Value.int IntKind.u32 1996717441, Value.int IntKind.u32 1671708914, Value.int IntKind.u32 4173129445, Value.int IntKind.u32 3777774151, Value.int IntKind.u32 1796723186] 45)) (Obj.cells #[Value.int IntKind.u32 935285237, Value.int IntKind.u32 3417718888, Value.int IntKind.u32 1798397646, Value.int IntKind.u32 734933847, Value.int IntKind.u32 2081398294, Value.int IntKind.u32 2397563722, Value.int IntKind.u32 4263149467, Value.int IntKind.u32 1340293858] 45)) ⟨w.heap.size, 0, none⟩ = false := hA.frozen 0
    have g1 : World.frozen? (World.alloc (World.alloc W2 (Obj.cells #[Value.int IntKind.u32 3633889942, Value.int IntKind.u32 4104206661, Value.int IntKind.u32 770388896, Value.int IntKind.u32 1996717441, Value.int IntKind.u32 1671708914, Value.int IntKind.u32 4173129445, Value.int IntKind.u32 3777774151, Value.int IntKind.u32 1796723186] 45)) (Obj.cells #[Value.int IntKind.u32 935285237, Value.int IntKind.u32 3417718888, Value.int IntKind.u32 1798397646, Value.int IntKind.u32 734933847, Value.int IntKind.u32 2081398294, Value.int IntKind.u32 2397563722, Value.int IntKind.u32 4263149467, Value.int IntKind.u32 1340293858] 45)) ⟨w.heap.size, 1, none⟩ = false := hA.frozen 1
    have n0 : Nb (World.alloc (World.alloc W2 (Obj.cells #[Value.int IntKind.u32 3633889942, Value.int IntKind.u32 4104206661, Value.int IntKind.u32 770388896, Value.int IntKind.u32 1996717441, Value.int IntKind.u32 1671708914, Value.int IntKind.u32 4173129445, Value.int IntKind.u32 3777774151, Value.int IntKind.u32 1796723186] 45)) (Obj.cells #[Value.int IntKind.u32 935285237, Value.int IntKind.u32 3417718888, Value.int IntKind.u32 1798397646, Value.int IntKind.u32 734933847, Value.int IntKind.u32 2081398294, Value.int IntKind.u32 2397563722, Value.int IntKind.u32 4263149467, Value.int IntKind.u32 1340293858] 45)) (.slice (some ⟨W2.heap.size, 0, none⟩) 8 8) (crvN (·.gx) (crv 1)) := (nb_new (e := 45) (w := W2) [3633889942, 4104206661, 770388896, 1996717441, 1671708914, 4173129445, 3777774151, 1796723186] _ lim256gx).al _
    have n1 : Nb (World.alloc (World.alloc W2 (Obj.cells #[Value.int IntKind.u32 3633889942, Value.int IntKind.u32 4104206661, Value.int IntKind.u32 770388896, Value.int IntKind.u32 1996717441, Value.int IntKind.u32 1671708914, Value.int IntKind.u32 4173129445, Value.int IntKind.u32 3777774151, Value.int IntKind.u32 1796723186] 45)) (Obj.cells #[Value.int IntKind.u32 935285237, Value.int IntKind.u32 3417718888, Value.int IntKind.u32 1798397646, Value.int IntKind.u32 734933847, Value.int IntKind.u32 2081398294, Value.int IntKind.u32 2397563722, Value.int IntKind.u32 4263149467, Value.int IntKind.u32 1340293858] 45)) (.slice (some ⟨W2.heap.size + 1, 0, none⟩) 8 8) (crvN (·.gy) (crv 1)) := by have h := nb_new (e := 45) (w := World.alloc W2 (Obj.cells #[Value.int IntKind.u32 3633889942, Value.int IntKind.u32 4104206661, Value.int IntKind.u32 770388896, Value.int IntKind.u32 1996717441, Value.int IntKind.u32 1671708914, Value.int IntKind.u32 4173129445, Value.int IntKind.u32 3777774151, Value.int IntKind.u32 1796723186] 45)) [935285237, 3417718888, 1798397646, 734933847, 2081398294, 2397563722, 4263149467, 1340293858] (crvN (·.gy) (crv 1)) lim256gy; rw [World.size_alloc] at h; exact h
    have hb : Below w.heap.size w (World.alloc (World.alloc W2 (Obj.cells #[Value.int IntKind.u32 3633889942, Value.int IntKind.u32 4104206661, Value.int IntKind.u32 770388896, Value.int IntKind.u32 1996717441, Value.int IntKind.u32 1671708914, Value.int IntKind.u32 4173129445, Value.int IntKind.u32 3777774151, Value.int IntKind.u32 1796723186] 45)) (Obj.cells #[Value.int IntKind.u32 935285237, Value.int IntKind.u32 3417718888, Value.int IntKind.u32 1798397646, Value.int IntKind.u32 734933847, Value.int IntKind.u32 2081398294, Value.int IntKind.u32 2397563722, Value.int IntKind.u32 4263149467, Value.int IntKind.u32 1340293858] 45)) := below_via hBw ((al1 _).alloc (by simp) _) (Nat.le_refl _)
    have H2 : Hid (Blk 24 (World.alloc (World.alloc W2 (Obj.cells #[Value.int IntKind.u32 3633889942, Value.int IntKind.u32 4104206661, Value.int IntKind.u32 770388896, Value.int IntKind.u32 1996717441, Value.int IntKind.u32 1671708914, Value.int IntKind.u32 4173129445, Value.int IntKind.u32 3777774151, Value.int IntKind.u32 1796723186] 45)) (Obj.cells #[Value.int IntKind.u32 935285237, Value.int IntKind.u32 3417718888, Value.int IntKind.u32 1798397646, Value.int IntKind.u32 734933847, Value.int IntKind.u32 2081398294, Value.int IntKind.u32 2397563722, Value.int IntKind.u32 4263149467, Value.int IntKind.u32 1340293858] 45)) w.heap.size [.slice none 0 0, .slice none 0 0] ∧ Nb (World.alloc (World.alloc W2 (Obj.cells #[Value.int IntKind.u32 3633889942, Value.int IntKind.u32 4104206661, Value.int IntKind.u32 770388896, Value.int IntKind.u32 1996717441, Value.int IntKind.u32 1671708914, Value.int IntKind.u32 4173129445, Value.int IntKind.u32 3777774151, Value.int IntKind.u32 1796723186] 45)) (Obj.cells #[Value.int IntKind.u32 935285237, Value.int IntKind.u32 3417718888, Value.int IntKind.u32 1798397646, Value.int IntKind.u32 734933847, Value.int IntKind.u32 2081398294, Value.int IntKind.u32 2397563722, Value.int IntKind.u32 4263149467, Value.int IntKind.u32 1340293858] 45)) (.slice (some ⟨W2.heap.size, 0, none⟩) 8 8) (crvN (·.gx) (crv 1)) ∧ Nb (World.alloc (World.alloc W2 (Obj.cells #[Value.int IntKind.u32 3633889942, Value.int IntKind.u32 4104206661, Value.int IntKind.u32 770388896, Value.int IntKind.u32 1996717441, Value.int IntKind.u32 1671708914, Value.int IntKind.u32 4173129445, Value.int IntKind.u32 3777774151, Value.int IntKind.u32 1796723186] 45)) (Obj.cells #[Value.int IntKind.u32 935285237, Value.int IntKind.u32 3417718888, Value.int IntKind.u32 1798397646, Value.int IntKind.u32 734933847, Value.int IntKind.u32 2081398294, Value.int IntKind.u32 2397563722, Value.int IntKind.u32 4263149467, Value.int IntKind.u32 1340293858] 45)) (.slice (some ⟨W2.heap.size + 1, 0, none⟩) 8 8) (crvN (·.gy) (crv 1)) ∧ Below w.heap.size w (World.alloc (World.alloc W2 (Obj.cells #[Value.int IntKind.u32 3633889942, Value.int IntKind.u32 4104206661, Value.int IntKind.u32 770388896, Value.int IntKind.u32 1996717441, Value.int IntKind.u32 1671708914, Value.int IntKind.u32 4173129445, Value.int IntKind.u32 3777774151, Value.int IntKind.u32 1796723186] 45)) (Obj.cells #[Value.int IntKind.u32 935285237, Value.int IntKind.u32 3417718888, Value.int IntKind.u32 1798397646, Value.int IntKind.u32 734933847, Value.int IntKind.u32 2081398294, Value.int IntKind.u32 2397563722, Value.int IntKind.u32 4263149467, Value.int IntKind.u32 1340293858] 45))) := ⟨hA, n0, n1, hb⟩
    clear hA hB hBw n0 n1 hb
    go_wp2
    obtain ⟨Wn, hWn⟩ : ∃ Wn, (World.alloc (World.alloc W2 (Obj.cells #[Value.int IntKind.u32 3633889942, Value.int IntKind.u32 4104206661, Value.int IntKind.u32 770388896, Value.int IntKind.u32 1996717441, Value.int IntKind.u32 1671708914, Value.int IntKind.u32 4173129445, Value.int IntKind.u32 3777774151, Value.int IntKind.u32 1796723186] 45)) (Obj.cells #[Value.int IntKind.u32 935285237, Value.int IntKind.u32 3417718888, Value.int IntKind.u32 1798397646, Value.int IntKind.u32 734933847, Value.int IntKind.u32 2081398294, Value.int IntKind.u32 2397563722, Value.int IntKind.u32 4263149467, Value.int IntKind.u32 1340293858] 45)) = Wn := ⟨_, rfl⟩
    rw [hWn] at H2 ⊢
    clear d0 d1 g0 g1 hWn
    obtain ⟨hF, hU⟩ := Blk.put2 H2.out.1 (.slice (some ⟨W2.heap.size, 0, none⟩) 8 8) (.slice (some ⟨W2.heap.size + 1, 0, none⟩) 8 8)
    have hbl := hU.below H2.out.2.2.2 H2.out.2.2.2.size (Nat.le_refl _)
    exact bodyPost_ret (v := .agg [.slice (some ⟨W2.heap.size, 0, none⟩) 8 8, .slice (some ⟨W2.heap.size + 1, 0, none⟩) 8 8].toArray) (results_blk (b := w.heap.size) (cs := [.slice (some ⟨W2.heap.size, 0, none⟩) 8 8, .slice (some ⟨W2.heap.size + 1, 0, none⟩) 8 8]) rfl rfl hF Try.underlying24 rfl Try.sizePt) rfl ⟨_, _, rfl, H2.out.2.1.upd H2.out.1 noInts hU, H2.out.2.2.1.upd H2.out.1 noInts hU, hbl⟩
  by_cases h2 : c = 2
  · subst h2
    go_enter Try.func42, Try.ntmps42
    go_upto_region 4 with (fail)
    refine wp_gen (fun W => Blk 24 W w.heap.size [.slice none 0 0, .slice none 0 0] ∧ Below w.heap.size w W) ⟨Blk.new _ w _, al1 _⟩ ?_
    rintro W2 ⟨hB, hBw⟩
    have hA : Blk 24 (World.alloc (World.alloc W2 (Obj.cells #[Value.int IntKind.u32 1920338615, Value.int IntKind.u32 978607672, Value.int IntKind.u32 3210029420, Value.int IntKind.u32 1426256477, Value.int IntKind.u32 2186553912, Value.int IntKind.u32 1509376480, Value.int IntKind.u32 2343017368, Value.int IntKind.u32 1847409506, Value.int IntKind.u32 4079005044, Value.int IntKind.u32 2394015518, Value.int IntKind.u32 3196781879, Value.int IntKind.u32 2861025826] 45)) (Obj.cells #[Value.int IntKind.u32 2431258207, Value.int IntKind.u32 2051218812, Value.int IntKind.u32 494829981, Value.int IntKind.u32 174109134, Value.int IntKind.u32 3052452032, Value.int IntKind.u32 3923390739, Value.int IntKind.u32 681186428, Value.int IntKind.u32 4176747965, Value.int IntKind.u32 2459098153, Value.int IntKind.u32 1570674879, Value.int IntKind.u32 2519084143, Value.int IntKind.u32 907533898] 45)) w.heap.size [.slice none 0 0, .slice none 0 0] := (hB.alloc _).alloc _
    have d0 : World.cell? (World.alloc (World.alloc W2 (Obj.cells #[Value.int IntKind.u32 1920338615, Value.int IntKind.u32 978607672, Value.int IntKind.u32 3210029420, Value.int IntKind.u32 1426256477, Value.int IntKind.u32 2186553912, Value.int IntKind.u32 1509376480, Value.int IntKind.u32 2343017368, Value.int IntKind.u32 1847409506, Value.int IntKind.u32 4079005044, Value.int IntKind.u32 2394015518, Value.int IntKind.u32 3196781879, Value.int IntKind.u32 2861025826] 45)) (Obj.cells #[Value.int IntKind.u32 2431258207, Value.int IntKind.u32 2051218812, Value.int IntKind.u32 494829981, Value.int IntKind.u32 174109134, Value.int IntKind.u32 3052452032, Value.int IntKind.u32 3923390739, Value.int IntKind.u32 681186428, Value.int IntKind.u32 4176747965, Value.int IntKind.u32 2459098153, Value.int IntKind.u32 1570674879, Value.int IntKind.u32 2519084143, Value.int IntKind.u32 907533898] 45)) ⟨w.heap.size, 0, none⟩ = some (.slice none 0 0) := hA.cell 0
    have d1 : World.cell? (World.alloc (World.alloc W2 (Obj.cells #[Value.int IntKind.u32 1920338615, Value.int IntKind.u32 978607672, Value.int IntKind.u32 3210029420, Value.int IntKind.u32 1426256477, Value.int IntKind.u32 2186553912, Value.int IntKind.u32 1509376480, Value.int IntKind.u32 2343017368, Value.int IntKind.u32 1847409506, Value.int IntKind.u32 4079005044, Value.int IntKind.u32 2394015518, Value.int IntKind.u32 3196781879, Value.int IntKind.u32 2861025826] 45)) (Obj.cells #[Value.int IntKind.u32 2431258207, Value.int IntKind.u32 2051218812, Value.int IntKind.u32 494829981, Value.int IntKind.u32 174109134, Value.int IntKind.u32 3052452032, Value.int IntKind.u32 3923390739, Value.int IntKind.u32 681186428, Value.int IntKind.u32 4176747965, Value.int IntKind.u32 2459098153, Value.int IntKind.u32 1570674879, Value.int IntKind.u32 2519084143, Value.int IntKind.u32 907533898] 45)) ⟨w.heap.size, 1, none⟩ = some (.slice none 0 0) := hA.cell 1
    have g0 : World.frozen? (World.alloc (World.alloc W2 (Obj.cells #[Value.int IntKind.u32 1920338615, Value.int IntKind.u32 978607672, Value.int IntKind.u32 3210029420, Value.int IntKind.u32 1426256477, Value.int IntKind.u32 2186553912, Value.int IntKind.u32 1509376480, Value.int IntKind.u32 2343017368, Value.int IntKind.u32 1847409506, Value.int IntKind.u32 4079005044, Value.int IntKind.u32 2394015518, Value.int IntKind.u32 3196781879, Value.int IntKind.u32 2861025826] 45)) (Obj.cells #[Value.int IntKind.u32 2431258207, Value.int IntKind.u32 2051218812, Value.int IntKind.u32 494829981, Value.int IntKind.u32 174109134, Value.int IntKind.u32 3052452032, Value.int IntKind.u32 3923390739, Value.int IntKind.u32 681186428, Value.int IntKind.u32 4176747965, Value.int IntKind.u32 2459098153, Value.int IntKind.u32 1570674879, Value.int IntKind.u32 2519084143, Value.int IntKind.u32 907533898] 45)) ⟨w.heap.size, 0, none⟩ = false := hA.frozen 0
    have g1 : World.frozen? (World.alloc (World.alloc W2 (Obj.cells #[Value.int IntKind.u32 1920338615, Value.int IntKind.u32 978607672, Value.int IntKind.u32 3210029420, Value.int IntKind.u32 1426256477, Value.int IntKind.u32 2186553912, Value.int IntKind.u32 1509376480, Value.int IntKind.u32 2343017368, Value.int IntKind.u32 1847409506, Value.int IntKind.u32 4079005044, Value.int IntKind.u32 2394015518, Value.int IntKind.u32 3196781879, Value.int IntKind.u32 2861025826] 45)) (Obj.cells #[Value.int IntKind.u32 2431258207, Value.int IntKind.u32 2051218812, Value.int IntKind.u32 494829981, Value.int IntKind.u32 174109134, Value.int IntKind.u32 3052452032, Value.int IntKind.u32 3923390739, Value.int IntKind.u32 681186428, Value.int IntKind.u32 4176747965, Value.int IntKind.u32 2459098153, Value.int IntKind.u32 1570674879, Value.int IntKind.u32 2519084143, Value.int IntKind.u32 907533898] 45)) ⟨w.heap.size, 1, none⟩ = false := hA.frozen 1
    have n0 : Nb (World.alloc (World.alloc W2 (Obj.cells #[Value.int IntKind.u32 1920338615, Value.int IntKind.u32 978607672, Value.int IntKind.u32 3210029420, Value.int IntKind.u32 1426256477, Value.int IntKind.u32 2186553912, Value.int IntKind.u32 1509376480, Value.int IntKind.u32 2343017368, Value.int IntKind.u32 1847409506, Value.int IntKind.u32 4079005044, Value.int IntKind.u32 2394015518, Value.int IntKind.u32 3196781879, Value.int IntKind.u32 2861025826] 45)) (Obj.cells #[Value.int IntKind.u32 2431258207, Value.int IntKind.u32 2051218812, Value.int IntKind.u32 494829981, Value.int IntKind.u32 174109134, Value.int IntKind.u32 3052452032, Value.int IntKind.u32 3923390739, Value.int IntKind.u32 681186428, Value.int IntKind.u32 4176747965, Value.int IntKind.u32 2459098153, Value.int IntKind.u32 1570674879, Value.int IntKind.u32 2519084143, Value.int IntKind.u32 907533898] 45)) (.slice (some ⟨W2.heap.size, 0, none⟩) 12 12) (crvN (·.gx) (crv 2)) := (nb_new (e := 45) (w := W2) [1920338615, 978607672, 3210029420, 1426256477, 2186553912, 1509376480, 2343017368, 1847409506, 4079005044, 2394015518, 3196781879, 2861025826] _ lim384gx).al _
    have n1 : Nb (World.alloc (World.alloc W2 (Obj.cells #[Value.int IntKind.u32 1920338615, Value.int IntKind.u32 978607672, Value.int IntKind.u32 3210029420, Value.int IntKind.u32 1426256477, Value.int IntKind.u32 2186553912, Value.int IntKind.u32 1509376480, Value.int IntKind.u32 2343017368, Value.int IntKind.u32 1847409506, Value.int IntKind.u32 4079005044, Value.int IntKind.u32 2394015518, Value.int IntKind.u32 3196781879, Value.int IntKind.u32 2861025826] 45)) (Obj.cells #[Value.int IntKind.u32 2431258207, Value.int IntKind.u32 2051218812, Value.int IntKind.u32 494829981, Value.int IntKind.u32 174109134, Value.int IntKind.u32 3052452032, Value.int IntKind.u32 3923390739, Value.int IntKind.u32 681186428, Value.int IntKind.u32 4176747965, Value.int IntKind.u32 2459098153, Value.int IntKind.u32 1570674879, Value.int IntKind.u32 2519084143, Value.int IntKind.u32 907533898] 45)) (.slice (some ⟨W2.heap.size + 1, 0, none⟩) 12 12) (crvN (·.gy) (crv 2)) := by have h := nb_new (e := 45) (w := World.alloc W2 (Obj.cells #[Value.int IntKind.u32 1920338615, Value.int IntKind.u32 978607672, Value.int IntKind.u32 3210029420, Value.int IntKind.u32 1426256477, Value.int IntKind.u32 2186553912, Value.int IntKind.u32 1509376480, Value.int IntKind.u32 2343017368, Value.int IntKind.u32 1847409506, Value.int IntKind.u32 4079005044, Value.int IntKind.u32 2394015518, Value.int IntKind.u32 3196781879, Value.int IntKind.u32 2861025826] 45)) [2431258207, 2051218812, 494829981, 174109134, 3052452032, 3923390739, 681186428, 4176747965, 2459098153, 1570674879, 2519084143, 907533898] (crvN (·.gy) (crv 2)) lim384gy; rw [World.size_alloc] at h; exact h
    have hb : Below w.heap.size w (World.alloc (World.alloc W2 (Obj.cells #[Value.int IntKind.u32 1920338615, Value.int IntKind.u32 978607672, Value.int IntKind.u32 3210029420, Value.int IntKind.u32 1426256477, Value.int IntKind.u32 2186553912, Value.int IntKind.u32 1509376480, Value.int IntKind.u32 2343017368, Value.int IntKind.u32 1847409506, Value.int IntKind.u32 4079005044, Value.int IntKind.u32 2394015518, Value.int IntKind.u32 3196781879, Value.int IntKind.u32 2861025826] 45)) (Obj.cells #[Value.int IntKind.u32 2431258207, Value.int IntKind.u32 2051218812, Value.int IntKind.u32 494829981, Value.int IntKind.u32 174109134, Value.int IntKind.u32 3052452032, Value.int IntKind.u32 3923390739, Value.int IntKind.u32 681186428, Value.int IntKind.u32 4176747965, Value.int IntKind.u32 2459098153, Value.int IntKind.u32 1570674879, Value.int IntKind.u32 2519084143, Value.int IntKind.u32 907533898] 45)) := below_via hBw ((al1 _).alloc (by simp) _) (Nat.le_refl _)
    have H2 : Hid (Blk 24 (World.alloc (World.alloc W2 (Obj.cells #[Value.int IntKind.u32 1920338615, Value.int IntKind.u32 978607672, Value.int IntKind.u32 3210029420, Value.int IntKind.u32 1426256477, Value.int IntKind.u32 2186553912, Value.int IntKind.u32 1509376480, Value.int IntKind.u32 2343017368, Value.int IntKind.u32 1847409506, Value.int IntKind.u32 4079005044, Value.int IntKind.u32 2394015518, Value.int IntKind.u32 3196781879, Value.int IntKind.u32 2861025826] 45)) (Obj.cells #[Value.int IntKind.u32 2431258207, Value.int IntKind.u32 2051218812, Value.int IntKind.u32 494829981, Value.int IntKind.u32 174109134, Value.int IntKind.u32 3052452032, Value.int IntKind.u32 3923390739, Value.int IntKind.u32 681186428, Value.int IntKind.u32 4176747965, Value.int IntKind.u32 2459098153, Value.int IntKind.u32 1570674879, Value.int IntKind.u32 2519084143, Value.int IntKind.u32 907533898] 45)) w.heap.size [.slice none 0 0, .slice none 0 0] ∧ Nb (World.alloc (World.alloc W2 (Obj.cells #[Value.int IntKind.u32 1920338615, Value.int IntKind.u32 978607672, Value.int IntKind.u32 3210029420, Value.int IntKind.u32 1426256477, Value.int IntKind.u32 2186553912, Value.int IntKind.u32 1509376480, Value.int IntKind.u32 2343017368, Value.int IntKind.u32 1847409506, Value.int IntKind.u32 4079005044, Value.int IntKind.u32 2394015518, Value.int IntKind.u32 3196781879, Value.int IntKind.u32 2861025826] 45)) (Obj.cells #[Value.int IntKind.u32 2431258207, Value.int IntKind.u32 2051218812, Value.int IntKind.u32 494829981, Value.int IntKind.u32 174109134, Value.int IntKind.u32 3052452032, Value.int IntKind.u32 3923390739, Value.int IntKind.u32 681186428, Value.int IntKind.u32 4176747965, Value.int IntKind.u32 2459098153, Value.int IntKind.u32 1570674879, Value.int IntKind.u32 2519084143, Value.int IntKind.u32 907533898] 45)) (.slice (some ⟨W2.heap.size, 0, none⟩) 12 12) (crvN (·.gx) (crv 2)) ∧ Nb (World.alloc (World.alloc W2 (Obj.cells #[Value.int IntKind.u32 1920338615, Value.int IntKind.u32 978607672, Value.int IntKind.u32 3210029420, Value.int IntKind.u32 1426256477, Value.int IntKind.u32 2186553912, Value.int IntKind.u32 1509376480, Value.int IntKind.u32 2343017368, Value.int IntKind.u32 1847409506, Value.int IntKind.u32 4079005044, Value.int IntKind.u32 2394015518, Value.int IntKind.u32 3196781879, Value.int IntKind.u32 2861025826] 45)) (Obj.cells #[Value.int IntKind.u32 2431258207, Value.int IntKind.u32 2051218812, Value.int IntKind.u32 494829981, Value.int IntKind.u32 174109134, Value.int IntKind.u32 3052452032, Value.int IntKind.u32 3923390739, Value.int IntKind.u32 681186428, Value.int IntKind.u32 4176747965, Value.int IntKind.u32 2459098153, Value.int IntKind.u32 1570674879, Value.int IntKind.u32 2519084143, Value.int IntKind.u32 907533898] 45)) (.slice (some ⟨W2.heap.size + 1, 0, none⟩) 12 12) (crvN (·.gy) (crv 2)) ∧ Below w.heap.size w (World.alloc (World.alloc W2 (Obj.cells #[Value.int IntKind.u32 1920338615, Value.int IntKind.u32 978607672, Value.int IntKind.u32 3210029420, Value.int IntKind.u32 1426256477, Value.int IntKind.u32 2186553912, Value.int IntKind.u32 1509376480, Value.int IntKind.u32 2343017368, Value.int IntKind.u32 1847409506, Value.int IntKind.u32 4079005044, Value.int IntKind.u32 2394015518, Value.int IntKind.u32 3196781879, Value.int IntKind.u32 2861025826] 45)) (Obj.cells #[Value.int IntKind.u32 2431258207, Value.int IntKind.u32 2051218812, Value.int IntKind.u32 494829981, Value.int IntKind.u32 174109134, Value.int IntKind.u32 3052452032, Value.int IntKind.u32 3923390739, Value.int IntKind.u32 681186428, Value.int IntKind.u32 4176747965, Value.int IntKind.u32 2459098153, Value.int IntKind.u32 1570674879, Value.int IntKind.u32 2519084143, Value.int IntKind.u32 907533898] 45))) := ⟨hA, n0, n1, hb⟩
    clear hA hB hBw n0 n1 hb
    go_wp2
    obtain ⟨Wn, hWn⟩ : ∃ Wn, (World.alloc (World.alloc W2 (Obj.cells #[Value.int IntKind.u32 1920338615, Value.int IntKind.u32 978607672, Value.int IntKind.u32 3210029420, Value.int IntKind.u32 1426256477, Value.int IntKind.u32 2186553912, Value.int IntKind.u32 1509376480, Value.int IntKind.u32 2343017368, Value.int IntKind.u32 1847409506, Value.int IntKind.u32 4079005044, Value.int IntKind.u32 2394015518, Value.int IntKind.u32 3196781879, Value.int IntKind.u32 2861025826] 45)) (Obj.cells #[Value.int IntKind.u32 2431258207, Value.int IntKind.u32 2051218812, Value.int IntKind.u32 494829981, Value.int IntKind.u32 174109134, Value.int IntKind.u32 3052452032, Value.int IntKind.u32 3923390739, Value.int IntKind.u32 681186428, Value.int IntKind.u32 4176747965, Value.int IntKind.u32 2459098153, Value.int IntKind.u32 1570674879, Value.int IntKind.u32 2519084143, Value.int IntKind.u32 907533898] 45)) = Wn := ⟨_, rfl⟩
    rw [hWn] at H2 ⊢
    clear d0 d1 g0 g1 hWn
    obtain ⟨hF, hU⟩ := Blk.put2 H2.out.1 (.slice (some ⟨W2.heap.size, 0, none⟩) 12 12) (.slice (some ⟨W2.heap.size + 1, 0, none⟩) 12 12)
    have hbl := hU.below H2.out.2.2.2 H2.out.2.2.2.size (Nat.le_refl _)
    exact bodyPost_ret (v := .agg [.slice (some ⟨W2.heap.size, 0, none⟩) 12 12, .slice (some ⟨W2.heap.size + 1, 0, none⟩) 12 12].toArray) (results_blk (b := w.heap.size) (cs := [.slice (some ⟨W2.heap.size, 0, none⟩) 12 12, .slice (some ⟨W2.heap.size + 1, 0, none⟩) 12 12]) rfl rfl hF Try.underlying24 rfl Try.sizePt) rfl ⟨_, _, rfl, H2.out.2.1.upd H2.out.1 noInts hU, H2.out.2.2.1.upd H2.out.1 noInts hU, hbl⟩
  · have HN : Hid (crv c = none) := by show _ = _; unfold crv; rw [if_neg h1, if_neg h2]
    go_enter Try.func42, Try.ntmps42
    go_upto_region 5 with (fail)
    refine wp_gen (fun W => Blk 24 W w.heap.size [.slice none 0 0, .slice none 0 0] ∧ Below w.heap.size w W) ⟨Blk.new _ w _, al1 _⟩ ?_
    rintro W2 ⟨hB, hBw⟩
    have H2 : Hid (Blk 24 W2 w.heap.size [.slice none 0 0, .slice none 0 0] ∧ Below w.heap.size w W2) := ⟨hB, hBw⟩
    have d0 : W2.cell? ⟨w.heap.size, 0, none⟩ = some (.slice none 0 0) := hB.cell 0
    have d1 : W2.cell? ⟨w.heap.size, 1, none⟩ = some (.slice none 0 0) := hB.cell 1
    have g0 := hB.frozen 0; have g1 := hB.frozen 1
    clear hB hBw
    go_wp2
    obtain ⟨hF, hU⟩ := Blk.put2 H2.out.1 (.slice none 0 0) (.slice none 0 0)
    have hbl := hU.below H2.out.2 H2.out.2.size (Nat.le_refl _)
    exact bodyPost_ret (v := .agg [.slice none 0 0, .slice none 0 0].toArray) (results_blk (b := w.heap.size) (cs := [.slice none 0 0, .slice none 0 0]) rfl rfl hF Try.underlying24 rfl Try.sizePt) rfl ⟨_, _, rfl, by rw [HN.out]; exact nil_nb _, by rw [HN.out]; exact nil_nb _, hbl⟩
theorem num09_any (x : Int) (w : World) : Calls Try.prog 13 #[.int .i64 x] w fun e w' => e = .returned (.int .i64 x) ∧ w = w' := by
  go_enter Try.func13, Try.ntmps13
  go_wp2
  go_ret
  exact ⟨rfl, rfl⟩
set_option maxHeartbeats 2000000 in
theorem SameP_any {w : World} (a b c d : Value) (x y : Nat) (ha : Nb w a x) (hb : Nb w b y) (hc : Nb w c x) (hd : Nb w d y) (lx : (lim x).length ≤ 1000) (ly : (lim y).length ≤ 1000) :
    Calls Try.prog 12 #[.agg #[a, b], .agg #[c, d]] w fun e w' => e = .returned (.bool true) ∧ Below w.heap.size w w' := by
  have HX : Hid (∀ W, Below w.heap.size w W → Calls Try.prog 39 #[a, c] W fun e w' => e = .returned (.bool true) ∧ Below W.heap.size W w') := fun W hW => Nt.Same_any a c (lim x) (ha.below hW) (hc.below hW) (by omega)
  have HY : Hid (∀ W, Below w.heap.size w W → Calls Try.prog 39 #[b, d] W fun e w' => e = .returned (.bool true) ∧ Below W.heap.size W w') := fun W hW => Nt.Same_any b d (lim y) (hb.below hW) (hd.below hW) (by omega)
  clear ha hb hc hd lx ly
  go_enter Try.func12, Try.ntmps12
  go_upto_region 1 with (first | (refine wpList_boxR rfl 24 (.tmp 0) rfl #[a, b] rfl ?_) | (refine wpList_boxR rfl 24 (.tmp 1) rfl #[c, d] rfl ?_))
  refine wp_gen (fun W => Blk 24 W w.heap.size [a, b] ∧ Blk 24 W (w.heap.size + 1) [c, d] ∧ Below w.heap.size w W) ⟨(Blk.new _ w _).alloc _, by have := Blk.new 24 (w.alloc (.cells [a, b].toArray 24)) [c, d]; rw [World.size_alloc] at this; exact this, (al1 _).alloc (by simp) _⟩ ?_
  rintro W2 ⟨hB, hB2, hBw⟩
  have H2 : Hid (Below w.heap.size w W2 ∧ ∀ W3, Below W2.heap.size W2 W3 → W3.cell? ⟨w.heap.size, 1, none⟩ = some b ∧ W3.cell? ⟨w.heap.size + 1, 1, none⟩ = some d ∧ Below w.heap.size w W3) := ⟨hBw, fun W3 h3 => ⟨(below_blk h3 hB.lt hB).cell 1, (below_blk h3 hB2.lt hB2).cell 1, below_via hBw h3 (Nat.le_refl _)⟩⟩
  have p0 : W2.cell? ⟨w.heap.size, 0, none⟩ = some a := hB.cell 0
  have p1 : W2.cell? ⟨w.heap.size + 1, 0, none⟩ = some c := hB2.cell 0
  clear hB hB2 hBw
  go_wp2_with fail
  refine (HX.out _ H2.out.1).mono ?_
  rintro e w3 ⟨rfl, hb3⟩
  obtain ⟨q0, q1, hb⟩ := H2.out.2 _ hb3
  have H3 : Hid (Below w.heap.size w w3) := hb
  clear hb hb3 p0 p1
  go_wp2_with fail
  refine (HY.out _ H3.out).mono ?_
  rintro e w4 ⟨rfl, hb4⟩
  have H4 : Hid (Below w.heap.size w w4) := below_via H3.out hb4 (Nat.le_refl _)
  clear hb4 q0 q1
  go_wp2
  go_ret
  exact ⟨rfl, H4.out⟩
set_option maxHeartbeats 2000000 in
theorem Parse_two {w : World} (ba : Nat) (cp : Nat) (h0 : w.cell? ⟨ba, 0, none⟩ = some (.int .u8 2)) (hl : ba < w.heap.size) :
    Calls Try.prog 21 #[.int .i64 1, .slice (some ⟨ba, 0, none⟩) 65 cp] w fun e w' => e = .returned (.tuple #[.agg [.slice none 0 0, .slice none 0 0].toArray, .int .i64 6]) ∧ Below w.heap.size w w' := by
  go_enter Try.func21, Try.ntmps21
  go_upto_region 1 with (fail)
  refine wp_gen (fun W => Blk 24 W w.heap.size [.slice none 0 0, .slice none 0 0] ∧ Below w.heap.size w W) ⟨Blk.new _ w _, al1 _⟩ ?_
  rintro W2 ⟨hB, hBw⟩
  have H2 : Hid (Below w.heap.size w W2 ∧ Blk 24 W2 w.heap.size [.slice none 0 0, .slice none 0 0] ∧ W2.cell? ⟨ba, 0, none⟩ = some (.int .u8 2) ∧ ba < W2.heap.size) := ⟨hBw, hB, (hBw.cell (p := ⟨ba, 0, none⟩) hl).trans h0, Nat.lt_of_lt_of_le hl hBw.size⟩
  clear hB hBw h0 hl
  go_wp2_with fail
  refine (pick_yes 1 c256 rfl).mono ?_
  rintro e w3 ⟨s, a1, n1, c1, a2, n2, c2, a3, n3, c3, a4, n4, c4, a5, n5, c5, rfl, hk, hb3⟩
  have hs : s = 32 := hk.1
  subst hs
  have H3 : Hid (Below w.heap.size w w3 ∧ Blk 24 w3 w.heap.size [.slice none 0 0, .slice none 0 0] ∧ w3.cell? ⟨ba, 0, none⟩ = some (.int .u8 2) ∧ ba < w3.heap.size) := ⟨below_via H2.out.1 hb3 (Nat.le_refl _), below_blk hb3 H2.out.2.1.lt H2.out.2.1, (hb3.cell (p := ⟨ba, 0, none⟩) H2.out.2.2.2).trans H2.out.2.2.1, Nat.lt_of_lt_of_le H2.out.2.2.2 hb3.size⟩
  clear hk hb3
  go_upto_region 2 with (fail)
  refine wp_gen (fun W => Blk 53 W w3.heap.size [.int .i64 32, .slice a1 n1 c1, .slice a2 n2 c2, .slice a3 n3 c3, .slice a4 n4 c4, .slice a5 n5 c5] ∧ Below w3.heap.size w3 W) ⟨Blk.new _ _ _, al1 _⟩ ?_
  rintro W4 ⟨hB4, hb4⟩
  have k0 : W4.cell? ⟨w3.heap.size, 0, none⟩ = some (.int .i64 32) := hB4.cell 0
  have q0 : W4.cell? ⟨ba, 0, none⟩ = some (.int .u8 2) := (hb4.cell (p := ⟨ba, 0, none⟩) H3.out.2.2.2).trans H3.out.2.2.1
  have hB := below_blk hb4 H3.out.2.1.lt H3.out.2.1
  have H4 : Hid (Below w.heap.size w W4 ∧ Blk 24 W4 w.heap.size [.slice none 0 0, .slice none 0 0]) := ⟨below_via H3.out.1 hb4 (Nat.le_refl _), hB⟩
  have d0 : W4.cell? ⟨w.heap.size, 0, none⟩ = some (.slice none 0 0) := hB.cell 0
  have d1 : W4.cell? ⟨w.heap.size, 1, none⟩ = some (.slice none 0 0) := hB.cell 1
  have g0 := hB.frozen 0; have g1 := hB.frozen 1
  clear hB hB4 hb4
  go_wp2
  obtain ⟨hF, hU⟩ := Blk.put2 H4.out.2 (.slice none 0 0) (.slice none 0 0)
  have hbl := hU.below H4.out.1 H4.out.1.size (Nat.le_refl _)
  exact bodyPost_ret (results_blk2 rfl rfl hF Try.underlying24 rfl Try.sizePt rfl) rfl ⟨rfl, hbl⟩
end Go.Proofs.Ytkdclocjijmgpaa
/-
  The numbers of the page's examples. (wip/mku32.py)
-/
namespace Go.Proofs.Ytkdclocjijmgpaa
open Go.RowKit
set_option maxRecDepth 100000
theorem inv_one {p z g h : Nat} (hg : g < p) (hh : h < p) (eg : z * g % p = 1 % p) (eh : z * h % p = 1 % p) : g = h := by
  have e1 : z * g * h % p = h := by rw [Nat.mul_mod, eg, ← Nat.mul_mod, Nat.one_mul, Nat.mod_eq_of_lt hh]
  have e2 : z * h * g % p = g := by rw [Nat.mul_mod, eh, ← Nat.mul_mod, Nat.one_mul, Nat.mod_eq_of_lt hg]
  rw [Nat.mul_right_comm] at e1
  exact e2.symm.trans e1
def exT : Nat × Nat × Nat := (69923961955967387994258645329874512676251231789611885617885350872868369909519, 29468416531536242154810423193772930342200868632530199947817229236472112149969, 72268501913499591597170255839175763913222213345970030143754396507136828810218)
def exG : Nat := 56574125023949875979384902335110527424677819735484098786822054576870411640858
def exX : Nat := 56515219790691171413109057904011688695424810155802929973526481321309856242040
def exY : Nat := 3377031843712258259223711451491452598088675519751548567112458094635497583569
theorem exT_eq : mixA c256 [] [2] (lim c256.gx) (lim c256.gy) = exT := by
  unfold mixA
  rw [lim256gx, lim256gy]
  decide +kernel
theorem exT_gcd : Nat.gcd exT.2.2 c256.p = 1 := by decide +kernel
theorem ex_on : onB c256.p c256.b (lim c256.gx) (lim c256.gy) = true := by rw [lim256gx, lim256gy]; decide +kernel
theorem ex_on2 : onB c384.p c384.b (lim c384.gx) (lim c384.gy) = true := by rw [lim384gx, lim384gy]; decide +kernel
theorem exj {X Y : Nat} (h : jpt c256.p exT X Y) : X = exX ∧ Y = exY := by
  rcases h with ⟨h0, _⟩ | ⟨_, g, hg, hz, rfl, rfl⟩
  · exact absurd h0 (by decide +kernel)
  · have e : g = exG := inv_one (z := exT.2.2) hg (by decide +kernel) hz (by decide +kernel)
    subst e
    exact ⟨by decide +kernel, by decide +kernel⟩
theorem exX_lim : lim exX = [1197906296, 2785757436, 2012355381, 3230231010, 78977731, 2320644099, 2365804414, 2096266008] := lim_of_val _ (by decide +kernel) (by decide +kernel) (by decide +kernel)
theorem exY_lim : lim exY = [578319313, 2651109277, 1021936169, 3128798694, 2675192027, 691903174, 3683569728, 125261072] := lim_of_val _ (by decide +kernel) (by decide +kernel) (by decide +kernel)
theorem ex_on3 : onC 1 (lim exX) (lim exY) = true := by
  rw [exX_lim, exY_lim]; decide +kernel
def exN : Nat := 31076295234905449226732288810623505625791886221604131073239087501765218571612451104608622327865990668783520461484448
theorem exN_eq : fsb c384.p 0 c384.gy = exN := by decide +kernel
theorem exN_lim : lim exN = [1863709088, 2243748484, 3800137314, 4120858160, 1242515262, 371576556, 3613780867, 118219330, 1835869142, 2724292416, 1775883152, 3387433397] := lim_of_val _ (by decide +kernel) (by decide +kernel) (by decide +kernel)
theorem ex_on4 : onB c384.p c384.b (lim c384.gx) (lim exN) = true := by rw [lim384gx, exN_lim]; decide +kernel
theorem exS : jsm c384.p (triB (lim c384.gx) (lim exN)) (triB (lim c384.gx) (lim c384.gy)) = (0, 0, 0) := by rw [lim384gx, exN_lim, lim384gy]; decide +kernel
theorem exj0 {p X Y : Nat} (h : jpt p (0, 0, 0) X Y) : X = 0 ∧ Y = 0 := by
  rcases h with ⟨_, h1, h2⟩ | ⟨h0, _⟩
  · exact ⟨h1, h2⟩
  · exact absurd rfl h0
end Go.Proofs.Ytkdclocjijmgpaa
