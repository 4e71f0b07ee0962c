import Derived.Test.YtkekmokdlgocaaaGreatDoorJW14
import Derived.Test.YtkekmokdlgocaaaGreatDoorJW13
import Derived.Lib.OwnBridge
import Derived.Shelf.Slices.CompactI
import Derived.Ground.SlbNamesProg
set_option maxRecDepth 100000
set_option maxHeartbeats 4000000
namespace Go.Proofs.YtkekmokdlgocaaaGreatDoor.Pl
open Go.RowKit
theorem clone_c (A : Option Addr) (m c : Nat) (l : List Nat) (w : World) (h : Rc 1 w w.heap.size A m c (ivs (ic l))) (h1 : 1 ≤ m) (hm : m ≤ 1000000) :
  Calls Tryz.prog 45 #[.slice A m c] w fun e w' => ∃ A' c', e = .returned (.slice A' m c') ∧ Oc 1 w' 3 w.heap.size A' m c' (ivs (ic l)) ∧ Below w.heap.size w w' := by
 obtain ⟨b, off, x, rfl, hb, hcx, hx⟩ := h.int (k := 0) (by omega)
 obtain ⟨w5, h5⟩ : ∃ w5, w5 = w.alloc (.cells #[] 3) := ⟨_, rfl⟩
 have b5 : Below w.heap.size w w5 := by rw [h5]; exact ej _ _
 have hown : Oc 1 w5 3 w.heap.size (some ⟨w.heap.size, 0,none⟩) 0 0 [] := by rw [h5]; exact Oc.made0 1 _ _
 have hr5 := h.below b5
 have z5 : w5.heap.size = w.heap.size + 1 := by rw [h5]; simp
 have H5 := ek h5; have Hown := ek hown; have Hr := ek (hr5.more (show w.heap.size ≤ w5.heap.size by omega))
 clear h5 hown hr5 h hcx hx
 have q22 : ∀ (w : World) (a : Option Addr) (n c n' c' : Nat), (binOp .eql 25 (.slice a n c) (.slice none n' c')).run Tryz.prog w = .ok (.bool a.isNone) w := fun w a n c n' c' => Lib.run_eql_slice_nil w _ _ a n c n' c' Tryz.underlying25
 go_enter Tryz.func45, Tryz.ntmps45
 go_wp2_with (at_builtin; rw [← H5.out]; go_must (refine Sl.wpAppAt ity rfl (.tmp 5) (.tmp 6) rfl (n := 0) (m := m) (N := m) (ws := ivs (ic l)) rfl rfl Hown.out Hr.out ?hs1 ?hs2 rfl ?hs4 ?hs5 ?hs6 ?_))
 case hs1 => intro u hu; obtain ⟨q, _, rfl⟩ := List.mem_map.1 hu; rfl
 case hs2 => omega
 case hs4 => omega
 case hs5 => omega
 case hs6 => omega
 intro A8 c8 w8 hown8 hg8
 have bw8 := b5.trans (hg8.belowC Hown.out (by omega))
 have Hown8 := ek hown8
 clear hown8 hg8
 go_wp2
 go_ret
 exact ⟨A8, c8, rfl, Hown8.out, bw8⟩
end Go.Proofs.YtkekmokdlgocaaaGreatDoor.Pl
