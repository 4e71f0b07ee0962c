/-
  The document's answers of layer 2 (threshingref02), and the live question of its statements: what each call returns and leaves.
-/
import Derived.Test.YtcmagegcolcalabCy
import Derived.Lib.SlBytesConst
namespace Go.Proofs.Ytcmagegcolcalab
open Go.RowKit

set_option maxRecDepth 100000 in
/-- the document's More -/
theorem rmore_c (A : Option Addr) (n c B : Nat) (t : List Nat) (D : Option Addr) (m d B2 : Nat) (l : List UInt8) (r : Nat) (w : World) (ht : Rn w B A n c t) (hn : n ≤ 300) (hl : Rb w B2 D m d l) (hm : m ≤ 1000000) (hr : r < 4294967296) :
    Calls Try.prog 13 #[.slice A n c, .int .u32 (r : Int), .slice D m d] w fun e w' => e = retN (numS t (Cm.more t r l)) ∧ w = w' := by
  have hlen := ht.len
  by_cases h : n = 256
  · rw [numS_ok t _ (by omega)]
    subst h
    obtain ⟨N, hN⟩ : ∃ N, N = Cm.more t r l := ⟨_, rfl⟩
    rw [← hN]
    have HN := Lib.hid hN; have Hr := Lib.hid hr; have Ht := Lib.hid ht; have Hl := Lib.hid hl; clear hN hr ht hl hlen hn
    go_enter Try.func13, Try.ntmps13
    go_wp2
    go_loop [8, 1] (fun i t' => ∃ k q : Nat, k ≤ m ∧ i = .int .i64 (k : Int) ∧ t' = .int .u32 (q : Int) ∧ Hid (Cm.more t q (l.drop k) = N ∧ q < 4294967296)) (fun i _ => m - (intOf i).toNat)
    case atStart => exact ⟨0, r, by omega, rfl, rfl, Lib.hid ⟨HN.out.symm, Hr.out⟩⟩
    case round =>
      obtain ⟨k, q, hk, rfl, rfl, H⟩ := hrel
      by_cases hlt : k < m
      · obtain ⟨b, off, x, rfl, hb, hc, hx, hd⟩ := Hl.out.at_ hlt
        have hix := Cm.idx_lt q x
        have hxl := x.toNat_lt
        have hq := H.out.2
        have hu : IntKind.u32.wrap (x.toNat : Int) = (x.toNat : Int) := by rw [IntKind.wrap_u32']; omega
        have e1 : bits .xor .u32 (q : Int) (x.toNat : Int) = ((q ^^^ x.toNat : Nat) : Int) := xor32 _ _ rfl rfl hq (by omega)
        obtain ⟨j, hj⟩ : ∃ j, j = q % 256 ^^^ x.toNat := ⟨_, rfl⟩
        obtain ⟨J, hJ⟩ : ∃ J, J = q ^^^ x.toNat := ⟨_, rfl⟩
        have hJj : J % 256 = j := by rw [hJ, hj]; exact Cm.idx_ref q x
        have hJl : J < 4294967296 := by rw [hJ]; exact Cm.xor_lt hq (by omega)
        rw [← hJ] at e1
        rw [← hj] at hix
        have e2 : ((J : Int) % 256) = (j : Int) := by omega
        obtain ⟨b', off', y, rfl, hb', hc', hy, hyl, hg⟩ := Ht.out.at_ hix
        have Hd := Lib.hid hd; have Hx := Lib.hid hx; have Hy := Lib.hid hy; have Hg := Lib.hid hg; have Hj := Lib.hid hj; have HJ := Lib.hid hJ; have HJj := Lib.hid hJj; clear hd hx hy hg hj hJ hJj
        go_wp2
        go_round
        case rel =>
          refine ⟨k + 1, Cm.upd t q x, by omega, by go_num, ?_, Lib.hid ⟨?_, Cm.upd_lt t Ht.out.fits q H.out.2 x⟩⟩
          · unfold Cm.upd
            rw [← Hj.out, Hg.out, xor32 (a := (y : Int)) (b := (q : Int) / 256) y (q / 256) rfl (by omega) hyl (by have := H.out.2; omega)]
          · have := H.out.1
            rw [Hd.out, Cm.more_cons] at this
            exact this
        case measure => simp [intOf]; omega
      · go_wp2
        go_ret2
        obtain rfl : k = m := by omega
        have h1 := H.out.1
        rw [List.drop_of_length_le (by rw [Hl.out.len]; omega)] at h1
        have h2 : q = N := h1
        subst h2
        exact ⟨rfl, rfl⟩
  · rw [numS_err t _ (by omega)]
    have Ht := Lib.hid ht; have Hl := Lib.hid hl; have Hr := Lib.hid hr; clear ht hl hlen hr
    go_enter Try.func13, Try.ntmps13
    go_wp2
    go_ret2
    exact ⟨rfl, rfl⟩

theorem rmore_ok (A : Option Addr) (n c B : Nat) (t : List Nat) (D : Option Addr) (m d B2 : Nat) (l : List UInt8) (r : Nat) (w : World) (ht : Rn w B A n c t) (hn : n = 256) (hl : Rb w B2 D m d l) (hm : m ≤ 1000000) (hr : r < 4294967296) (v : Nat) (hv : v = Cm.more t r l) :
    Calls Try.prog 13 #[.slice A n c, .int .u32 (r : Int), .slice D m d] w fun e w' => e = .returned (.tuple #[.int .u32 (v : Int), .int .i64 0]) ∧ w = w' :=
  (rmore_c A n c B t D m d B2 l r w ht (by omega) hl hm hr).mono fun e w' ⟨he, hw⟩ => ⟨by rw [he, numS_ok t _ (by rw [ht.len, hn]), hv]; rfl, hw⟩
theorem rmore_err (A : Option Addr) (n c B : Nat) (t : List Nat) (D : Option Addr) (m d B2 : Nat) (l : List UInt8) (r : Nat) (w : World) (ht : Rn w B A n c t) (hn : n ≤ 300) (hn2 : n ≠ 256) (hl : Rb w B2 D m d l) (hm : m ≤ 1000000) (hr : r < 4294967296) :
    Calls Try.prog 13 #[.slice A n c, .int .u32 (r : Int), .slice D m d] w fun e w' => e = .returned (.tuple #[.int .u32 0, .int .i64 1]) ∧ w = w' :=
  (rmore_c A n c B t D m d B2 l r w ht hn hl hm hr).mono fun e w' ⟨he, hw⟩ => ⟨by rw [he, numS_err t _ (by rw [ht.len]; exact hn2)]; rfl, hw⟩

set_option maxRecDepth 100000 in
/-- the document's Sum -/
theorem rsum_c (A : Option Addr) (n c B : Nat) (t : List Nat) (D : Option Addr) (m d B2 : Nat) (l : List UInt8) (w : World) (ht : Rn w B A n c t) (hn : n ≤ 300) (hl : Rb w B2 D m d l) (hm : m ≤ 1000000) :
    Calls Try.prog 15 #[.slice A n c, .slice D m d] w fun e w' => e = retN (numS t (Cm.sum t l)) ∧ w = w' := by
  have hlen := ht.len
  by_cases h : n = 256
  · rw [numS_ok t _ (by omega)]
    have hlt := Cm.more_lt t ht.fits l 4294967295 (by omega)
    obtain ⟨N, hN⟩ : ∃ N, N = Cm.more t 4294967295 l := ⟨_, rfl⟩
    rw [← hN] at hlt
    have Ht := Lib.hid ht; have Hl := Lib.hid hl; have HN := Lib.hid hN; have Hlt := Lib.hid hlt; have H256 := Lib.hid h; clear ht hl hn hlen hN hlt h
    go_enter Try.func15, Try.ntmps15
    go_wp2_with fail
    refine (rmore_ok A n c B t D m d B2 l 4294967295 _ Ht.out H256.out Hl.out hm (by omega) N HN.out).mono ?_
    rintro e w' ⟨rfl, rfl⟩
    go_wp2
    go_ret2
    refine ⟨?_, rfl⟩
    unfold Cm.sum
    rw [← HN.out]
    show Ending.returned (.tuple #[.int .u32 (bits .xor .u32 (N : Int) 4294967295), .int .i64 0]) = .returned (.tuple #[.int .u32 ((4294967295 ^^^ N : Nat) : Int), .int .i64 0])
    rw [xor32 (a := (N : Int)) (b := 4294967295) N 4294967295 rfl rfl Hlt.out (by omega), Nat.xor_comm]
  · rw [numS_err t _ (by omega)]
    have Ht := Lib.hid ht; have Hl := Lib.hid hl; have H256 := Lib.hid h; have Hn := Lib.hid hn; clear ht hl hlen h hn
    go_enter Try.func15, Try.ntmps15
    go_wp2_with fail
    refine (rmore_err A n c B t D m d B2 l 4294967295 _ Ht.out Hn.out H256.out Hl.out hm (by omega)).mono ?_
    rintro e w' ⟨rfl, rfl⟩
    go_wp2
    go_ret2
    exact ⟨rfl, rfl⟩

theorem rsum_ok (A : Option Addr) (n c B : Nat) (t : List Nat) (D : Option Addr) (m d B2 : Nat) (l : List UInt8) (w : World) (ht : Rn w B A n c t) (hn : n = 256) (hl : Rb w B2 D m d l) (hm : m ≤ 1000000) (v : Nat) (hv : v = Cm.sum t l) :
    Calls Try.prog 15 #[.slice A n c, .slice D m d] w fun e w' => e = .returned (.tuple #[.int .u32 (v : Int), .int .i64 0]) ∧ w = w' :=
  (rsum_c A n c B t D m d B2 l w ht (by omega) hl hm).mono fun e w' ⟨he, hw⟩ => ⟨by rw [he, numS_ok t _ (by rw [ht.len, hn]), hv]; rfl, hw⟩
theorem rsum_err (A : Option Addr) (n c B : Nat) (t : List Nat) (D : Option Addr) (m d B2 : Nat) (l : List UInt8) (w : World) (ht : Rn w B A n c t) (hn : n ≤ 300) (hn2 : n ≠ 256) (hl : Rb w B2 D m d l) (hm : m ≤ 1000000) :
    Calls Try.prog 15 #[.slice A n c, .slice D m d] w fun e w' => e = .returned (.tuple #[.int .u32 0, .int .i64 1]) ∧ w = w' :=
  (rsum_c A n c B t D m d B2 l w ht hn hl hm).mono fun e w' ⟨he, hw⟩ => ⟨by rw [he, numS_err t _ (by rw [ht.len]; exact hn2)]; rfl, hw⟩
theorem sum_ok (A : Option Addr) (n c B : Nat) (t : List Nat) (D : Option Addr) (m d B2 : Nat) (l : List UInt8) (w : World) (ht : Rn w B A n c t) (hn : n = 256) (hl : Rb w B2 D m d l) (hm : m ≤ 1000000) (v : Nat) (hv : v = Cm.sum t l) :
    Calls Try.prog 14 #[.slice A n c, .slice D m d] w fun e w' => e = .returned (.tuple #[.int .u32 (v : Int), .int .i64 0]) ∧ w = w' :=
  (sum_c A n c B t D m d B2 l w ht (by omega) hl hm).mono fun e w' ⟨he, hw⟩ => ⟨by rw [he, numS_ok t _ (by rw [ht.len, hn]), hv]; rfl, hw⟩
theorem sum_err (A : Option Addr) (n c B : Nat) (t : List Nat) (D : Option Addr) (m d B2 : Nat) (l : List UInt8) (w : World) (ht : Rn w B A n c t) (hn : n ≤ 300) (hn2 : n ≠ 256) (hl : Rb w B2 D m d l) (hm : m ≤ 1000000) :
    Calls Try.prog 14 #[.slice A n c, .slice D m d] w fun e w' => e = .returned (.tuple #[.int .u32 0, .int .i64 1]) ∧ w = w' :=
  (sum_c A n c B t D m d B2 l w ht hn hl hm).mono fun e w' ⟨he, hw⟩ => ⟨by rw [he, numS_err t _ (by rw [ht.len]; exact hn2)]; rfl, hw⟩

/-- A constant's row of bytes. -/
theorem Rb.lit (w : World) (e : TypeId) (fz : Nat × Nat) (cs : Array Value) (l : List UInt8) (n : Nat) (h : cs.toList = bvs l) (hn : l.length = n) (hl : n ≤ 1000000) : Rb (w.alloc (.cells cs e fz)) (w.heap.size + 1) (some ⟨w.heap.size, 0, none⟩) n n l := by
  refine ⟨hn, Nat.le_refl _, by simp only [maxLen]; omega, fun _ => ⟨_, _, rfl, by omega, fun j x hx => ?_⟩⟩
  rw [cell_of_row (w.alloc (.cells cs e fz)) w.heap.size (0 + j) cs e fz (by show (w.heap.push _)[w.heap.size]? = _; simp), Nat.zero_add, ← Array.getElem?_toList, h]
  simp [bvs, hx]

theorem nine : Cm.sum Cm.tab [49, 50, 51, 52, 53, 54, 55, 56, 57] = 3421780262 := by decide +kernel

set_option maxRecDepth 100000 in
/-- the live question -/
theorem alive_c (w : World) : Calls Try.prog 8 #[] w fun e w' => e = .returned (.bool true) ∧ Below w.heap.size w w' := by
  go_enter Try.func8, Try.ntmps8
  go_wp2_with fail
  refine (table_c _).mono ?_
  rintro e w1 ⟨rfl, ht, hb, hsz⟩
  have Ht := Lib.hid ht; clear ht
  have hcv := Lib.run_convert_bytes_const (P := Try.prog) w1 29 5 #[.int .u8 49, .int .u8 50, .int .u8 51, .int .u8 52, .int .u8 53, .int .u8 54, .int .u8 55, .int .u8 56, .int .u8 57] 9 9 Try.underlying29 Try.underlying5
  go_wp2_with fail
  refine (sum_ok _ 256 256 w1.heap.size Cm.tab _ 9 9 _ [49, 50, 51, 52, 53, 54, 55, 56, 57] _ (Ht.out.alloc (Nat.le_refl _) _) rfl (Rb.lit w1 _ _ _ _ 9 rfl rfl (by omega)) (by omega) 3421780262 nine.symm).mono ?_
  rintro e w' ⟨rfl, rfl⟩
  go_wp2_with fail
  refine (sum_err none 0 0 0 [] none 0 0 0 [] _ (Rn.nil _ _) (by omega) (by omega) (Rb.nil _ _) (by omega)).mono ?_
  rintro e w' ⟨rfl, rfl⟩
  go_wp2
  go_ret
  exact ⟨rfl, hb.trans ((Below.refl _ _).alloc (by omega) _)⟩
end Go.Proofs.Ytcmagegcolcalab
