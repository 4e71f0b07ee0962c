/-
  Plain mathematics of layer 4 (field): words; records as bytes and back.
-/
import Derived.Test.YtihfejjkkgnneaaFm
namespace Go.Proofs.Ytihfejjkkgnneaa.Fm
open Vm

/-- White space. -/
def blank (c : UInt8) : Bool := c == 32 || c == 9 || c == 10 || c == 13
/-- Words, 'cur' being the one that is under way. -/
def wordsGo : List UInt8 → List UInt8 → List (List UInt8)
  | cur, [] => if cur = [] then [] else [cur]
  | cur, c :: r => if blank c = true then (if cur = [] then wordsGo [] r else cur :: wordsGo [] r) else wordsGo (cur ++ [c]) r
theorem wg_nil (cur : List UInt8) : wordsGo cur [] = if cur = [] then [] else [cur] := by rw [wordsGo]
theorem wg_cons (cur : List UInt8) (c : UInt8) (r : List UInt8) : wordsGo cur (c :: r) = if blank c = true then (if cur = [] then wordsGo [] r else cur :: wordsGo [] r) else wordsGo (cur ++ [c]) r := by rw [wordsGo]
def words (s : List UInt8) : List (List UInt8) := wordsGo [] s
def Word (w : List UInt8) : Prop := w ≠ [] ∧ ∀ c ∈ w, blank c = false
theorem wordsGo_mem : ∀ (s cur : List UInt8), (∀ c ∈ cur, blank c = false) → ∀ w ∈ wordsGo cur s, Word w
  | [], cur, hc, w, hw => by
    unfold wordsGo at hw
    split at hw
    · cases hw
    · rename_i h
      rw [List.mem_singleton] at hw
      subst hw
      exact ⟨h, hc⟩
  | c :: r, cur, hc, w, hw => by
    unfold wordsGo at hw
    split at hw
    · split at hw
      · exact wordsGo_mem r [] (fun _ h => by cases h) w hw
      · rename_i h
        rcases List.mem_cons.1 hw with rfl | hw
        · exact ⟨h, hc⟩
        · exact wordsGo_mem r [] (fun _ h => by cases h) w hw
    · rename_i h
      refine wordsGo_mem r (cur ++ [c]) (fun x hx => ?_) w hw
      rcases List.mem_append.1 hx with hx | hx
      · exact hc x hx
      · rw [List.mem_singleton] at hx
        subst hx
        simpa using h
theorem words_mem (s : List UInt8) : ∀ w ∈ words s, Word w := wordsGo_mem s [] (fun _ h => by cases h)
theorem wordsGo_app (b : UInt8) (hb : blank b = true) : ∀ (s cur t : List UInt8), wordsGo cur (s ++ b :: t) = wordsGo cur s ++ wordsGo [] t
  | [], cur, t => by
    rw [List.nil_append, wg_cons, if_pos hb, wg_nil]
    split
    · rfl
    · rfl
  | c :: r, cur, t => by
    rw [List.cons_append, wg_cons, wg_cons]
    split
    · split
      · exact wordsGo_app b hb r [] t
      · rw [wordsGo_app b hb r [] t]; rfl
    · exact wordsGo_app b hb r (cur ++ [c]) t
theorem words_app (b : UInt8) (hb : blank b = true) (s t : List UInt8) : words (s ++ b :: t) = words s ++ words t := wordsGo_app b hb s [] t
theorem wordsGo_word : ∀ (s cur : List UInt8), (∀ c ∈ s, blank c = false) → cur ++ s ≠ [] → wordsGo cur s = [cur ++ s]
  | [], cur, _, hne => by
    rw [List.append_nil] at hne ⊢
    rw [wg_nil, if_neg hne]
  | c :: r, cur, h, _ => by
    rw [wg_cons, if_neg (by rw [h c (List.mem_cons_self ..)]; decide), wordsGo_word r (cur ++ [c]) (fun x hx => h x (List.mem_cons_of_mem _ hx)) (by simp)]
    simp
theorem words_word {w : List UInt8} (h : Word w) : words w = [w] := wordsGo_word w [] h.2 (by simpa using h.1)
/-- Words with a blank behind each. -/
def spaced : List (List UInt8) → List UInt8
  | [] => []
  | w :: r => w ++ 32 :: spaced r
theorem words_spaced : ∀ l : List (List UInt8), (∀ w ∈ l, Word w) → words (spaced l) = l
  | [], _ => by simp [words, spaced, wordsGo]
  | w :: r, h => by
    rw [spaced, words_app 32 (by decide), words_word (h w (List.mem_cons_self ..)), words_spaced r (fun x hx => h x (List.mem_cons_of_mem _ hx))]
    rfl
theorem spaced_app (l r : List (List UInt8)) : spaced (l ++ r) = spaced l ++ spaced r := by
  induction l with
  | nil => rfl
  | cons w l ih => simp [spaced, ih]

/-- A frame, a record, records. -/
def encF (s : List UInt8) : List UInt8 := vb s.length ++ s
def encFs : List (List UInt8) → List UInt8
  | [] => []
  | s :: r => encF s ++ encFs r
def encR (r : List (List UInt8)) : List UInt8 := vb r.length ++ encFs r
def encRs : List (List (List UInt8)) → List UInt8
  | [] => []
  | r :: l => encR r ++ encRs l
def enc (l : List (List (List UInt8))) : List UInt8 := vb l.length ++ encRs l
def May (r : List (List UInt8)) : Prop := r.length ≤ 50 ∧ ∀ s ∈ r, s.length ≤ 1000
/-- A frame taken: the text and the rest, or the error. -/
def takeF (b : List UInt8) : Except Nat (List UInt8 × List UInt8) :=
  if (tk b).2.2 = 0 then
    if 1000 < (tk b).1 then .error 5
    else if (b.drop (tk b).2.1).length < (tk b).1 then .error 2
    else .ok ((b.drop (tk b).2.1).take (tk b).1, (b.drop (tk b).2.1).drop (tk b).1)
  else .error (tk b).2.2
def decFs : Nat → List UInt8 → Except Nat (List (List UInt8) × List UInt8)
  | 0, b => .ok ([], b)
  | k + 1, b =>
    match takeF b with
    | .error x => .error x
    | .ok (s, b') => match decFs k b' with | .error x => .error x | .ok (r, b'') => .ok (s :: r, b'')
def decR (b : List UInt8) : Except Nat (List (List UInt8) × List UInt8) :=
  if (tk b).2.2 = 0 then (if 50 < (tk b).1 then .error 5 else decFs (tk b).1 (b.drop (tk b).2.1)) else .error (tk b).2.2
def decRs : Nat → List UInt8 → Except Nat (List (List (List UInt8)) × List UInt8)
  | 0, b => .ok ([], b)
  | k + 1, b =>
    match decR b with
    | .error x => .error x
    | .ok (r, b') => match decRs k b' with | .error x => .error x | .ok (l, b'') => .ok (r :: l, b'')
def dec (b : List UInt8) : Except Nat (List (List (List UInt8))) :=
  if (tk b).2.2 = 0 then
    if 5000 < (tk b).1 then .error 5
    else match decRs (tk b).1 (b.drop (tk b).2.1) with
      | .error x => .error x
      | .ok (l, b') => if b' = [] then .ok l else .error 3
  else .error (tk b).2.2

theorem takeF_enc (s t : List UInt8) (h : s.length ≤ 1000) : takeF (encF s ++ t) = .ok (s, t) := by
  have e : encF s ++ t = vb s.length ++ (s ++ t) := by unfold encF; rw [List.append_assoc]
  have htk := tk_back s.length (s ++ t) (by omega)
  unfold takeF
  rw [e, htk]
  dsimp only
  rw [if_pos rfl, if_neg (by omega), List.drop_left, if_neg (by simp), List.take_left, List.drop_left]
theorem decFs_enc : ∀ (r : List (List UInt8)) (t : List UInt8), (∀ s ∈ r, s.length ≤ 1000) → decFs r.length (encFs r ++ t) = .ok (r, t)
  | [], t, _ => rfl
  | s :: r, t, h => by
    rw [List.length_cons, decFs, encFs, List.append_assoc, takeF_enc s _ (h s (List.mem_cons_self ..))]
    dsimp only
    rw [decFs_enc r t (fun x hx => h x (List.mem_cons_of_mem _ hx))]
theorem decR_enc (r : List (List UInt8)) (t : List UInt8) (h : May r) : decR (encR r ++ t) = .ok (r, t) := by
  have e : encR r ++ t = vb r.length ++ (encFs r ++ t) := by unfold encR; rw [List.append_assoc]
  have h1 := h.1
  have htk := tk_back r.length (encFs r ++ t) (by omega)
  unfold decR
  rw [e, htk]
  dsimp only
  rw [if_pos rfl, if_neg (by omega), List.drop_left, decFs_enc r t h.2]
theorem decRs_enc : ∀ (l : List (List (List UInt8))) (t : List UInt8), (∀ r ∈ l, May r) → decRs l.length (encRs l ++ t) = .ok (l, t)
  | [], t, _ => rfl
  | r :: l, t, h => by
    rw [List.length_cons, decRs, encRs, List.append_assoc, decR_enc r _ (h r (List.mem_cons_self ..))]
    dsimp only
    rw [decRs_enc l t (fun x hx => h x (List.mem_cons_of_mem _ hx))]
theorem dec_enc (l : List (List (List UInt8))) (h : ∀ r ∈ l, May r) (hl : l.length ≤ 5000) : dec (enc l) = .ok l := by
  have htk := tk_back l.length (encRs l) (by omega)
  have hd := decRs_enc l [] h
  rw [List.append_nil] at hd
  unfold dec enc
  rw [htk]
  dsimp only
  rw [if_pos rfl, if_neg (by omega), List.drop_left, hd]
  simp

theorem takeF_only {b s t : List UInt8} (h : takeF b = .ok (s, t)) : b = encF s ++ t ∧ s.length ≤ 1000 := by
  unfold takeF at h
  split at h
  · rename_i h0
    obtain ⟨_, h1, _⟩ := tk_only b h0
    split at h
    · cases h
    · rename_i h2
      split at h
      · cases h
      · rename_i h3
        injection h with h
        obtain ⟨rfl, rfl⟩ := Prod.mk.inj h
        have hl : ((b.drop (tk b).2.1).take (tk b).1).length = (tk b).1 := by rw [List.length_take]; omega
        refine ⟨?_, by rw [hl]; omega⟩
        unfold encF
        rw [hl, List.append_assoc, List.take_append_drop]
        exact h1
  · cases h
theorem decFs_only : ∀ (k : Nat) (b : List UInt8) (r : List (List UInt8)) (t : List UInt8), decFs k b = .ok (r, t) → b = encFs r ++ t ∧ r.length = k ∧ ∀ s ∈ r, s.length ≤ 1000
  | 0, b, r, t, h => by
    unfold decFs at h
    injection h with h
    obtain ⟨rfl, rfl⟩ := Prod.mk.inj h
    exact ⟨rfl, rfl, fun _ h => by cases h⟩
  | k + 1, b, r, t, h => by
    unfold decFs at h
    split at h
    · cases h
    · rename_i s b' hf
      split at h
      · cases h
      · rename_i r' b'' hd
        injection h with h
        obtain ⟨rfl, rfl⟩ := Prod.mk.inj h
        obtain ⟨h1, h2⟩ := takeF_only hf
        obtain ⟨h3, h4, h5⟩ := decFs_only k b' r' _ hd
        refine ⟨by rw [h1, h3, encFs, List.append_assoc], by simp [h4], fun x hx => ?_⟩
        rcases List.mem_cons.1 hx with rfl | hx
        · exact h2
        · exact h5 x hx
theorem decR_only {b : List UInt8} {r : List (List UInt8)} {t : List UInt8} (h : decR b = .ok (r, t)) : b = encR r ++ t ∧ May r := by
  unfold decR at h
  split at h
  · rename_i h0
    obtain ⟨_, h1, _⟩ := tk_only b h0
    split at h
    · cases h
    · rename_i h2
      obtain ⟨h3, h4, h5⟩ := decFs_only _ _ _ _ h
      refine ⟨?_, by omega, h5⟩
      unfold encR
      rw [h4, List.append_assoc, ← h3]
      exact h1
  · cases h
theorem decRs_only : ∀ (k : Nat) (b : List UInt8) (l : List (List (List UInt8))) (t : List UInt8), decRs k b = .ok (l, t) → b = encRs l ++ t ∧ l.length = k ∧ ∀ r ∈ l, May r
  | 0, b, l, t, h => by
    unfold decRs at h
    injection h with h
    obtain ⟨rfl, rfl⟩ := Prod.mk.inj h
    exact ⟨rfl, rfl, fun _ h => by cases h⟩
  | k + 1, b, l, t, h => by
    unfold decRs at h
    split at h
    · cases h
    · rename_i r b' hf
      split at h
      · cases h
      · rename_i l' b'' hd
        injection h with h
        obtain ⟨rfl, rfl⟩ := Prod.mk.inj h
        obtain ⟨h1, h2⟩ := decR_only hf
        obtain ⟨h3, h4, h5⟩ := decRs_only k b' l' _ hd
        refine ⟨by rw [h1, h3, encRs, List.append_assoc], by simp [h4], fun x hx => ?_⟩
        rcases List.mem_cons.1 hx with rfl | hx
        · exact h2
        · exact h5 x hx
theorem enc_dec {b : List UInt8} {l : List (List (List UInt8))} (h : dec b = .ok l) : enc l = b ∧ (∀ r ∈ l, May r) ∧ l.length ≤ 5000 := by
  unfold dec at h
  split at h
  · rename_i h0
    obtain ⟨_, h1, _⟩ := tk_only b h0
    split at h
    · cases h
    · rename_i h2
      split at h
      · cases h
      · rename_i l' b' hd
        split at h
        · rename_i hb
          injection h with h
          subst h hb
          obtain ⟨h3, h4, h5⟩ := decRs_only _ _ _ _ hd
          refine ⟨?_, h5, by omega⟩
          unfold enc
          rw [List.append_nil] at h3
          rw [h4, ← h3]
          exact h1.symm
        · cases h
  · cases h
end Go.Proofs.Ytihfejjkkgnneaa.Fm
