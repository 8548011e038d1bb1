/- Texts laid together, part 7. -/
import Derived.Test.YtbfjhjkllaceaaaGreatDoorGA6

/- Plain words on points that are put and read again: no run in this text. -/
namespace Go.Proofs.YtbfjhjkllaceaaaGreatDoor
open Go.Lib
set_option linter.unusedVariables false

theorem bytesI_length (l : List UInt8) : (bytesI l).length = l.length := by unfold bytesI; simp
theorem by_bytesI (l : List UInt8) (i : Nat) : by' l i = (bytesI l).getD i 0 := by
  unfold by' bytesI
  rw [List.getD_eq_getElem?_getD, List.getD_eq_getElem?_getD, List.getElem?_map]
  cases l[i]? <;> simp
theorem enc_core (l : List UInt8) (n : Nat) (p : Int) (h : pointB p = true) (hl : bytesI l = encodeRuneZ p) (hlen : l.length = n) (hn : 0 < n) (hlead : leadN (by' l 0) = n) (hf : foldP l n = p) : strm l = [(p, true)] := by
  have hne : l ≠ [] := fun e => by rw [e] at hlen; simp at hlen; omega
  have hi := first_is l hne (by omega) (by omega)
  rw [hlead] at hi
  have ok : FirstOk l n := ⟨by rw [hf]; exact h, by rw [hf, ← hl, List.take_of_length_le (by omega)]⟩
  have hb := hi.1.1 ok
  obtain ⟨h1, h2⟩ := hi.2 hb
  rw [strm_step l hne hb, h1, hf, h2, List.drop_of_length_le (by omega), strm_nil]
theorem enc_strm (l : List UInt8) (p : Int) (h : pointB p = true) (hl : bytesI l = encodeRuneZ p) : strm l = [(p, true)] := by
  have hlen := bytesI_length l
  have hp := (pointB_iff p).1 h
  have q0 := by_bytesI l 0
  have q1 := by_bytesI l 1
  have q2 := by_bytesI l 2
  have q3 := by_bytesI l 3
  rcases enc_cases p h with ⟨c, e⟩ | ⟨c1, c2, e⟩ | ⟨c1, c2, e⟩ | ⟨c, e⟩
  · rw [hl, e] at q0 hlen
    simp at q0 hlen
    refine enc_core l 1 p h hl (by omega) (by omega) (by unfold leadN; rw [q0, if_pos c]) ?_
    rw [foldP_1, leadP_1 (by omega), q0]
  · rw [hl, e] at q0 q1 hlen
    simp at q0 q1 hlen
    refine enc_core l 2 p h hl (by omega) (by omega) (by unfold leadN; rw [if_neg (by omega), if_pos (by omega)]) ?_
    rw [foldP_2, leadP_2 (by omega), q0, q1]
    omega
  · rw [hl, e] at q0 q1 q2 hlen
    simp at q0 q1 q2 hlen
    refine enc_core l 3 p h hl (by omega) (by omega) (by unfold leadN; rw [if_neg (by omega), if_neg (by omega), if_pos (by omega)]) ?_
    rw [foldP_3, leadP_3 (by omega), q0, q1, q2]
    omega
  · rw [hl, e] at q0 q1 q2 q3 hlen
    simp at q0 q1 q2 q3 hlen
    refine enc_core l 4 p h hl (by omega) (by omega) (by unfold leadN; rw [if_neg (by omega), if_neg (by omega), if_neg (by omega), if_pos (by omega)]) ?_
    rw [foldP_4, leadP_4 (by omega), q0, q1, q2, q3]
    omega
theorem bytesI_nums (xs : List Int) (h : ∀ x ∈ xs, 0 ≤ x ∧ x < 256) : bytesI (strOfNums xs).data.toList = xs := by
  rw [strOfNums_data]
  exact ((ofNums_inj xs _ h).1 rfl).symm
theorem nums_bytesI (s : ByteArray) : strOfNums (bytesI s.data.toList) = s := by
  have h := strOfNums_data (bytesI s.data.toList)
  have h2 := (ofNums_inj (bytesI s.data.toList) s.data.toList (fun x hx => by
    unfold bytesI at hx
    obtain ⟨c, _, rfl⟩ := List.mem_map.1 hx
    have := c.toNat_lt
    omega)).2 rfl
  rw [h2] at h
  cases s with
  | mk d =>
    generalize strOfNums _ = t at h ⊢
    cases t with
    | mk d2 =>
      congr 1
      exact Array.ext' h
/-- what is put is read as one point -/
theorem put_read (p : Int) (h : pointB p = true) : ptsList (strOfNums (encodeRuneZ p)).data.toList = [p] := by
  have hs := enc_strm _ p h (bytesI_nums _ (encodeRuneZ_byte p))
  have hl : (strOfNums (encodeRuneZ p)).data.toList.length ≤ 4 := by
    have := Lib.encodeRuneZ_length p
    have h2 := strOfNums_size (encodeRuneZ p)
    simp only [Array.length_toList]
    show (strOfNums (encodeRuneZ p)).size ≤ 4
    omega
  unfold ptsList pts
  rw [hs, if_neg (by omega)]
  simp

theorem pts_strm {l : List UInt8} {L : List Int} (h : pts l = some L) : strm l = L.map (fun p => (p, true)) := by
  unfold pts at h
  split at h
  · rename_i ha
    injection h with h
    rw [← h, List.map_map]
    refine (List.map_id _).symm.trans (List.map_congr_left fun x hx => ?_)
    have := List.all_eq_true.1 ha x hx
    cases x with
    | mk a b =>
      simp at this
      simp [this]
  · cases h
theorem strm_join : ∀ (n : Nat) (l : List UInt8) (L : List Int), l.length ≤ n → strm l = L.map (fun p => (p, true)) → bytesI l = L.flatMap encodeRuneZ ∧ ∀ p ∈ L, pointB p = true
  | 0, l, L, hn, h => by
    have : l = [] := List.eq_nil_of_length_eq_zero (by omega)
    subst this
    rw [strm_nil] at h
    have : L = [] := by simpa using h.symm
    subst this
    exact ⟨rfl, by simp⟩
  | n + 1, l, L, hn, h => by
    by_cases h0 : l = []
    · subst h0
      rw [strm_nil] at h
      have : L = [] := by simpa using h.symm
      subst this
      exact ⟨rfl, by simp⟩
    · cases hb : badB l
      · have hd := drop_lt l h0
        rw [strm_step l h0 hb] at h
        cases L with
        | nil => simp at h
        | cons p L =>
          rw [List.map_cons, List.cons.injEq] at h
          obtain ⟨h1, h2⟩ := h
          obtain ⟨i1, i2⟩ := strm_join n _ L (by omega) h2
          have hlead : leadN (by' l 0) ≠ 0 ∧ leadN (by' l 0) ≤ l.length := by
            refine Decidable.byContradiction fun hc => ?_
            have := bad_lead l h0 (by omega)
            rw [hb] at this
            cases this
          have hi := first_is l h0 hlead.1 hlead.2
          obtain ⟨o1, o2⟩ := hi.1.2 hb
          obtain ⟨e1, e2⟩ := hi.2 hb
          have hp : p = foldP l (leadN (by' l 0)) := by
            have h3 := congrArg Prod.fst h1
            exact h3.symm.trans e1
          rw [← hp] at o1 o2
          rw [e2] at i1
          refine ⟨?_, fun q hq => ?_⟩
          · rw [List.flatMap_cons, o2, ← i1]
            unfold bytesI
            rw [← List.map_append, List.take_append_drop]
          · rcases List.mem_cons.1 hq with rfl | hq
            · exact o1
            · exact i2 q hq
      · rw [strm_bad l h0 hb] at h
        cases L with
        | nil => simp at h
        | cons p L => simp at h

/-- the points of a text, put one behind the other, are the text -/
theorem read_put (s : ByteArray) (h : ptsCode s.data.toList = 0) : strOfNums ((ptsList s.data.toList).flatMap encodeRuneZ) = s ∧ ∀ p ∈ ptsList s.data.toList, pointB p = true := by
  unfold ptsCode at h
  split at h
  · cases h
  · rename_i hn
    split at h
    · rename_i hp
      obtain ⟨L, hL⟩ := Option.isSome_iff_exists.1 hp
      obtain ⟨a, b⟩ := strm_join _ _ L (Nat.le_refl _) (pts_strm hL)
      unfold ptsList
      rw [if_neg hn, hL, Option.getD_some, ← a]
      exact ⟨nums_bytesI s, b⟩
    · cases h
theorem fault_none (l : List UInt8) (h : ptsCode l ≠ 0) : ptsList l = [] := by
  unfold ptsCode at h
  unfold ptsList
  split at h
  · rename_i hn
    rw [if_pos hn]
  · rename_i hn
    rw [if_neg hn]
    split at h
    · exact absurd rfl h
    · rename_i hp
      cases hq : pts l
      · rfl
      · rw [hq] at hp
        simp at hp

theorem ascii_chars : ∀ (l : List UInt8), (∀ c ∈ l, c.toNat < 128 ∧ charB (c.toNat : Int) = true) → (strm l).all goodB = true
  | [], _ => by rw [strm_nil]; rfl
  | c :: l, h => by
    obtain ⟨h1, h2⟩ := h c (by simp)
    have hb0 : by' (c :: l) 0 = (c.toNat : Int) := rfl
    have hi := first1 (c :: l) (by simp) (by rw [hb0]; omega)
    have hf : foldP (c :: l) 1 = (c.toNat : Int) := by rw [foldP_1, leadP_1 (by rw [hb0]; omega), hb0]
    have ok : FirstOk (c :: l) 1 := by
      obtain ⟨n1, n2⟩ := num1 c.toNat h1
      exact ⟨by rw [hf]; exact n1, by rw [hf, n2]; rfl⟩
    have hb := hi.1.1 ok
    obtain ⟨e1, e2⟩ := hi.2 hb
    have ih := ascii_chars l (fun x hx => h x (by simp [hx]))
    rw [strm_step _ (by simp) hb, e1, e2, hf]
    simp only [List.drop_succ_cons, List.drop_zero, List.all_cons, ih, goodB, h2, Bool.and_self]
end Go.Proofs.YtbfjhjkllaceaaaGreatDoor

/- Plain words: a name has no fault as a text. -/
namespace Go.Proofs.YtbfjhjkllaceaaaGreatDoor
open Go.Lib
set_option linter.unusedVariables false

theorem name_char (c : Int) (h0 : 0 ≤ c) (h : nameB c = true) : c < 128 ∧ charB c = true := by
  simp [nameB, letterB] at h
  constructor
  · omega
  · have hp : pointB c = true := (pointB_iff c).2 (by omega)
    simp [charB, hp]
    omega
/-- a name has no fault as a text -/
theorem name_text (l : List UInt8) (h : isNameL l = true) : textFault l = 0 := by
  unfold isNameL at h
  simp only [Bool.and_eq_true, decide_eq_true_eq] at h
  obtain ⟨⟨⟨_, h1⟩, _⟩, h2⟩ := h
  unfold textFault charsB
  rw [if_neg (by omega), ascii_chars l (fun c hc => by
    have := List.all_eq_true.1 h2 c hc
    obtain ⟨a, b⟩ := name_char _ (by omega) this
    exact ⟨by omega, b⟩)]
  rfl
end Go.Proofs.YtbfjhjkllaceaaaGreatDoor

/- Plain facts: a frame that was packed is read again, and is the one of its tree: no run in this text. -/
namespace Go.Proofs.YtbfjhjkllaceaaaGreatDoor
set_option linter.unusedVariables false

/-- the form of a number's bytes -/
theorem vputForm : ∀ (m N : Nat), N ≤ m → ∃ (l : List Int) (z : Int), vput N = l ++ [z] ∧ (∀ x ∈ l, 128 ≤ x ∧ x ≤ 255) ∧ 0 ≤ z ∧ z < 128 ∧ (l = [] ∨ z ≠ 0) ∧ vval (vput N) = N := by
  intro m
  induction m with
  | zero =>
    intro N h
    obtain rfl : N = 0 := by omega
    exact ⟨[], 0, by rw [vput_small (by omega)]; rfl, fun x hx => by simp at hx, by omega, by omega, .inl rfl, by rw [vput_small (by omega)]; simp [vval]⟩
  | succ m ih =>
    intro N h
    by_cases hs : N < 128
    · exact ⟨[], N, by rw [vput_small hs]; rfl, fun x hx => by simp at hx, by omega, by omega, .inl rfl, by rw [vput_small hs]; simp [vval]; omega⟩
    · obtain ⟨l, z, h1, h2, h3, h4, h5, h6⟩ := ih (N / 128) (by omega)
      refine ⟨(128 + (N : Int) % 128) :: l, z, by rw [vput_big hs, h1]; rfl, ?_, h3, h4, .inr ?_, ?_⟩
      · intro x hx
        rcases List.mem_cons.1 hx with rfl | hx
        · omega
        · exact h2 x hx
      · rcases h5 with h5 | h5
        · intro hz
          subst h5
          rw [h1] at h6
          simp [vval, hz] at h6
          omega
        · exact h5
      · rw [vput_big hs]
        simp only [vval, h6]
        omega
/-- what is put is read again, whatever stands behind it -/
theorem vreadApp (N : Nat) (D : List Int) (hN : N ≤ 9223372036854775807) : vreadOk (vput N ++ D) = true ∧ vreadN (vput N ++ D) = N ∧ vreadK (vput N ++ D) = (vput N).length := by
  obtain ⟨l, z, h1, h2, h3, h4, h5, h6⟩ := vputForm N N (Nat.le_refl _)
  have h9 := vput_len9 N hN
  have hlen : (vput N).length = l.length + 1 := by rw [h1]; simp
  have hg : ∀ i, i < l.length → (vput N ++ D).getD i 0 = l.getD i 0 := fun i hi => by
    rw [h1, List.append_assoc]
    simp [List.getD_eq_getElem?_getD, List.getElem?_append_left hi]
  have hz : (vput N ++ D).getD l.length 0 = z := by
    rw [h1, List.append_assoc]
    simp [List.getD_eq_getElem?_getD]
  have hl : lead (vput N ++ D) = l.length := by
    refine lead_is _ _ (fun i hi => ?_) (by simp; omega) (by omega) (fun _ _ => by rw [hz]; exact h4)
    rw [hg i hi, List.getD_eq_getElem?_getD, List.getElem?_eq_getElem hi]
    exact (h2 _ (List.getElem_mem hi)).1
  have hok : vreadOk (vput N ++ D) = true := by
    unfold vreadOk
    rw [decide_eq_true_iff, hl, hz]
    refine ⟨by simp; omega, by omega, ?_⟩
    rcases h5 with h5 | h5
    · left; rw [h5]; rfl
    · right; exact h5
  obtain ⟨e1, e2⟩ := read_some hl hok
  refine ⟨hok, ?_, by rw [e2, hlen]⟩
  rw [e1, ← hlen, List.take_left, h6]
/-- a string put is read again, whatever stands behind it -/
theorem sreadApp (t : ByteArray) (D : List Int) (ht : textFault t.data.toList = 0) : sOk (strB t ++ D) = true ∧ stxt (strB t ++ D) = t ∧ ssz (strB t ++ D) = (strB t).length := by
  have h60 : t.size ≤ 60 := goodText ht
  have hl : t.data.toList.length = t.size := by simp
  have hp : strB t = vput t.size ++ bytesI t.data.toList := rfl
  obtain ⟨h1, h2, h3⟩ := vreadApp t.size (bytesI t.data.toList ++ D) (by omega)
  have hbl : (bytesI t.data.toList).length = t.size := by rw [bytesI_length, hl]
  rw [← List.append_assoc, ← hp] at h1 h2 h3
  have hbody : sbody (strB t ++ D) = t := by
    unfold sbody
    rw [h2, h3, hp, List.append_assoc, List.drop_left, Int.toNat_natCast, ← hbl, List.take_left]
    exact nums_bytesI t
  have hok : sOk (strB t ++ D) = true := by
    unfold sOk
    rw [h1, hbody, ht, h2, h3, hp]
    simp [hbl]
    omega
  obtain ⟨e1, e2⟩ := s_some hok
  refine ⟨hok, by rw [e1, hbody], ?_⟩
  rw [e2, h2, h3, hp]
  simp [hbl]

theorem num_app (N : Nat) (D : List Int) (hN : N ≤ 9223372036854775807) : numV ⟨vput N ++ D, false⟩ = N ∧ numR ⟨vput N ++ D, false⟩ = ⟨D, false⟩ := by
  obtain ⟨h1, h2, h3⟩ := vreadApp N D hN
  have hp := vput_pos N
  unfold numV numR
  simp only [h3, h2]
  rw [if_neg (by rintro (h | h); omega; cases h), if_neg (by rintro (h | h); omega; cases h), List.drop_left]
  exact ⟨rfl, rfl⟩
/-- the place of a text that is there -/
theorem has_at {ts : List ByteArray} {t : ByteArray} (h : 0 ≤ hasIx ts t) : ∃ i : Nat, i < ts.length ∧ hasIx ts t = i ∧ ts.getD i ByteArray.empty = t := by
  unfold hasIx at h ⊢
  by_cases hlt : ts.findIdx (fun x => x.toList == t.toList) < ts.length
  · rw [if_pos hlt]
    refine ⟨_, hlt, rfl, ?_⟩
    have := List.findIdx_getElem (xs := ts) (p := fun x => x.toList == t.toList) (w := hlt)
    rw [List.getD_eq_getElem?_getD, List.getElem?_eq_getElem hlt]
    exact same_text.1 this
  · rw [if_neg hlt] at h
    omega
theorem txt_app (ts : List ByteArray) (t : ByteArray) (D : List Int) (h : 0 ≤ hasIx ts t) (hl : ts.length ≤ 100000) : txtV ts ⟨refB ts t ++ D, false⟩ = t ∧ txtR ts ⟨refB ts t ++ D, false⟩ = ⟨D, false⟩ := by
  obtain ⟨i, hi, he, hg⟩ := has_at h
  obtain ⟨h1, h2⟩ := num_app i D (by omega)
  have e : refB ts t = vput i := by unfold refB; rw [he, Int.toNat_natCast]
  unfold txtV txtR
  rw [e, h1, h2, if_pos (by omega), if_pos (by omega), Int.toNat_natCast, hg]
  exact ⟨rfl, rfl⟩
theorem rdS_app (L : List ByteArray) : ∀ (f : Nat) (D : List Int) (ts : List ByteArray), L.length ≤ f → (∀ t ∈ L, textFault t.data.toList = 0) → rdS f L.length ⟨L.flatMap strB ++ D, false⟩ ts = (⟨D, false⟩, ts ++ L) := by
  induction L with
  | nil =>
    intro f D ts _ _
    rw [rdS_stop (by simp)]
    simp
  | cons t L ih =>
    intro f D ts hf hg
    obtain ⟨f, rfl⟩ : ∃ g, f = g + 1 := ⟨f - 1, by simp at hf; omega⟩
    obtain ⟨h1, h2, h3⟩ := sreadApp t (L.flatMap strB ++ D) (hg t (by simp))
    have hp := strB_pos t
    rw [List.flatMap_cons, List.append_assoc]
    rw [rdS_go ⟨by rw [List.length_cons]; omega, rfl⟩ (by simp only [h3]; omega)]
    simp only [h2, h3, Int.toNat_natCast, List.drop_left]
    rw [show ((t :: L).length : Int) - 1 = (L.length : Int) by simp]
    rw [ih f D _ (by simp at hf; omega) (fun x hx => hg x (by simp [hx]))]
    simp
theorem rdA_app (ts : List ByteArray) (hl : ts.length ≤ 100000) (l : List At) : ∀ (f : Nat) (D : List Int) (es : List At), l.length ≤ f → (∀ a ∈ l, 0 ≤ hasIx ts a.name ∧ 0 ≤ hasIx ts a.value) → rdA ts f l.length ⟨l.flatMap (attB ts) ++ D, false⟩ es = (⟨D, false⟩, es ++ l) := by
  induction l with
  | nil =>
    intro f D es _ _
    rw [rdA_stop (by simp)]
    simp
  | cons a l ih =>
    intro f D es hf hg
    obtain ⟨f, rfl⟩ : ∃ g, f = g + 1 := ⟨f - 1, by simp at hf; omega⟩
    obtain ⟨g1, g2⟩ := hg a (by simp)
    obtain ⟨h1, h2⟩ := txt_app ts a.name (refB ts a.value ++ (l.flatMap (attB ts) ++ D)) g1 hl
    obtain ⟨h3, h4⟩ := txt_app ts a.value (l.flatMap (attB ts) ++ D) g2 hl
    have e : (a :: l).flatMap (attB ts) ++ D = refB ts a.name ++ (refB ts a.value ++ (l.flatMap (attB ts) ++ D)) := by rw [List.flatMap_cons]; simp [attB]
    rw [e, rdA_go ⟨by rw [List.length_cons]; omega, rfl⟩, h1, h2, h3, h4]
    rw [show ((a :: l).length : Int) - 1 = (l.length : Int) by simp]
    rw [ih f D _ (by simp at hf; omega) (fun x hx => hg x (by simp [hx]))]
    simp
theorem attsB_ge (ts : List ByteArray) (l : List At) : l.length ≤ (l.flatMap (attB ts)).length := by
  induction l with
  | nil => simp
  | cons a t ih =>
    have h1 := refB_pos ts a.name
    have h2 : (attB ts a).length = (refB ts a.name).length + (refB ts a.value).length := by unfold attB; rw [List.length_append]
    rw [List.flatMap_cons, List.length_append, List.length_cons]
    omega
theorem no_bytes {s : ByteArray} (h : s.toList.isEmpty = true) : s = ByteArray.empty := by
  refine same_text.1 ?_
  rw [List.isEmpty_iff.1 h, ByteArray.toList_eq]
  rfl
/-- an item without a fault, in its normal form -/
theorem good_text {x : It} (h : itemCode x = 0) (he : x.name.toList.isEmpty = true) : x = ⟨x.depth, x.text, ByteArray.empty, ByteArray.empty, []⟩ := by
  have hd := item_depth h
  unfold itemCode at h
  rw [if_neg (by omega), if_pos he] at h
  unfold textCode at h
  split at h
  · omega
  · rename_i hn
    have h1 : x.space.toList.isEmpty = true := by
      cases hh : x.space.toList.isEmpty
      · exact absurd (.inl hh) hn
      · rfl
    refine It.eq rfl rfl (no_bytes h1) (no_bytes he) ?_
    have h2 : ¬ 0 < x.attrs.length := fun hh => hn (.inr (.inl hh))
    exact List.length_eq_zero_iff.1 (by omega)
theorem good_elem {x : It} (h : itemCode x = 0) (he : x.name.toList.isEmpty = false) : x = ⟨x.depth, ByteArray.empty, x.space, x.name, x.attrs⟩ ∧ x.attrs.length ≤ 5 := by
  refine ⟨?_, (goodIt h).few⟩
  have hd := item_depth h
  unfold itemCode at h
  rw [if_neg (by omega), if_neg (by rw [he]; decide)] at h
  unfold elemCode at h
  split at h
  · omega
  · rename_i hn
    have h1 : x.text.toList.isEmpty = true := by
      cases hh : x.text.toList.isEmpty
      · exact absurd hh hn
      · rfl
    exact It.eq rfl (no_bytes h1) rfl rfl rfl
theorem it_app (ts : List ByteArray) (hl : ts.length ≤ 100000) (x : It) (D : List Int) (h : itemCode x = 0) (hh : HasIt ts x) : itV ts ⟨itB ts x ++ D, false⟩ = x ∧ itR ts ⟨itB ts x ++ D, false⟩ = ⟨D, false⟩ := by
  have hd := item_depth h
  have hdn : ((x.depth.toNat : Nat) : Int) = x.depth := by omega
  cases he : x.name.toList.isEmpty
  · obtain ⟨hx, hf⟩ := good_elem h he
    obtain ⟨g1, g2, g3⟩ := hasIt_elem he hh
    have e : itB ts x ++ D = vput x.depth.toNat ++ (vput 1 ++ (refB ts x.space ++ (refB ts x.name ++ (vput x.attrs.length ++ (x.attrs.flatMap (attB ts) ++ D))))) := by
      rw [itB_elem he, show vput 1 = [1] by rw [vput_small (by omega)]; rfl]
      simp
    obtain ⟨n1, n2⟩ := num_app x.depth.toNat (vput 1 ++ (refB ts x.space ++ (refB ts x.name ++ (vput x.attrs.length ++ (x.attrs.flatMap (attB ts) ++ D))))) (by omega)
    obtain ⟨n3, n4⟩ := num_app 1 (refB ts x.space ++ (refB ts x.name ++ (vput x.attrs.length ++ (x.attrs.flatMap (attB ts) ++ D)))) (by omega)
    obtain ⟨t1, t2⟩ := txt_app ts x.space (refB ts x.name ++ (vput x.attrs.length ++ (x.attrs.flatMap (attB ts) ++ D))) g1 hl
    obtain ⟨t3, t4⟩ := txt_app ts x.name (vput x.attrs.length ++ (x.attrs.flatMap (attB ts) ++ D)) g2 hl
    obtain ⟨n5, n6⟩ := num_app x.attrs.length (x.attrs.flatMap (attB ts) ++ D) (by omega)
    have ha := rdA_app ts hl x.attrs ((itB ts x ++ D).length + 1) D [] (by
      have := attsB_ge ts x.attrs
      rw [e]
      simp only [List.length_append]
      omega) (fun a hm => by
      obtain ⟨i, hi, rfl⟩ := List.getElem_of_mem hm
      have := g3 i hi
      rwa [List.getD_eq_getElem?_getD, List.getElem?_eq_getElem hi] at this)
    rw [List.nil_append] at ha
    unfold itV itR
    simp only
    rw [show (⟨itB ts x ++ D, false⟩ : Rd) = ⟨vput x.depth.toNat ++ (vput 1 ++ (refB ts x.space ++ (refB ts x.name ++ (vput x.attrs.length ++ (x.attrs.flatMap (attB ts) ++ D))))), false⟩ by rw [e], n1, n2, n3, n4, t1, t2, t3, t4, n5, n6, ha, hdn]
    rw [if_neg (by omega), if_neg (by omega), if_neg (by simp [he])]
    exact ⟨hx.symm, rfl⟩
  · have hx := good_text h he
    have g1 := hasIt_text he hh
    have e : itB ts x ++ D = vput x.depth.toNat ++ (vput 0 ++ (refB ts x.text ++ D)) := by
      rw [itB_text he, show vput 0 = [0] by rw [vput_small (by omega)]; rfl]
      simp
    obtain ⟨n1, n2⟩ := num_app x.depth.toNat (vput 0 ++ (refB ts x.text ++ D)) (by omega)
    obtain ⟨n3, n4⟩ := num_app 0 (refB ts x.text ++ D) (by omega)
    obtain ⟨t1, t2⟩ := txt_app ts x.text D g1 hl
    unfold itV itR
    simp only
    rw [show (⟨itB ts x ++ D, false⟩ : Rd) = ⟨vput x.depth.toNat ++ (vput 0 ++ (refB ts x.text ++ D)), false⟩ by rw [e], n1, n2, n3, n4, t1, t2, hdn]
    rw [if_pos (by rfl), if_pos (by rfl)]
    exact ⟨hx.symm, rfl⟩
theorem rdI_app (ts : List ByteArray) (hl : ts.length ≤ 100000) (l : List It) : ∀ (f : Nat) (D : List Int) (es : List It), l.length ≤ f → (∀ x ∈ l, itemCode x = 0 ∧ HasIt ts x) → rdI ts f l.length ⟨l.flatMap (itB ts) ++ D, false⟩ es = (⟨D, false⟩, es ++ l) := by
  induction l with
  | nil =>
    intro f D es _ _
    rw [rdI_stop (by simp)]
    simp
  | cons x l ih =>
    intro f D es hf hg
    obtain ⟨f, rfl⟩ : ∃ g, f = g + 1 := ⟨f - 1, by simp at hf; omega⟩
    obtain ⟨g1, g2⟩ := hg x (by simp)
    obtain ⟨h1, h2⟩ := it_app ts hl x (l.flatMap (itB ts) ++ D) g1 g2
    rw [List.flatMap_cons, List.append_assoc, rdI_go ⟨by rw [List.length_cons]; omega, rfl⟩, h1, h2]
    rw [show ((x :: l).length : Int) - 1 = (l.length : Int) by simp]
    rw [ih f D _ (by simp at hf; omega) (fun x hx => hg x (by simp [hx]))]
    simp
theorem strsB_ge (l : List ByteArray) : l.length ≤ (l.flatMap strB).length := by
  induction l with
  | nil => simp
  | cons a t ih =>
    have h1 := strB_pos a
    rw [List.flatMap_cons, List.length_append, List.length_cons]
    omega
theorem itB_pos (ts : List ByteArray) (x : It) : 0 < (itB ts x).length := by
  have := vput_pos x.depth.toNat
  unfold itB
  rw [List.length_append]
  omega
theorem itsB_ge (ts : List ByteArray) (l : List It) : l.length ≤ (l.flatMap (itB ts)).length := by
  induction l with
  | nil => simp
  | cons a t ih =>
    have h1 := itB_pos ts a
    rw [List.flatMap_cons, List.length_append, List.length_cons]
    omega
theorem treeIts {l : List It} (h : treeCode l = 0) : ∀ x ∈ l, itemCode x = 0 := by
  intro x hx
  unfold treeCode at h
  split at h
  · omega
  · cases hf : l.find? (fun x => itemCode x != 0) with
    | none => simpa using find_none_at hf hx
    | some y =>
      rw [hf] at h
      have := List.find?_some hf
      rw [bne_iff_ne] at this
      exact absurd h this
theorem lang_fault : textFault [120, 109, 108, 58, 108, 97, 110, 103] = 0 := by decide +kernel
theorem key_fault {s : ByteArray} (h : isKeyL s = true) : textFault s.data.toList = 0 := by
  unfold isKeyL at h
  rw [Bool.or_eq_true] at h
  rcases h with h | h
  · rw [Bool.and_eq_true] at h
    exact name_text _ h.1
  · rw [beq_iff_eq, ByteArray.toList_eq] at h
    rw [h]
    exact lang_fault
/-- no text of an item without a fault has a fault -/
theorem it_faults {x : It} (h : itemCode x = 0) : ∀ s ∈ itTs x, textFault s.data.toList = 0 := by
  intro s hs
  have hd := item_depth h
  unfold itemCode at h
  rw [if_neg (by omega)] at h
  unfold itTs at hs
  split at h
  · rename_i he
    rw [if_pos he] at hs
    unfold textCode at h
    split at h
    · omega
    · simp only [List.mem_cons, List.not_mem_nil, or_false] at hs
      subst hs
      exact h
  · rename_i he
    rw [if_neg he] at hs
    unfold elemCode at h
    split at h
    · omega
    · split at h
      · omega
      · rename_i h2
        split at h
        · rename_i h3
          obtain ⟨hl, ha⟩ := goodAts h
          simp only [List.mem_cons] at hs
          rcases hs with rfl | rfl | hs
          · exact h3
          · exact name_text _ (by simpa using h2)
          · obtain ⟨a, ha1, ha2⟩ := List.mem_flatMap.1 hs
            have h5 := ha a ha1
            unfold atFault at h5
            split at h5
            · rename_i hk
              unfold atTs at ha2
              simp only [List.mem_cons, List.not_mem_nil, or_false] at ha2
              rcases ha2 with rfl | rfl
              · exact key_fault hk
              · exact h5
            · omega
        · rename_i h3
          exact absurd h h3
theorem tree_faults {l : List It} (h : treeCode l = 0) : ∀ s ∈ strsOf l, textFault s.data.toList = 0 := by
  intro s hs
  rw [mem_strsOf] at hs
  obtain ⟨x, hx, hs⟩ := List.mem_flatMap.1 hs
  exact it_faults (treeIts h x hx) s hs
theorem tree_has {l : List It} : ∀ x ∈ l, HasIt (strsOf l) x := by
  intro x hx
  obtain ⟨i, hi, rfl⟩ := List.getElem_of_mem hx
  have := hasIt_of l i hi
  rwa [List.getD_eq_getElem?_getD, List.getElem?_eq_getElem hi] at this
/-- the frame of a tree is read as it was -/
theorem un_pack {l : List It} (h : treeCode l = 0) : unI (packL l) = (⟨[], false⟩, l) := by
  obtain ⟨h40, hg⟩ := goodTree h
  have hc := goodCount h40 hg
  have e : packL l = vput (strsOf l).length ++ ((strsOf l).flatMap strB ++ (vput l.length ++ (l.flatMap (itB (strsOf l)) ++ []))) := by unfold packL; simp
  obtain ⟨n1, n2⟩ := num_app (strsOf l).length ((strsOf l).flatMap strB ++ (vput l.length ++ (l.flatMap (itB (strsOf l)) ++ []))) (by omega)
  obtain ⟨n3, n4⟩ := num_app l.length (l.flatMap (itB (strsOf l)) ++ []) (by omega)
  have k1 : (strsOf l).length ≤ (packL l).length + 1 := by
    have := strsB_ge (strsOf l)
    rw [e]
    simp only [List.length_append]
    omega
  have k2 : l.length ≤ (packL l).length + 1 := by
    have := itsB_ge (strsOf l) l
    rw [e]
    simp only [List.length_append]
    omega
  have hS : unS (packL l) = (⟨vput l.length ++ (l.flatMap (itB (strsOf l)) ++ []), false⟩, strsOf l) := by
    unfold unS
    rw [show (⟨packL l, false⟩ : Rd) = ⟨vput (strsOf l).length ++ ((strsOf l).flatMap strB ++ (vput l.length ++ (l.flatMap (itB (strsOf l)) ++ []))), false⟩ by rw [e], n1, n2]
    rw [rdS_app (strsOf l) _ _ [] k1 (tree_faults h)]
    simp
  unfold unI
  rw [hS]
  simp only
  rw [n3, n4, rdI_app (strsOf l) (by omega) l _ [] [] k2 (fun x hx => ⟨treeIts h x hx, tree_has x hx⟩)]
  simp
theorem un_ok {l : List It} (h : treeCode l = 0) : unOk (packL l) := by
  unfold unOk
  rw [un_pack h]
  exact ⟨rfl, h, rfl⟩
end Go.Proofs.YtbfjhjkllaceaaaGreatDoor

/- Plain facts on the program's reader of frames: no run in this text. -/
namespace Go.Proofs.YtbfjhjkllaceaaaGreatDoor
set_option linter.unusedVariables false

/-- a number is read: it, and what is ahead then -/
def pR (xs : List Int) : List Int := if vreadOk xs then xs.drop (vreadK xs) else []
/-- a count is read -/
def cN (xs : List Int) : Int := if ((pR xs).length : Int) < vreadN xs then 0 else vreadN xs
def cR (xs : List Int) : List Int := if ((pR xs).length : Int) < vreadN xs then [] else pR xs
/-- a text is read -/
def tR (xs : List Int) : List Int := if sOk xs then xs.drop (ssz xs).toNat else []
/-- a text is read by its place -/
def mN (ts : List ByteArray) (xs : List Int) : ByteArray := if (ts.length : Int) ≤ vreadN xs then ByteArray.empty else ts.getD (vreadN xs).toNat ByteArray.empty
def mR (ts : List ByteArray) (xs : List Int) : List Int := if (ts.length : Int) ≤ vreadN xs then [] else pR xs
/-- attributes are read -/
def aF (ts : List ByteArray) : Nat → List Int → List At → List Int × List At
  | 0, xs, es => (xs, es)
  | n + 1, xs, es => aF ts n (mR ts (mR ts xs)) (es ++ [⟨mN ts xs, mN ts (mR ts xs)⟩])
def aA (ts : List ByteArray) (xs : List Int) : List Int × List At := aF ts (cN xs).toNat (cR xs) []
/-- an item is read -/
def iN (ts : List ByteArray) (xs : List Int) : It :=
  if vreadN (pR xs) = 0 then ⟨vreadN xs, mN ts (pR (pR xs)), ByteArray.empty, ByteArray.empty, []⟩
  else if vreadN (pR xs) = 1 then ⟨vreadN xs, ByteArray.empty, mN ts (pR (pR xs)), mN ts (mR ts (pR (pR xs))), (aA ts (mR ts (mR ts (pR (pR xs))))).2⟩
  else ⟨vreadN xs, ByteArray.empty, ByteArray.empty, ByteArray.empty, []⟩
def iR (ts : List ByteArray) (xs : List Int) : List Int :=
  if vreadN (pR xs) = 0 then mR ts (pR (pR xs))
  else if vreadN (pR xs) = 1 then (aA ts (mR ts (mR ts (pR (pR xs))))).1
  else []
/-- strings are read -/
def sF : Nat → List Int → List ByteArray → List Int × List ByteArray
  | 0, xs, ts => (xs, ts)
  | n + 1, xs, ts => sF n (tR xs) (addT ts (stxt xs))
/-- items are read -/
def iF (ts : List ByteArray) : Nat → List Int → List It → List Int × List It
  | 0, xs, es => (xs, es)
  | n + 1, xs, es => iF ts n (iR ts xs) (es ++ [iN ts xs])
/-- the frame is read -/
def pS (xs : List Int) : List Int × List ByteArray := sF (cN xs).toNat (cR xs) []
def pI (xs : List Int) : List It := (iF (pS xs).2 (cN (pS xs).1).toNat (cR (pS xs).1) []).2

theorem pR_len (xs : List Int) : (pR xs).length ≤ xs.length := by unfold pR; split <;> simp
theorem cR_len (xs : List Int) : (cR xs).length ≤ xs.length := by
  have := pR_len xs
  unfold cR
  split
  · simp
  · exact this
theorem tR_len (xs : List Int) : (tR xs).length ≤ xs.length := by unfold tR; split <;> simp
theorem mR_len (ts : List ByteArray) (xs : List Int) : (mR ts xs).length ≤ xs.length := by
  have := pR_len xs
  unfold mR
  split
  · simp
  · exact this
theorem cN_bd (xs : List Int) : 0 ≤ cN xs ∧ cN xs ≤ xs.length := by
  have h1 := pR_len xs
  have h2 := vreadN_bd xs
  unfold cN
  split <;> omega
theorem aF_len (ts : List ByteArray) : ∀ (n : Nat) (xs : List Int) (es : List At), (aF ts n xs es).1.length ≤ xs.length ∧ (aF ts n xs es).2.length = es.length + n
  | 0, xs, es => ⟨Nat.le_refl _, rfl⟩
  | n + 1, xs, es => by
    have h := aF_len ts n (mR ts (mR ts xs)) (es ++ [⟨mN ts xs, mN ts (mR ts xs)⟩])
    have h1 := mR_len ts (mR ts xs)
    have h2 := mR_len ts xs
    simp only [List.length_append, List.length_cons, List.length_nil] at h
    unfold aF
    omega
theorem aA_len (ts : List ByteArray) (xs : List Int) : (aA ts xs).1.length ≤ xs.length ∧ (aA ts xs).2.length ≤ xs.length := by
  have h := aF_len ts (cN xs).toNat (cR xs) []
  have h1 := cR_len xs
  have h2 := cN_bd xs
  unfold aA
  simp only [List.length_nil] at h
  omega
theorem iR_len (ts : List ByteArray) (xs : List Int) : (iR ts xs).length ≤ xs.length := by
  have h1 := pR_len xs
  have h2 := pR_len (pR xs)
  have h3 := mR_len ts (pR (pR xs))
  have h4 := mR_len ts (mR ts (pR (pR xs)))
  have h5 := (aA_len ts (mR ts (mR ts (pR (pR xs))))).1
  unfold iR
  split
  · omega
  · split
    · omega
    · simp
theorem sF_len : ∀ (n : Nat) (xs : List Int) (ts : List ByteArray), (sF n xs ts).1.length ≤ xs.length ∧ (sF n xs ts).2.length ≤ ts.length + n
  | 0, xs, ts => ⟨Nat.le_refl _, Nat.le_refl _⟩
  | n + 1, xs, ts => by
    have h := sF_len n (tR xs) (addT ts (stxt xs))
    have h1 := tR_len xs
    have h2 := addT_length ts (stxt xs)
    unfold sF
    omega
theorem sF_small : ∀ (n : Nat) (xs : List Int) (ts : List ByteArray), (∀ t ∈ ts, t.size ≤ 60) → ∀ t ∈ (sF n xs ts).2, t.size ≤ 60
  | 0, xs, ts, h => h
  | n + 1, xs, ts, h => by
    unfold sF
    refine sF_small n _ _ (fun t ht => ?_)
    rcases mem_addT.1 ht with h1 | rfl
    · exact h t h1
    · exact stxt_small xs
theorem mN_small {ts : List ByteArray} (h : ∀ t ∈ ts, t.size ≤ 60) (xs : List Int) : (mN ts xs).size ≤ 60 := by
  have h0 := (vreadN_bd xs).1
  unfold mN
  split
  · simp
  · exact h _ (getD_memI (by omega))
theorem aF_small {ts : List ByteArray} (h : ∀ t ∈ ts, t.size ≤ 60) : ∀ (n : Nat) (xs : List Int) (es : List At), (∀ i, (es.getD i dAt).name.size ≤ 60 ∧ (es.getD i dAt).value.size ≤ 60) → ∀ i, ((aF ts n xs es).2.getD i dAt).name.size ≤ 60 ∧ ((aF ts n xs es).2.getD i dAt).value.size ≤ 60
  | 0, xs, es, he => he
  | n + 1, xs, es, he => by
    unfold aF
    exact aF_small h n _ _ (sizes_snoc he (mN_small h _) (mN_small h _))
theorem iN_read {ts : List ByteArray} (h : ∀ t ∈ ts, t.size ≤ 60) (xs : List Int) (hl : xs.length ≤ 3000) : ReadIt (iN ts xs) := by
  have h1 := vreadN_bd xs
  have h3 := mR_len ts (mR ts (pR (pR xs)))
  have h4 := mR_len ts (pR (pR xs))
  have h5 := pR_len (pR xs)
  have h6 := pR_len xs
  have h7 := (aA_len ts (mR ts (mR ts (pR (pR xs))))).2
  have h8 := aF_small h (cN (mR ts (mR ts (pR (pR xs))))).toNat (cR (mR ts (mR ts (pR (pR xs))))) [] (fun i => by simp [dAt])
  have h9 := mN_small h (pR (pR xs))
  have h10 := mN_small h (mR ts (pR (pR xs)))
  unfold iN
  split
  · exact ⟨h1, ⟨h9, by simp, by simp⟩, by simp, fun i => by simp [dAt]⟩
  · split
    · exact ⟨h1, ⟨by simp, h9, h10⟩, by simp only; omega, h8⟩
    · exact ⟨h1, ⟨by simp, by simp, by simp⟩, by simp, fun i => by simp [dAt]⟩
theorem iF_read {ts : List ByteArray} (h : ∀ t ∈ ts, t.size ≤ 60) : ∀ (n : Nat) (xs : List Int) (es : List It), xs.length ≤ 3000 → (∀ i, ReadIt (es.getD i dIt)) → (∀ i, ReadIt ((iF ts n xs es).2.getD i dIt)) ∧ (iF ts n xs es).2.length = es.length + n
  | 0, xs, es, hl, he => ⟨he, rfl⟩
  | n + 1, xs, es, hl, he => by
    have h1 := iR_len ts xs
    have := iF_read h n (iR ts xs) (es ++ [iN ts xs]) (by omega) (reads_snoc he (iN_read h xs hl))
    unfold iF
    refine ⟨this.1, ?_⟩
    have h2 := this.2
    simp only [List.length_append, List.length_cons, List.length_nil] at h2
    omega

theorem p_app (N : Nat) (D : List Int) (hN : N ≤ 9223372036854775807) : vreadN (vput N ++ D) = N ∧ pR (vput N ++ D) = D := by
  obtain ⟨h1, h2, h3⟩ := vreadApp N D hN
  unfold pR
  rw [h1, h3, if_pos rfl, List.drop_left]
  exact ⟨h2, rfl⟩
theorem c_app (N : Nat) (D : List Int) (hN : N ≤ 9223372036854775807) (hD : N ≤ D.length) : cN (vput N ++ D) = N ∧ cR (vput N ++ D) = D := by
  obtain ⟨h1, h2⟩ := p_app N D hN
  unfold cN cR
  rw [h1, h2, if_neg (by omega), if_neg (by omega)]
  exact ⟨rfl, rfl⟩
theorem t_app (t : ByteArray) (D : List Int) (ht : textFault t.data.toList = 0) : stxt (strB t ++ D) = t ∧ tR (strB t ++ D) = D := by
  obtain ⟨h1, h2, h3⟩ := sreadApp t D ht
  unfold tR
  rw [h1, h3, if_pos rfl, Int.toNat_natCast, List.drop_left]
  exact ⟨h2, rfl⟩
theorem m_app (ts : List ByteArray) (t : ByteArray) (D : List Int) (h : 0 ≤ hasIx ts t) (hl : ts.length ≤ 100000) : mN ts (refB ts t ++ D) = t ∧ mR ts (refB ts t ++ D) = D := by
  obtain ⟨i, hi, he, hg⟩ := has_at h
  obtain ⟨h1, h2⟩ := p_app i D (by omega)
  have e : refB ts t = vput i := by unfold refB; rw [he, Int.toNat_natCast]
  unfold mN mR
  rw [e, h1, h2, if_neg (by omega), if_neg (by omega), Int.toNat_natCast, hg]
  exact ⟨rfl, rfl⟩
theorem aF_app (ts : List ByteArray) (hl : ts.length ≤ 100000) (l : List At) : ∀ (D : List Int) (es : List At), (∀ a ∈ l, 0 ≤ hasIx ts a.name ∧ 0 ≤ hasIx ts a.value) → aF ts l.length (l.flatMap (attB ts) ++ D) es = (D, es ++ l) := by
  induction l with
  | nil =>
    intro D es _
    simp [aF]
  | cons a l ih =>
    intro D es hg
    obtain ⟨g1, g2⟩ := hg a (by simp)
    obtain ⟨h1, h2⟩ := m_app ts a.name (refB ts a.value ++ (l.flatMap (attB ts) ++ D)) g1 hl
    obtain ⟨h3, h4⟩ := m_app ts a.value (l.flatMap (attB ts) ++ D) g2 hl
    have e : (a :: l).flatMap (attB ts) ++ D = refB ts a.name ++ (refB ts a.value ++ (l.flatMap (attB ts) ++ D)) := by rw [List.flatMap_cons]; simp [attB]
    rw [e, List.length_cons]
    unfold aF
    rw [h1, h2, h3, h4, ih D _ (fun x hx => hg x (by simp [hx]))]
    simp
theorem i_app (ts : List ByteArray) (hl : ts.length ≤ 100000) (x : It) (D : List Int) (h : itemCode x = 0) (hh : HasIt ts x) : iN ts (itB ts x ++ D) = x ∧ iR ts (itB ts x ++ D) = D := by
  have hd := item_depth h
  have hdn : ((x.depth.toNat : Nat) : Int) = x.depth := by omega
  cases he : x.name.toList.isEmpty
  · obtain ⟨hx, hf⟩ := good_elem h he
    obtain ⟨g1, g2, g3⟩ := hasIt_elem he hh
    have e : itB ts x ++ D = vput x.depth.toNat ++ (vput 1 ++ (refB ts x.space ++ (refB ts x.name ++ (vput x.attrs.length ++ (x.attrs.flatMap (attB ts) ++ D))))) := by
      rw [itB_elem he, show vput 1 = [1] by rw [vput_small (by omega)]; rfl]
      simp
    obtain ⟨n1, n2⟩ := p_app x.depth.toNat (vput 1 ++ (refB ts x.space ++ (refB ts x.name ++ (vput x.attrs.length ++ (x.attrs.flatMap (attB ts) ++ D))))) (by omega)
    obtain ⟨n3, n4⟩ := p_app 1 (refB ts x.space ++ (refB ts x.name ++ (vput x.attrs.length ++ (x.attrs.flatMap (attB ts) ++ D)))) (by omega)
    obtain ⟨t1, t2⟩ := m_app ts x.space (refB ts x.name ++ (vput x.attrs.length ++ (x.attrs.flatMap (attB ts) ++ D))) g1 hl
    obtain ⟨t3, t4⟩ := m_app ts x.name (vput x.attrs.length ++ (x.attrs.flatMap (attB ts) ++ D)) g2 hl
    obtain ⟨n5, n6⟩ := c_app x.attrs.length (x.attrs.flatMap (attB ts) ++ D) (by omega) (by have := attsB_ge ts x.attrs; rw [List.length_append]; omega)
    have ha := aF_app ts hl x.attrs D [] (fun a hm => by
      obtain ⟨i, hi, rfl⟩ := List.getElem_of_mem hm
      have := g3 i hi
      rwa [List.getD_eq_getElem?_getD, List.getElem?_eq_getElem hi] at this)
    rw [List.nil_append] at ha
    unfold iN iR aA
    rw [e, n1, n2, n3, n4, t1, t2, t3, t4, n5, n6, Int.toNat_natCast, ha, hdn]
    rw [if_neg (by omega), if_pos (by rfl), if_neg (by omega), if_pos (by rfl)]
    exact ⟨hx.symm, rfl⟩
  · have hx := good_text h he
    have g1 := hasIt_text he hh
    have e : itB ts x ++ D = vput x.depth.toNat ++ (vput 0 ++ (refB ts x.text ++ D)) := by
      rw [itB_text he, show vput 0 = [0] by rw [vput_small (by omega)]; rfl]
      simp
    obtain ⟨n1, n2⟩ := p_app x.depth.toNat (vput 0 ++ (refB ts x.text ++ D)) (by omega)
    obtain ⟨n3, n4⟩ := p_app 0 (refB ts x.text ++ D) (by omega)
    obtain ⟨t1, t2⟩ := m_app ts x.text D g1 hl
    unfold iN iR
    rw [e, n1, n2, n3, n4, t1, t2, hdn]
    rw [if_pos (by rfl), if_pos (by rfl)]
    exact ⟨hx.symm, rfl⟩
theorem iF_app (ts : List ByteArray) (hl : ts.length ≤ 100000) (l : List It) : ∀ (D : List Int) (es : List It), (∀ x ∈ l, itemCode x = 0 ∧ HasIt ts x) → iF ts l.length (l.flatMap (itB ts) ++ D) es = (D, es ++ l) := by
  induction l with
  | nil =>
    intro D es _
    simp [iF]
  | cons x l ih =>
    intro D es hg
    obtain ⟨g1, g2⟩ := hg x (by simp)
    obtain ⟨h1, h2⟩ := i_app ts hl x (l.flatMap (itB ts) ++ D) g1 g2
    rw [List.flatMap_cons, List.append_assoc, List.length_cons]
    unfold iF
    rw [h1, h2, ih D _ (fun x hx => hg x (by simp [hx]))]
    simp
theorem addT_new {ts : List ByteArray} {t : ByteArray} (h : t ∉ ts) : addT ts t = ts ++ [t] := hasIx_neg (fun hh => h (has_iff.1 hh))
theorem sF_app (L : List ByteArray) : ∀ (D : List Int) (ts : List ByteArray), (∀ t ∈ L, textFault t.data.toList = 0) → (ts ++ L).Nodup → sF L.length (L.flatMap strB ++ D) ts = (D, ts ++ L) := by
  induction L with
  | nil =>
    intro D ts _ _
    simp [sF]
  | cons t L ih =>
    intro D ts hg hn
    obtain ⟨h1, h2⟩ := t_app t (L.flatMap strB ++ D) (hg t (by simp))
    have hnt : t ∉ ts := by
      intro hm
      rw [List.nodup_append] at hn
      exact hn.2.2 t hm t (by simp) rfl
    rw [List.flatMap_cons, List.append_assoc, List.length_cons]
    unfold sF
    rw [h1, h2, addT_new hnt, ih D _ (fun x hx => hg x (by simp [hx])) (by rw [List.append_assoc]; exact hn)]
    simp
theorem addT_nodup {ts : List ByteArray} (t : ByteArray) (h : ts.Nodup) : (addT ts t).Nodup := by
  by_cases hm : t ∈ ts
  · rw [hasIx_pos (has_iff.2 hm)]
    exact h
  · rw [addT_new hm, List.nodup_append]
    refine ⟨h, by simp, ?_⟩
    rintro a ha b hb rfl
    simp only [List.mem_cons, List.not_mem_nil, or_false] at hb
    subst hb
    exact hm ha
theorem strsAts_nodup (l : List At) : ∀ o : List ByteArray, o.Nodup → (strsAts o l).Nodup := by
  induction l with
  | nil => intro o h; exact h
  | cons a l ih =>
    intro o h
    have := ih _ (addT_nodup a.value (addT_nodup a.name h))
    unfold strsAts at this ⊢
    rw [List.foldl_cons]
    exact this
theorem strsIt_nodup (x : It) {o : List ByteArray} (h : o.Nodup) : (strsIt o x).Nodup := by
  unfold strsIt
  split
  · exact addT_nodup _ h
  · exact strsAts_nodup _ _ (addT_nodup _ (addT_nodup _ h))
theorem strsOf_nodup (l : List It) : (strsOf l).Nodup := by
  have key : ∀ (l : List It) (o : List ByteArray), o.Nodup → (l.foldl strsIt o).Nodup := by
    intro l
    induction l with
    | nil => intro o h; exact h
    | cons x l ih => intro o h; rw [List.foldl_cons]; exact ih _ (strsIt_nodup x h)
  exact key l [] List.nodup_nil
/-- the frame of a tree is read as it was -/
theorem p_pack {l : List It} (h : treeCode l = 0) : pI (packL l) = l := by
  obtain ⟨h40, hg⟩ := goodTree h
  have hc := goodCount h40 hg
  have e : packL l = vput (strsOf l).length ++ ((strsOf l).flatMap strB ++ (vput l.length ++ (l.flatMap (itB (strsOf l)) ++ []))) := by unfold packL; simp
  obtain ⟨n1, n2⟩ := c_app (strsOf l).length ((strsOf l).flatMap strB ++ (vput l.length ++ (l.flatMap (itB (strsOf l)) ++ []))) (by omega) (by have := strsB_ge (strsOf l); rw [List.length_append]; omega)
  obtain ⟨n3, n4⟩ := c_app l.length (l.flatMap (itB (strsOf l)) ++ []) (by omega) (by have := itsB_ge (strsOf l) l; rw [List.length_append]; omega)
  have hS : pS (packL l) = (vput l.length ++ (l.flatMap (itB (strsOf l)) ++ []), strsOf l) := by
    unfold pS
    rw [e, n1, n2, Int.toNat_natCast, sF_app (strsOf l) _ [] (tree_faults h) (by rw [List.nil_append]; exact strsOf_nodup l)]
    simp
  unfold pI
  rw [hS]
  simp only
  rw [n3, n4, Int.toNat_natCast, iF_app (strsOf l) (by omega) l [] [] (fun x hx => ⟨treeIts h x hx, tree_has x hx⟩)]
  simp
/-- what the two readers tell is the same -/
theorem p_un {xs : List Int} (h : unOk xs) : pI xs = (unI xs).2 := by
  have h1 := p_pack h.2.1
  rwa [h.2.2] at h1
theorem p_ok {xs : List Int} : unOk xs ↔ treeCode (pI xs) = 0 ∧ packL (pI xs) = xs := by
  constructor
  · intro h
    rw [p_un h]
    exact h.2
  · rintro ⟨h1, h2⟩
    have := un_ok h1
    rwa [h2] at this
end Go.Proofs.YtbfjhjkllaceaaaGreatDoor
