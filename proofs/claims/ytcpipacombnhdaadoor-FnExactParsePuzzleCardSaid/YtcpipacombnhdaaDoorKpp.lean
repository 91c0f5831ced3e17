/- Puzzles read back, plain: what spec and impl make of a text. -/
import Derived.Test.YtcpipacombnhdaaDoorKtx
import Derived.Test.YtcpipacombnhdaaDoorPrd
namespace Go.Proofs.YtcpipacombnhdaaDoor
set_option linter.unusedVariables false
open Go.RowKit

/-- spec: the clue that a word is read as -/
def pB (w : List UInt8) : Option Br := match spc 46 w with
  | [x, y, z] => some (rdW x, rdW y, rdW z)
  | _ => none
def allB (f : List UInt8 → Option Br) : List (List UInt8) → Option (List Br)
  | [] => some []
  | w :: ws => match f w with
    | none => none
    | some b => match allB f ws with
      | none => none
      | some bs => some (b :: bs)
def pI (t : List UInt8) : Option (Int × List Br) := match spc 58 t with
  | [x, y] => if y = [] then some (rdW x, []) else match allB pB (spc 44 y) with
    | none => none
    | some bs => some (rdW x, bs)
  | _ => none
/-- impl: the same by cuts -/
def atN (w : List UInt8) : Option Int := match Lib.atoiAll w with
  | .ok n => some n
  | _ => none
def qB (w : List UInt8) : Option Br := match spc 46 w with
  | [x, y, z] => match atN x with
    | none => none
    | some a => match atN y with
      | none => none
      | some b => match atN z with
        | none => none
        | some c => some (a, b, c)
  | _ => none
def qI (t : List UInt8) : Option (Int × List Br) := match atN (Lib.cut t [58]).1 with
  | none => none
  | some n => if (Lib.cut t [58]).2.1 = [] then some (n, []) else match allB qB (spc 44 (Lib.cut t [58]).2.1) with
    | none => none
    | some bs => some (n, bs)

theorem atN_dec {n : Int} (h0 : 0 ≤ n) (h : n ≤ 1000000) : atN (Lib.decDigits n.toNat) = some n := by
  unfold atN
  rw [atoi_dec (by omega)]
  show some _ = some _
  congr 1; omega
theorem allB_map {f : List UInt8 → Option Br} : ∀ cs : List Br, (∀ b ∈ cs, f (btx b) = some b) → allB f (cs.map btx) = some cs
  | [], _ => rfl
  | b :: cs, h => by
    have ih := allB_map cs fun x hx => h x (List.mem_cons_of_mem _ hx)
    rw [List.map_cons]
    unfold allB
    rw [h b (List.mem_cons_self ..)]
    simp only
    rw [ih]
theorem btx_two (b : Br) : btx b = Lib.decDigits b.1.toNat ++ 46 :: (Lib.decDigits b.2.1.toNat ++ 46 :: Lib.decDigits b.2.2.toNat) := by simp [btx, List.append_assoc]
theorem no46 (n : Nat) : (46 : UInt8) ∉ Lib.decDigits n := dec_not n (.inl (by decide))
theorem btx_spc (b : Br) : spc 46 (btx b) = [Lib.decDigits b.1.toNat, Lib.decDigits b.2.1.toNat, Lib.decDigits b.2.2.toNat] := by
  rw [btx_two, spc_app 46 _ _ (no46 _), spc_app 46 _ _ (no46 _), spc_word 46 _ (no46 _)]
theorem pB_btx {m : Nat} {b : Br} (hm : m ≤ 8) (h : 0 ≤ b.1 ∧ b.1 ≤ 5 ∧ 0 ≤ b.2.1 ∧ b.2.1 ≤ 9 ∧ 0 ≤ b.2.2 ∧ b.2.2 ≤ 256) : pB (btx b) = some b := by
  unfold pB
  rw [btx_spc]
  simp only
  rw [rdW_dec (by omega), rdW_dec (by omega), rdW_dec (by omega)]
  obtain ⟨x, y, z⟩ := b
  simp only at h ⊢
  congr 1
  refine Prod.ext ?_ (Prod.ext ?_ ?_) <;> simp only <;> omega
theorem qB_btx {m : Nat} {b : Br} (hm : m ≤ 8) (h : 0 ≤ b.1 ∧ b.1 ≤ 5 ∧ 0 ≤ b.2.1 ∧ b.2.1 ≤ 9 ∧ 0 ≤ b.2.2 ∧ b.2.2 ≤ 256) : qB (btx b) = some b := by
  unfold qB
  rw [btx_spc]
  simp only
  rw [atN_dec (by omega) (by omega), atN_dec (by omega) (by omega), atN_dec (by omega) (by omega)]
/-- the bytes of bridges' texts -/
theorem btx_mem {b : Br} {c : UInt8} (h : c ∈ btx b) : (48 ≤ c.toNat ∧ c.toNat ≤ 57) ∨ c = 46 ∨ c = 46 := by
  unfold btx at h
  simp only [List.mem_append, List.mem_singleton] at h
  rcases h with ((((h | h) | h) | h) | h)
  · exact .inl (dec_mem _ _ h)
  · exact .inr (.inl h)
  · exact .inl (dec_mem _ _ h)
  · exact .inr (.inr h)
  · exact .inl (dec_mem _ _ h)
theorem no44 (b : Br) : (44 : UInt8) ∉ btx b := fun h => by
  rcases btx_mem h with h | h | h
  · have e : (44 : UInt8).toNat = 44 := rfl
    omega
  · exact absurd h (by decide)
  · exact absurd h (by decide)
theorem noCol (cs : List Br) : (58 : UInt8) ∉ jtx cs := by
  have hb : ∀ b : Br, (58 : UInt8) ∉ btx b := fun b h => by
    rcases btx_mem h with h | h | h
    · have e : (58 : UInt8).toNat = 58 := rfl
      omega
    · exact absurd h (by decide)
    · exact absurd h (by decide)
  have key : ∀ l : List Br, (58 : UInt8) ∉ Lib.joinTail [44] (l.map btx) := by
    intro l
    induction l with
    | nil => simp [Lib.joinTail]
    | cons z l ih =>
      have e : Lib.joinTail [44] ((z :: l).map btx) = 44 :: (btx z ++ Lib.joinTail [44] (l.map btx)) := by simp [Lib.joinTail]
      rw [e]
      simp [hb z, ih]
  cases cs with
  | nil => simp [jtx, Lib.join]
  | cons z zs =>
    unfold jtx
    rw [List.map_cons, Lib.join_cons, List.mem_append]
    exact fun h => h.elim (hb z) (key zs)
theorem btx_ne (b : Br) : btx b ≠ [] := by
  rw [btx_two]; simp
theorem jtx_nil {cs : List Br} : jtx cs = [] ↔ cs = [] := by
  cases cs with
  | nil => simp [jtx, Lib.join]
  | cons z zs =>
    unfold jtx
    rw [List.map_cons, Lib.join_cons]
    simp [btx_ne z]
theorem jtx_split {cs : List Br} (h : cs ≠ []) : spc 44 (jtx cs) = cs.map btx := by
  cases cs with
  | nil => exact absurd rfl h
  | cons z zs =>
    unfold jtx
    rw [List.map_cons]
    refine spc_words 44 _ _ fun w hw => ?_
    rw [← List.map_cons] at hw
    obtain ⟨b, _, rfl⟩ := List.mem_map.1 hw
    exact no44 b
theorem pI_itx {n : Int} {cs : List Br} (h : isPz n cs = true) : pI (itx n cs) = some (n, cs) := by
  obtain ⟨m, rfl, h1, h7, hl, hg⟩ := isPz_got h
  unfold pI itx
  rw [List.append_assoc, List.singleton_append, spc_app 58 _ _ (dec_not _ (.inr (by decide))), spc_word 58 _ (noCol cs)]
  simp only
  rw [rdW_dec (by omega), Int.toNat_natCast]
  by_cases h0 : cs = []
  · rw [if_pos (jtx_nil.2 h0), h0]
  · rw [if_neg (fun e => h0 (jtx_nil.1 e)), jtx_split h0, allB_map cs fun b hb => pB_btx h7 (hg b hb)]
theorem qI_itx {n : Int} {cs : List Br} (h : isPz n cs = true) : qI (itx n cs) = some (n, cs) := by
  obtain ⟨m, rfl, h1, h7, hl, hg⟩ := isPz_got h
  unfold qI itx
  rw [List.append_assoc, List.singleton_append, cut_app 58 _ _ (dec_not _ (.inr (by decide)))]
  simp only
  rw [atN_dec (by omega) (by omega)]
  simp only
  by_cases h0 : cs = []
  · rw [if_pos (jtx_nil.2 h0), h0]
  · rw [if_neg (fun e => h0 (jtx_nil.1 e)), jtx_split h0, allB_map cs fun b hb => qB_btx h7 (hg b hb)]
theorem pB_canon {w : List UInt8} {b : Br} (h : pB w = some b) (hb : 0 ≤ b.1 ∧ b.1 ≤ 5 ∧ 0 ≤ b.2.1 ∧ b.2.1 ≤ 9 ∧ 0 ≤ b.2.2 ∧ b.2.2 ≤ 256) : w = btx b := by
  unfold pB at h
  split at h
  · rename_i x y z e1
    obtain rfl := Option.some.inj h
    simp only at hb
    have j1 := spc_join 46 w
    rw [e1] at j1
    have ca := rdW_canon (w := x) (by omega)
    have cc := rdW_canon (w := y) (by omega)
    have cy := rdW_canon (w := z) (by omega)
    rw [btx_two]
    simp only
    rw [← ca, ← cc, ← cy, ← j1]
    simp [Lib.join_cons, Lib.joinTail]
  · cases h
theorem allB_canon {m : Nat} : ∀ (ws : List (List UInt8)) (cs : List Br), allB pB ws = some cs → Good m cs → ws = cs.map btx
  | [], cs, h, _ => by
    obtain rfl := Option.some.inj h
    rfl
  | w :: ws, cs, h, hg => by
    unfold allB at h
    cases h1 : pB w with
    | none => rw [h1] at h; cases h
    | some b =>
      rw [h1] at h
      simp only at h
      cases h2 : allB pB ws with
      | none => rw [h2] at h; cases h
      | some bs =>
        rw [h2] at h
        obtain rfl := Option.some.inj h
        rw [List.map_cons, ← pB_canon h1 (hg b (List.mem_cons_self ..)), ← allB_canon ws bs h2 (hg.sub fun x hx => List.mem_cons_of_mem _ hx)]
theorem pI_canon {t : List UInt8} {n : Int} {cs : List Br} (h : pI t = some (n, cs)) (ha : isPz n cs = true) : itx n cs = t := by
  obtain ⟨m, rfl, h1, h7, hl, hg⟩ := isPz_got ha
  unfold pI at h
  split at h
  · rename_i x y e
    have j := spc_join 58 t
    rw [e] at j
    split at h
    · rename_i hy
      have h' := Option.some.inj h
      have e1 : rdW x = (m : Int) := congrArg Prod.fst h'
      have e2 : [] = cs := congrArg Prod.snd h'
      have cx := rdW_canon (w := x) (by omega)
      subst hy
      rw [← j, ← e2]
      unfold itx
      rw [show jtx [] = [] from rfl, ← e1, ← cx]
      simp [Lib.join_cons, Lib.joinTail]
    · rename_i hy
      cases hb : allB pB (spc 44 y) with
      | none => rw [hb] at h; cases h
      | some bs =>
        rw [hb] at h
        have h' := Option.some.inj h
        have e1 : rdW x = (m : Int) := congrArg Prod.fst h'
        have e2 : bs = cs := congrArg Prod.snd h'
        subst e2
        have cx := rdW_canon (w := x) (by omega)
        have cw := allB_canon _ _ hb hg
        have jy := spc_join 44 y
        rw [cw] at jy
        rw [← j]
        unfold itx
        rw [show jtx bs = y from jy, ← e1, ← cx]
        simp [Lib.join_cons, Lib.joinTail]
  · cases h
theorem btx_len8 {m : Nat} {b : Br} (hm : m ≤ 8) (h : 0 ≤ b.1 ∧ b.1 ≤ 5 ∧ 0 ≤ b.2.1 ∧ b.2.1 ≤ 9 ∧ 0 ≤ b.2.2 ∧ b.2.2 ≤ 256) : (btx b).length ≤ 8 := by
  have h1 := dec_lone (n := b.1.toNat) (by omega)
  have h2 := dec_lone (n := b.2.1.toNat) (by omega)
  have h3 := dec_len4 (n := b.2.2.toNat) (by omega)
  unfold btx; simp; omega
theorem itx_len {n : Int} {cs : List Br} (h : isPz n cs = true) : (itx n cs).length ≤ 100 := by
  obtain ⟨m, rfl, h1, h7, hl, hg⟩ := isPz_got h
  have key : ∀ l : List Br, (∀ b ∈ l, b ∈ cs) → (Lib.joinTail [44] (l.map btx)).length ≤ 9 * l.length := by
    intro l
    induction l with
    | nil => intro _; simp [Lib.joinTail]
    | cons z l ih =>
      intro hl
      have h1 := ih fun m hm => hl m (List.mem_cons_of_mem _ hm)
      have h2 := btx_len8 h7 (hg z (hl z (List.mem_cons_self ..)))
      simp [Lib.joinTail] at h1 ⊢
      omega
  have hd := dec_lone (n := ((m : Int)).toNat) (by omega)
  unfold itx
  cases cs with
  | nil => rw [show jtx [] = [] from rfl]; simp at hd ⊢; omega
  | cons z zs =>
    have h1 := key zs fun m hm => List.mem_cons_of_mem _ hm
    have h2 := btx_len8 h7 (hg z (List.mem_cons_self ..))
    unfold jtx
    rw [List.map_cons, Lib.join_cons]
    simp at hd hl ⊢
    omega
/-- the isles with a text, if there are any -/
def ansI (t : ByteArray) : Option (Int × List Br) := match pI t.data.toList with
  | some (n, cs) => if t.size ≤ 100 ∧ isPz n cs = true then some (n, cs) else none
  | none => none
theorem ans_of {t : ByteArray} {n : Int} {cs : List Br} (ha : isPz n cs = true) (e : bs (itx n cs) = t) : ansI t = some (n, cs) := by
  subst e
  have := itx_len ha
  unfold ansI
  rw [show (bs (itx n cs)).data.toList = itx n cs by simp [bs], pI_itx ha]
  simp only
  rw [if_pos ⟨by rw [bs_size]; exact this, ha⟩]
theorem ans_in {t : ByteArray} {n : Int} {cs : List Br} (h : ansI t = some (n, cs)) : isPz n cs = true ∧ bs (itx n cs) = t ∧ qI t.data.toList = some (n, cs) := by
  unfold ansI at h
  split at h
  · rename_i n' cs' e
    split at h
    · rename_i hc
      have h' := Option.some.inj h
      obtain rfl : n' = n := congrArg Prod.fst h'
      obtain rfl : cs' = cs := congrArg Prod.snd h'
      have c := pI_canon e hc.2
      refine ⟨hc.2, ?_, ?_⟩
      · rw [c]; rfl
      · rw [← c]; exact qI_itx hc.2
    · cases h
  · cases h
theorem allB_none {f : List UInt8 → Option Br} : ∀ (ws : List (List UInt8)) (k : Nat) (h : k < ws.length), f ws[k] = none → allB f ws = none
  | w :: ws, 0, h, e => by unfold allB; rw [show f w = none from e]
  | w :: ws, k + 1, h, e => by
    have ih := allB_none ws k (by simpa using h) e
    unfold allB
    cases f w with
    | none => rfl
    | some b => simp only; rw [ih]
theorem allB_snoc {f : List UInt8 → Option Br} : ∀ (ws : List (List UInt8)) (w : List UInt8) (cs : List Br) (b : Br), allB f ws = some cs → f w = some b → allB f (ws ++ [w]) = some (cs ++ [b])
  | [], w, cs, b, h, e => by
    obtain rfl := Option.some.inj h
    show allB f [w] = some [b]
    unfold allB; rw [e]; rfl
  | v :: ws, w, cs, b, h, e => by
    unfold allB at h
    cases h1 : f v with
    | none => rw [h1] at h; cases h
    | some c =>
      rw [h1] at h
      simp only at h
      cases h2 : allB f ws with
      | none => rw [h2] at h; cases h
      | some ds =>
        rw [h2] at h
        obtain rfl := Option.some.inj h
        have ih := allB_snoc ws w ds b h2 e
        show allB f (v :: (ws ++ [w])) = _
        unfold allB
        rw [h1]
        simp only
        rw [ih]
        rfl
theorem allB_len {f : List UInt8 → Option Br} : ∀ (ws : List (List UInt8)) (cs : List Br), allB f ws = some cs → cs.length = ws.length
  | [], cs, h => by obtain rfl := Option.some.inj h; rfl
  | v :: ws, cs, h => by
    unfold allB at h
    cases h1 : f v with
    | none => rw [h1] at h; cases h
    | some c =>
      rw [h1] at h
      simp only at h
      cases h2 : allB f ws with
      | none => rw [h2] at h; cases h
      | some ds =>
        rw [h2] at h
        obtain rfl := Option.some.inj h
        have ih := allB_len ws ds h2
        simp [ih]
/-- whether there are isles with the text, and which -/
def pOK (t : ByteArray) : Bool := (ansI t).isSome
def pN (t : ByteArray) : Int := match ansI t with | some (n, _) => n | none => 0
def pL (t : ByteArray) : List Br := match ansI t with | some (_, cs) => cs | none => []
theorem p_none {t : ByteArray} (h : ansI t = none) : pOK t = false ∧ pN t = 0 ∧ pL t = [] := by simp [pOK, pN, pL, h]
theorem p_some {t : ByteArray} {n : Int} {cs : List Br} (h : ansI t = some (n, cs)) : pOK t = true ∧ pN t = n ∧ pL t = cs := by simp [pOK, pN, pL, h]
theorem pL_len (t : ByteArray) : (pL t).length ≤ 6 := by
  unfold pL
  split
  · rename_i n cs e
    obtain ⟨_, _, _, _, h, _⟩ := isPz_got (ans_in e).1
    exact h
  · exact Nat.zero_le _
theorem ans_far {t : ByteArray} (h : 100 < t.size) : ansI t = none := by
  unfold ansI; split
  · rw [if_neg (fun h2 => by have := h2.1; omega)]
  · rfl
theorem ans_two {t : ByteArray} (h : (spc 58 t.data.toList).length ≠ 2) : ansI t = none := by
  unfold ansI
  have : pI t.data.toList = none := by
    unfold pI; split
    · rename_i x y e; rw [e] at h; exact absurd rfl h
    · rfl
  rw [this]
theorem ans_no {t : ByteArray} {x y : List UInt8} (h : spc 58 t.data.toList = [x, y]) (hy : y ≠ []) (hb : allB pB (spc 44 y) = none) : ansI t = none := by
  unfold ansI
  have : pI t.data.toList = none := by
    unfold pI; rw [h]; simp only; rw [if_neg hy, hb]
  rw [this]
theorem ans_got {t : ByteArray} {x y : List UInt8} {cs : List Br} (h : spc 58 t.data.toList = [x, y]) (hs : t.size ≤ 100) (hb : (y = [] ∧ cs = []) ∨ (y ≠ [] ∧ allB pB (spc 44 y) = some cs)) : ansI t = if isPz (rdW x) cs = true then some (rdW x, cs) else none := by
  unfold ansI
  have : pI t.data.toList = some (rdW x, cs) := by
    unfold pI; rw [h]; simp only
    rcases hb with ⟨rfl, rfl⟩ | ⟨hy, hb⟩
    · rw [if_pos rfl]
    · rw [if_neg hy, hb]
  rw [this]
  simp only [hs, true_and]
end Go.Proofs.YtcpipacombnhdaaDoor
