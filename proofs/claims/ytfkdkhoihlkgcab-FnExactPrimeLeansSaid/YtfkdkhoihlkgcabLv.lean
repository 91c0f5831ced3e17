/- spec.cnAll; LeansUpTo, PrimeLeans, spec's side. -/
import Derived.Test.YtfkdkhoihlkgcabLu
import Derived.Deep.AppendLies
import Derived.Deep.RegionLaw
import Derived.Deep.QuietTactic
namespace Go.Proofs.Ytfkdkhoihlkgcab
set_option linter.unusedVariables false
open Go.RowKit

theorem gcd_step (x y : Nat) : Nat.gcd y (x % y) = Nat.gcd x y := by
  rw [Nat.gcd_comm x y, Nat.gcd_rec y x, Nat.gcd_comm]
theorem lnF_in {p : Int} (hp : 1 ≤ p ∧ p ≤ 200) : ∀ (n : Nat) (a : Int), 1 ≤ a → ∀ s ∈ lnF p n a, 1 ≤ s.1 ∧ s.1 ≤ s.2 ∧ s.2 ≤ p
  | 0, _, _, s, h => by cases h
  | n + 1, a, ha, s, h => by
    cases e : lnB p a
    · rw [lnF_no e] at h
      exact lnF_in hp n (a + 1) (by omega) s h
    · rw [lnF_yes e] at h
      rcases List.mem_cons.1 h with rfl | h
      · simp only [lnB, Bool.and_eq_true, decide_eq_true_eq] at e
        exact ⟨ha, e.1, hgt_le hp (by omega)⟩
      · exact lnF_in hp n (a + 1) (by omega) s h
theorem lns_in {p : Int} (hp : 1 ≤ p ∧ p ≤ 200) {s : Int × Int} (h : s ∈ lns p) : 1 ≤ s.1 ∧ s.1 ≤ s.2 ∧ s.2 ≤ p := lnF_in hp 200 1 (by omega) s h
theorem Lst.kept {w w' : World} {B : Nat} {v : Value} {zss : List (List Int)} {us : List Value} (h : Lst w B v zss us) {row : Option Nat} (hg : w.grownBy w' row) (hr : ∀ k, row = some k → ¬ (B ≤ k)) : Lst w' B v zss us := by
  refine ⟨World.ownsRow.kept h.1 hg ?_, fun j hj => (h.2.1 j hj).kept hg ?_, h.2.2⟩
  · cases e : v.ownBlock with
    | none => exact .inl rfl
    | some k => exact .inr fun e2 => hr k e2.symm (World.ownsRow.lt h.1 k e).1
  · cases e : (gu us j).ownBlock with
    | none => exact .inl rfl
    | some k => exact .inr fun e2 => hr k e2.symm (h.blk hj e).1
theorem Lst.keptR {w w' : World} {B : Nat} {v : Value} {zss : List (List Int)} {us : List Value} (h : Lst w B v zss us) {row : Option Nat} (hg : w.grownBy w' row) (hv : ∀ k, v.ownBlock = some k → some k ≠ row) (hu : ∀ j, j < zss.length → ∀ k, (gu us j).ownBlock = some k → some k ≠ row) : Lst w' B v zss us := by
  refine ⟨World.ownsRow.kept h.1 hg ?_, fun j hj => (h.2.1 j hj).kept hg ?_, h.2.2⟩
  · cases e : v.ownBlock with
    | none => exact .inl rfl
    | some k => exact .inr (hv k e)
  · cases e : (gu us j).ownBlock with
    | none => exact .inl rfl
    | some k => exact .inr (hu j hj k e)
theorem Lst.drewL {w : World} {B : Nat} {v : Value} {zss : List (List Int)} {us : List Value} (h : Lst w B v zss us) : Lst w.drew B v zss us := h.below (Below.refl _ _).drew
set_option maxRecDepth 100000 in
/-- 'append(lists, u)' within a region that draws its order, and where the new slice lies -/
theorem step_appS {ops : Array Oper} {o : Oper} {a : Act} {K : Act → World → Prop} {Q : Exit → Act → World → Prop} {E : Prop} {W : World} (w0 w1 : World) (hgd : o.guard = none) (s x : Operand)
    (ho : o.op = .call { callee := .builtin .append, args := #[s, x], argTypes := #[32, 32] })
    (B : Nat) (v : Value) (zss : List (List Int)) (us : List Value) (hs : a.eval s = v) (hI : Lst w1 B v zss us) (h10 : Below w1.heap.size w1 w0) (u : Value) (zs : List Int) (hu : Ints w0 B u zs) (hfr : ∀ k, u.ownBlock = some k → w1.heap.size ≤ k)
    (nb : Nat) (hx : a.eval x = .slice (some ⟨nb, 0, none⟩) 1 1) (hnb : nb = w0.heap.size) (hl : zss.length < 16777216) (hB : B ≤ w0.heap.size) (hW : W = w0.alloc (.cells #[u] 41))
    (h : ∀ g cap w', Lst w' B (.slice (some ⟨g, 0, none⟩) (zss.length + 1) cap) (zss ++ [zs]) (us ++ [u]) → Below B w0 w' → w0.grownBy w' v.ownBlock → (v.ownBlock = some g ∨ g = w0.heap.size + 1) → K (a.put o.dst (.slice (some ⟨g, 0, none⟩) (zss.length + 1) cap)) w') :
    if Region.wanted o (yielded ops a.tmps) = true then Oper.wp Try.prog o a W K Q else E := by
  subst hnb
  subst hW
  obtain ⟨i0, hi, hz0, hz1, hz2⟩ := info_parts Try.infoRowI
  have h1 := rowS_below hI.1 h10
  have hlt : ∀ b, v.ownBlock = some b → B ≤ b := fun b hb => (World.ownsRow.lt h1 b hb).1
  have huc := oneS hu
  refine step_append_lies _ hgd s x 32 ho B 41 i0 (.slice none 0 0) 1 24 Try.underlying32 hi hz0 hz1 hz2 rfl (by decide) v zss.length us hs (World.ownsRow.alloc h1 _) ⟨w0.heap.size, 0, none⟩ 1 1 [u] hx rfl
    (cell_one_new _ _ _) (by intro y hy; simp at hy; subst hy; exact huc) (by omega) (by unfold maxLen; omega) (by omega) (by simp; omega) (w0.heap.size + 1) (by simp) ?_
  intro g cap w' h4 h5 h6 _
  refine h g cap w' (hI.snoc ((hu.below ((Below.refl _ _).alloc (Nat.le_refl _) _)).kept h5 (rowS_ne h1 hu)) hfr (by rw [List.length_append]; exact h4) fun j hj => ?_) (((Below.refl _ _).alloc hB _).grown h5 (by simp; omega) hlt) ((World.grownBy_alloc _ _ _).trans h5) h6
  have hj' := (hI.2.1 j hj).below h10
  exact (hj'.below ((Below.refl _ _).alloc (Nat.le_refl _) _)).kept h5 (rowS_ne h1 hj')
set_option maxHeartbeats 8000000 in
theorem cnAll (m : Int) (pr : Bool) (w : World) (hm : 1 ≤ m ∧ m ≤ 200) :
    Calls Try.prog 42 #[.int .i64 m, .bool pr] w fun e w' => ∃ v, e = .returned v ∧ (∃ us, Lst w' w.heap.size v (ltG pr m.toNat) us) ∧ Below w.heap.size w w' := by
  have N0 := Lib.hid (show Lst w w.heap.size (.slice none 0 0) (ltG pr 0) [] from Lst.nil w w.heap.size)
  go_enter Try.func42, Try.ntmps42
  go_wp2
  go_loopw [5, 6] (fun v pv wr => ∃ (k : Nat) (us : List Value), (k : Int) ≤ m ∧ pv = .int .i64 ((k : Int) + 1) ∧ Hid (Lst wr w.heap.size v (ltG pr k) us) ∧ Hid (Below w.heap.size w wr)) (fun _ pv _ => 300 - (intOf pv).toNat)
  case atStart => exact ⟨0, [], by omega, rfl, N0, Lib.hid (Below.refl _ _)⟩
  case round =>
    clear N0
    obtain ⟨k, us, hk, rfl, HL, HB⟩ := hrel
    have hsz := HB.out.size
    by_cases hlt : (k : Int) + 1 ≤ m
    · have LL := Lib.hid (fun wx => cnLeans ((k : Int) + 1) wx (by omega))
      have R := Lib.hid (show ltG pr (k + 1) = ltG pr k ++ ((lns ((k : Int) + 1)).filter (gok pr)).map (l3 ((k : Int) + 1)) from rfl)
      have hn1 := ltG_len pr k
      have hn2 := lns_len ((k : Int) + 1)
      have HIN := Lib.hid (fun s (h : s ∈ lns ((k : Int) + 1)) => lns_in (p := (k : Int) + 1) (by omega) h)
      generalize lns ((k : Int) + 1) = L at *
      go_wp2_with fail
      refine (LL.out _).mono ?_
      rintro e w2 ⟨v2, rfl, ⟨us2, hl2⟩, hb2⟩
      have hs2 := hb2.size
      obtain ⟨va, vc, hvv⟩ := hl2.form
      rw [show (L.map l2).length = L.length by simp] at hvv
      obtain ⟨n, hn⟩ : ∃ n, n = L.length := ⟨_, rfl⟩
      rw [← hn] at hvv hn2
      subst hvv
      have HN := Lib.hid hn
      have HL2 := Lib.hid (HL.out.below hb2)
      have HV := Lib.hid hl2
      have HB2 := Lib.hid (HB.out.trans (hb2.mono hsz))
      have HAP : Hid (∀ b, u5.ownBlock = some b → b < wr.heap.size ∨ w2.heap.size ≤ b) := Lib.hid fun b hb => .inl (World.ownsRow.lt HL.out.1 b hb).2
      clear hl2 hb2 hn HL LL HB
      go_wp2
      generalize wr.heap.size = Z at *
      go_loopw [5, 19] (fun v i wr => ∃ (j : Nat) (us : List Value), j ≤ n ∧ i = .int .i64 j ∧ Hid (Lst wr w.heap.size v (ltG pr k ++ ((L.take j).filter (gok pr)).map (l3 ((k : Int) + 1))) us) ∧ Hid (Lst wr Z (.slice va n vc) (L.map l2) us2) ∧ Hid (Below w.heap.size w wr) ∧ Hid (∀ b, v.ownBlock = some b → b < Z ∨ w2.heap.size ≤ b) ∧ w2.heap.size ≤ wr.heap.size ∧ Hid (∀ j, j < n → ∀ b, (gu us2 j).ownBlock = some b → b < w2.heap.size) ∧ Hid (∀ b, (Value.slice va n vc).ownBlock = some b → b < w2.heap.size)) (fun _ i _ => n - (intOf i).toNat)
      case atStart => exact ⟨0, us, Nat.zero_le _, rfl, Lib.hid (by simpa using HL2.out), HV, HB2, HAP, Nat.le_refl _, Lib.hid fun j hj b hb => (HV.out.blk (by simp; have := HN.out; omega) hb).2, Lib.hid fun b hb => (World.ownsRow.lt HV.out.1 b hb).2⟩
      case round =>
        clear HL2 HV HB2 HAP
        obtain ⟨j, us, hj, rfl, HL, HV, HB, HAP, hsx, HU, HVB⟩ := hrel
        by_cases hjn : j < n
        · have hjL : j < L.length := by have := HN.out; omega
          have hjh : j < (L.map l2).length := by simpa using hjL
          obtain ⟨g, c', e0, hg1, hg2, hcell⟩ := (show ∃ g c', (Value.slice va n vc) = .slice (some ⟨g, 0, none⟩) (L.map l2).length c' ∧ Z ≤ g ∧ g < wr.heap.size ∧ wr.cell? ⟨g, j, none⟩ = some (gu us2 j) from HV.out.at hjh)
          injection e0 with e1 e2 e3
          subst e1 e3
          have hI := HV.out.2.1 j hjh
          rw [show gl (L.map l2) j = l2 L[j] by simp [gl, hjL]] at hI
          obtain ⟨gj, cj, cur, hu, hgj, hheap, hcap, _, _, hcl⟩ := IntV.of hI (by simp [l2])
          have hu' : gu us2 j = .slice (some ⟨gj, 0, none⟩) 2 cj := hu
          rw [hu'] at hcell
          have hin := HIN.out L[j] (List.getElem_mem hjL)
          have HT := Lib.hid (show L.take (j + 1) = L.take j ++ [L[j]] from List.take_succ_eq_append_getElem hjL)
          have BX : Blk wr gj cur := ⟨_, hheap⟩
          have q0 := (BX.cell 0).trans (hcl 0 (by simp [l2]))
          have q1 := (BX.cell 1).trans (hcl 1 (by simp [l2]))
          have q2 := BX.lt
          rw [show gt (l2 L[j]) 0 = L[j].1 from rfl] at q0
          rw [show gt (l2 L[j]) 1 = L[j].2 from rfl] at q1
          have hHU := HU.out j (by omega) gj (by rw [hu']; rfl)
          have hjn' : (j : Int) < n := by omega
          clear hI hu hu' hheap hcl BX e2
          generalize L[j] = s at *
          obtain ⟨sa, sb⟩ := s
          dsimp only at hin q0 q1
          obtain ⟨x0, rfl⟩ : ∃ x : Nat, sa = (x : Int) := ⟨sa.toNat, by omega⟩
          obtain ⟨y0, rfl⟩ : ∃ x : Nat, sb = (x : Int) := ⟨sb.toNat, by omega⟩
          obtain ⟨w4, rfl⟩ : ∃ w4, w4 = wr := ⟨wr, rfl⟩
          go_wp2
          go_quiet (fail)
          have HQ := Lib.hid (below_drewN (Below.refl w4.heap.size w4) nq)
          go_wp2
          go_loopw [9, 10] (fun a b wz => ∃ x y : Nat, a = .int .i64 x ∧ b = .int .i64 y ∧ x ≤ 200 ∧ y ≤ 200 ∧ Hid (Nat.gcd x y = Nat.gcd x0 y0) ∧ Hid (Below w4.heap.size w4 wz)) (fun _ b _ => (intOf b).toNat)
          case atStart => exact ⟨x0, y0, rfl, rfl, by omega, by omega, Lib.hid rfl, HQ⟩
          case round =>
            clear HQ
            obtain ⟨x, y, rfl, rfl, hx, hy, HG, HZ⟩ := hrel
            by_cases h0 : 0 < y
            · have hm' : x % y < y := Nat.mod_lt _ h0
              have hi2 : (y : Int) ≠ 0 := by omega
              have R3 := Lib.hid ((gcd_step x y).trans HG.out)
              go_wp2
              go_quiet (fail)
              have HZ2 := Lib.hid (below_drewN HZ.out nq)
              go_wp2
              go_roundw
              case rel => exact ⟨y, x % y, rfl, by push_cast; rfl, hy, by omega, R3, HZ2⟩
              case measure => (rw [show (x : Int) % (y : Int) = ((x % y : Nat) : Int) from by push_cast; rfl]; simp [intOf]; omega)
            · obtain rfl : y = 0 := by omega
              rw [Nat.gcd_zero_right] at HG
              have HLw := Lib.hid (HL.out.below HZ.out)
              have HVw := Lib.hid (HV.out.below HZ.out)
              have hs4 := HB.out.size
              have hsw := HZ.out.size
              have HBw := Lib.hid (HB.out.trans (HZ.out.mono hs4))
              have p0 := (HZ.out.cell (p := ⟨gj, 0, none⟩) q2).trans q0
              have p1 := (HZ.out.cell (p := ⟨gj, 1, none⟩) q2).trans q1
              clear HL HV HB HZ q0 q1
              cases pr <;> by_cases hg : x = 1
              · have hok : gok false ((x0 : Int), (y0 : Int)) = true := by rfl
                have R2 := Lib.hid (show ltG false k ++ ((L.take (j + 1)).filter (gok false)).map (l3 ((k : Int) + 1)) = (ltG false k ++ ((L.take j).filter (gok false)).map (l3 ((k : Int) + 1))) ++ [[(x0 : Int), (y0 : Int), (k : Int) + 1]] by rw [HT.out, List.filter_append, List.map_append]; simp [hok, l3])
                have hll : (ltG false k ++ ((L.take j).filter (gok false)).map (l3 ((k : Int) + 1))).length < 100000 := by
                  have := List.length_filter_le (gok false) (L.take j)
                  simp only [List.length_append, List.length_map, List.length_take] at this ⊢
                  have := HN.out
                  omega
                clear hok HG
                have hwz : wr.drew.heap.size = wr.heap.size := rfl
                go_wp2
                go_region_law ((refine step_appS (wr.drew.alloc (.cells #[.int .i64 (x0 : Int), .int .i64 (y0 : Int), .int .i64 ((k : Int) + 1)] 3)) wr.drew rfl (.tmp 41) (.tmp 50) rfl w.heap.size _ _ us (by simp [Act.eval, Act.put]) HLw.out.drewL ((Below.refl _ _).alloc (Nat.le_refl _) _) _ [(x0 : Int), (y0 : Int), (k : Int) + 1] (ints_three wr.drew w.heap.size _ _ _ (by rw [hwz]; omega)) (fun q e => by (have e2 : wr.drew.heap.size = q := by simpa [Value.ownBlock] using e); omega) _ (by simp [Act.eval, Act.put]; rfl) (by simp) (by omega) (by simp; omega) rfl ?_; intro gn cn w5 hL5 hb5 hg5 hloc))
                all_goals
                  have HL5 := Lib.hid (show Lst w5 w.heap.size (.slice (some ⟨gn, 0, none⟩) (_ + 1) cn) (ltG false k ++ ((L.take (j + 1)).filter (gok false)).map (l3 ((k : Int) + 1))) _ by rw [R2.out]; exact hL5)
                  rw [List.length_append, List.length_map] at HL5
                  have bA : Below wr.heap.size wr (wr.drew.alloc (.cells #[.int .i64 (x0 : Int), .int .i64 (y0 : Int), .int .i64 ((k : Int) + 1)] 3)) := (Below.refl _ _).drew.alloc (Nat.le_refl _) _
                  have HV5 := Lib.hid ((HVw.out.below bA).keptR hg5 (fun b hb e => by
                      have h1 := (World.ownsRow.lt HVw.out.1 b hb).1
                      have h2 := HVB.out b hb
                      have h3 := HAP.out b e.symm
                      omega) (fun i hi b hb e => by
                      have h1 := (HVw.out.blk hi hb).1
                      have h2 := HU.out i (by have := HN.out; simp at hi; omega) b hb
                      have h3 := HAP.out b e.symm
                      omega))
                  have hsA := bA.size
                  have HB5 := Lib.hid ((HBw.out.trans (bA.mono (by omega))).trans hb5)
                  have HAP5 : Hid (∀ b, some gn = some b → b < Z ∨ w2.heap.size ≤ b) := Lib.hid fun b hb => by
                    injection hb with hb
                    subst hb
                    rcases hloc with e | e
                    · exact HAP.out gn e
                    · omega
                  have hs5 : w2.heap.size ≤ w5.heap.size := Nat.le_trans (by omega) hg5.size
                  clear hL5 hb5 hg5 hloc bA
                  go_wp2
                  go_roundw
                  case rel => exact ⟨j + 1, _, by omega, by go_num, HL5, HV5, HB5, HAP5, hs5, HU, HVB⟩
                  case measure => (simp [intOf]; try omega)
              · have hok : gok false ((x0 : Int), (y0 : Int)) = true := by rfl
                have R2 := Lib.hid (show ltG false k ++ ((L.take (j + 1)).filter (gok false)).map (l3 ((k : Int) + 1)) = (ltG false k ++ ((L.take j).filter (gok false)).map (l3 ((k : Int) + 1))) ++ [[(x0 : Int), (y0 : Int), (k : Int) + 1]] by rw [HT.out, List.filter_append, List.map_append]; simp [hok, l3])
                have hll : (ltG false k ++ ((L.take j).filter (gok false)).map (l3 ((k : Int) + 1))).length < 100000 := by
                  have := List.length_filter_le (gok false) (L.take j)
                  simp only [List.length_append, List.length_map, List.length_take] at this ⊢
                  have := HN.out
                  omega
                clear hok HG
                have hwz : wr.drew.heap.size = wr.heap.size := rfl
                go_wp2
                go_region_law ((refine step_appS (wr.drew.alloc (.cells #[.int .i64 (x0 : Int), .int .i64 (y0 : Int), .int .i64 ((k : Int) + 1)] 3)) wr.drew rfl (.tmp 41) (.tmp 50) rfl w.heap.size _ _ us (by simp [Act.eval, Act.put]) HLw.out.drewL ((Below.refl _ _).alloc (Nat.le_refl _) _) _ [(x0 : Int), (y0 : Int), (k : Int) + 1] (ints_three wr.drew w.heap.size _ _ _ (by rw [hwz]; omega)) (fun q e => by (have e2 : wr.drew.heap.size = q := by simpa [Value.ownBlock] using e); omega) _ (by simp [Act.eval, Act.put]; rfl) (by simp) (by omega) (by simp; omega) rfl ?_; intro gn cn w5 hL5 hb5 hg5 hloc))
                all_goals
                  have HL5 := Lib.hid (show Lst w5 w.heap.size (.slice (some ⟨gn, 0, none⟩) (_ + 1) cn) (ltG false k ++ ((L.take (j + 1)).filter (gok false)).map (l3 ((k : Int) + 1))) _ by rw [R2.out]; exact hL5)
                  rw [List.length_append, List.length_map] at HL5
                  have bA : Below wr.heap.size wr (wr.drew.alloc (.cells #[.int .i64 (x0 : Int), .int .i64 (y0 : Int), .int .i64 ((k : Int) + 1)] 3)) := (Below.refl _ _).drew.alloc (Nat.le_refl _) _
                  have HV5 := Lib.hid ((HVw.out.below bA).keptR hg5 (fun b hb e => by
                      have h1 := (World.ownsRow.lt HVw.out.1 b hb).1
                      have h2 := HVB.out b hb
                      have h3 := HAP.out b e.symm
                      omega) (fun i hi b hb e => by
                      have h1 := (HVw.out.blk hi hb).1
                      have h2 := HU.out i (by have := HN.out; simp at hi; omega) b hb
                      have h3 := HAP.out b e.symm
                      omega))
                  have hsA := bA.size
                  have HB5 := Lib.hid ((HBw.out.trans (bA.mono (by omega))).trans hb5)
                  have HAP5 : Hid (∀ b, some gn = some b → b < Z ∨ w2.heap.size ≤ b) := Lib.hid fun b hb => by
                    injection hb with hb
                    subst hb
                    rcases hloc with e | e
                    · exact HAP.out gn e
                    · omega
                  have hs5 : w2.heap.size ≤ w5.heap.size := Nat.le_trans (by omega) hg5.size
                  clear hL5 hb5 hg5 hloc bA
                  go_wp2
                  go_roundw
                  case rel => exact ⟨j + 1, _, by omega, by go_num, HL5, HV5, HB5, HAP5, hs5, HU, HVB⟩
                  case measure => (simp [intOf]; try omega)
              · have hok : gok true ((x0 : Int), (y0 : Int)) = true := by (simp [gok]; rw [← HG.out]; exact hg)
                have R2 := Lib.hid (show ltG true k ++ ((L.take (j + 1)).filter (gok true)).map (l3 ((k : Int) + 1)) = (ltG true k ++ ((L.take j).filter (gok true)).map (l3 ((k : Int) + 1))) ++ [[(x0 : Int), (y0 : Int), (k : Int) + 1]] by rw [HT.out, List.filter_append, List.map_append]; simp [hok, l3])
                have hll : (ltG true k ++ ((L.take j).filter (gok true)).map (l3 ((k : Int) + 1))).length < 100000 := by
                  have := List.length_filter_le (gok true) (L.take j)
                  simp only [List.length_append, List.length_map, List.length_take] at this ⊢
                  have := HN.out
                  omega
                clear hok HG
                have hwz : wr.drew.heap.size = wr.heap.size := rfl
                go_wp2
                go_region_law ((refine step_appS (wr.drew.alloc (.cells #[.int .i64 (x0 : Int), .int .i64 (y0 : Int), .int .i64 ((k : Int) + 1)] 3)) wr.drew rfl (.tmp 41) (.tmp 50) rfl w.heap.size _ _ us (by simp [Act.eval, Act.put]) HLw.out.drewL ((Below.refl _ _).alloc (Nat.le_refl _) _) _ [(x0 : Int), (y0 : Int), (k : Int) + 1] (ints_three wr.drew w.heap.size _ _ _ (by rw [hwz]; omega)) (fun q e => by (have e2 : wr.drew.heap.size = q := by simpa [Value.ownBlock] using e); omega) _ (by simp [Act.eval, Act.put]; rfl) (by simp) (by omega) (by simp; omega) rfl ?_; intro gn cn w5 hL5 hb5 hg5 hloc))
                all_goals
                  have HL5 := Lib.hid (show Lst w5 w.heap.size (.slice (some ⟨gn, 0, none⟩) (_ + 1) cn) (ltG true k ++ ((L.take (j + 1)).filter (gok true)).map (l3 ((k : Int) + 1))) _ by rw [R2.out]; exact hL5)
                  rw [List.length_append, List.length_map] at HL5
                  have bA : Below wr.heap.size wr (wr.drew.alloc (.cells #[.int .i64 (x0 : Int), .int .i64 (y0 : Int), .int .i64 ((k : Int) + 1)] 3)) := (Below.refl _ _).drew.alloc (Nat.le_refl _) _
                  have HV5 := Lib.hid ((HVw.out.below bA).keptR hg5 (fun b hb e => by
                      have h1 := (World.ownsRow.lt HVw.out.1 b hb).1
                      have h2 := HVB.out b hb
                      have h3 := HAP.out b e.symm
                      omega) (fun i hi b hb e => by
                      have h1 := (HVw.out.blk hi hb).1
                      have h2 := HU.out i (by have := HN.out; simp at hi; omega) b hb
                      have h3 := HAP.out b e.symm
                      omega))
                  have hsA := bA.size
                  have HB5 := Lib.hid ((HBw.out.trans (bA.mono (by omega))).trans hb5)
                  have HAP5 : Hid (∀ b, some gn = some b → b < Z ∨ w2.heap.size ≤ b) := Lib.hid fun b hb => by
                    injection hb with hb
                    subst hb
                    rcases hloc with e | e
                    · exact HAP.out gn e
                    · omega
                  have hs5 : w2.heap.size ≤ w5.heap.size := Nat.le_trans (by omega) hg5.size
                  clear hL5 hb5 hg5 hloc bA
                  go_wp2
                  go_roundw
                  case rel => exact ⟨j + 1, _, by omega, by go_num, HL5, HV5, HB5, HAP5, hs5, HU, HVB⟩
                  case measure => (simp [intOf]; try omega)
              · have hok : gok true ((x0 : Int), (y0 : Int)) = false := by simp [gok]; rw [← HG.out]; exact hg
                have R2 := Lib.hid (show ltG true k ++ ((L.take (j + 1)).filter (gok true)).map (l3 ((k : Int) + 1)) = ltG true k ++ ((L.take j).filter (gok true)).map (l3 ((k : Int) + 1)) by rw [HT.out, List.filter_append, List.map_append]; simp [hok])
                have HL5 := Lib.hid (show Lst wr w.heap.size u5 (ltG true k ++ ((L.take (j + 1)).filter (gok true)).map (l3 ((k : Int) + 1))) us by rw [R2.out]; exact HLw.out)
                clear hok HG
                have hg' : ¬ (x : Int) = 1 := by omega
                go_wp2
                go_roundw
                case rel => exact ⟨j + 1, us, by omega, by go_num, HL5, HVw, HBw, HAP, by omega, HU, HVB⟩
                case measure => (simp [intOf]; try omega)
        · obtain rfl : j = n := by omega
          have HL3 := Lib.hid (show Lst wr w.heap.size u5 (ltG pr (k + 1)) us by have := HL.out; rwa [HN.out, List.take_length, ← R.out] at this)
          clear HL
          go_wp2
          go_roundw
          case rel => exact ⟨k + 1, _, by omega, by go_num, HL3, HB⟩
          case measure => (simp [intOf]; try omega)
    · have e : k = m.toNat := by omega
      have HL2 := Lib.hid (show Lst wr w.heap.size u5 (ltG pr m.toNat) us by rw [← e]; exact HL.out)
      clear HL
      go_wp2
      go_ret
      exact ⟨_, rfl, ⟨us, HL2.out⟩, HB.out⟩
end Go.Proofs.Ytfkdkhoihlkgcab
