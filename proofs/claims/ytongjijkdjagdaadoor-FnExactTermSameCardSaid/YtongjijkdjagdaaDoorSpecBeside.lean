/- l1Beside of the specification, by its contract. -/
import Derived.Test.YtongjijkdjagdaaDoorBunW
import Derived.Test.YtongjijkdjagdaaDoorBunP
import Derived.OwnWalkIn
namespace Go.Proofs.YtongjijkdjagdaaDoor
open Go.RowKit Go.Shelf
attribute [local go_sem] Oper.semAt_some

section
variable {F : Fence} {nF : Nat} {ops : Array Oper} {rest : List Oper} {o : Oper} {a : Act} {w : World} {Q : Exit → Act → World → Prop}
/-- A text appended, inside a fence. -/
theorem wpListIn_appendS (hgd : o.guard = none) (s x : Operand) (ho : o.op = .call { callee := .builtin .append, args := #[s, x], argTypes := #[23, 23] })
    (base : Nat) (v : Value) (l : List ByteArray) (hs : a.eval s = v) (hown : GrowS w base v l) (h c : Nat) (hx : a.eval x = .slice (some ⟨h, 0, none⟩) 1 c) (b : ByteArray) (hc : w.cell? ⟨h, 0, none⟩ = some (.string b))
    (hl : l.length ≤ 1000000) (hbase : base ≤ w.heap.size)
    (hk : ∀ v' w', GrowS w' base v' (l ++ [b]) → w.grownBy w' v.ownBlock → wpListIn F nF Tryd.prog ops Q rest (a.put o.dst v') w') : wpListIn F nF Tryd.prog ops Q (o :: rest) a w := by
  obtain ⟨i0, hi, hz0, hz1, hz2⟩ := info_parts Tryd.info_string
  refine wpListIn_append_own w hgd s x 23 ho base 9 i0 (.string ByteArray.empty) 1 16 Tryd.underlying23 hi hz0 hz1 hz2 rfl (by decide) v l.length (strsV l) hs hown ⟨h, 0, none⟩ 1 c [.string b] hx rfl ?_ ?_ (by unfold maxLen; omega) (by omega) hbase ?_
  · intro j u hj
    match j, hj with
    | 0, hj => simp at hj; subst hj; simpa [Addr.add] using hc
  · intro u hu; simp at hu; subst hu; rfl
  · intro v' w' h1 h2 _
    refine hk v' w' ?_ h2
    unfold GrowS strsV
    rw [List.length_append, List.map_append]
    exact h1
end

set_option maxRecDepth 100000 in
set_option maxHeartbeats 2000000 in
theorem l1Beside_any (A A' : Option Addr) (c c' B n m m' : Nat) (ss tt : List ByteArray) (w : World) (h : Strs w B A ss) (h' : Strs w B A' tt) (hB : B ≤ w.heap.size) (hg : IsGrid n m ss) (hg' : IsGrid n m' tt) :
    Calls Tryd.prog 79 #[.slice A ss.length c, .slice A' tt.length c'] w fun e w' => (∃ v, e = .returned v ∧ GrowS w' w.heap.size v (ruleG n (m + m') (besideF m m' (flat ss) (flat tt)))) ∧ Below w.heap.size w w' := by
  have hn5 := hg.2.2.1
  have hm5 := hg.2.2.2.2.1
  have hm5' := hg'.2.2.2.2.1
  have hnl := hg.1
  have hnl' := hg'.1
  have HG := hid hg
  have HG' := hid hg'
  have HH := hid h
  have HH' := hid h'
  have HBB := hid hB
  have HNL := hid hnl
  have HNL' := hid hnl'
  rw [hnl, hnl']
  clear hg hg' h h' hB hnl hnl'
  obtain ⟨F, hF⟩ : ∃ F, besideF m m' (flat ss) (flat tt) = F := ⟨_, rfl⟩
  have HF := hid hF
  rw [hF]
  clear hF
  refine (callsIn_wide (n := 3)).1 ?_
  refine callsIn_of_wp Tryd.func79 rfl trivial ?_ rfl
  simp only [Tryd.ntmps79, List.size_toArray, List.length_cons, List.length_nil, Nat.reduceAdd, Nat.reduceSub, Array.replicate_succ, Array.replicate_zero, List.push_toArray, List.append_toArray, List.nil_append, List.cons_append]
  gi_wp2
  gi_loopw [5, 6] (OutG n (m + m') F w) (fun _ i _ => n - (intOf i).toNat)
  case atStart => exact ⟨0, Nat.zero_le _, rfl, growS_new w _ (Nat.le_refl _), (Below.refl _ w).alloc (Nat.le_refl _) _⟩
  case round =>
    obtain ⟨r, hr, rfl, hgs, hbel⟩ := hrel
    have HS := hid hgs
    have HB := hid hbel
    clear hgs hbel
    by_cases hlt : r < n
    · obtain ⟨b, off, s, rfl, hb, hks, _⟩ := HH.out.at_ (by rw [HNL.out]; exact hlt)
      obtain ⟨b', off', s', rfl, hb', hks', _⟩ := HH'.out.at_ (by rw [HNL'.out]; exact hlt)
      have hz : s.size = m := (HG.out.2.2.2.2.2 s (List.mem_of_getElem? hks)).1
      have hz' : s'.size = m' := (HG'.out.2.2.2.2.2 s' (List.mem_of_getElem? hks')).1
      have hc := (HH.out.below HB.out HBB.out).cell_ hks
      have hc' := (HH'.out.below HB.out HBB.out).cell_ hks'
      have hrow := beside_row HG.out HG'.out hks hks'
      rw [HF.out] at hrow
      obtain ⟨tx, htx⟩ : ∃ tx : ByteArray, s ++ s' = tx := ⟨_, rfl⟩
      rw [htx] at hrow
      have HRow := hid hrow
      have hcat : ∀ W : World, (Op.stringOp .add s s').run Tryd.prog W = .ok (.string tx) W := fun W => by rw [run_string_add W s s' (by omega) (by omega), htx]
      have hi : (r : Int) < (n : Int) := by omega
      have hi0 : (0 : Int) ≤ (r : Int) := by omega
      clear hks hks' hz hz' htx hrow
      obtain ⟨ov, rfl⟩ : ∃ ov : Value, ov = u5 := ⟨_, rfl⟩
      obtain ⟨wd, hwd⟩ : ∃ wd, wr.drew = wd := ⟨_, rfl⟩
      have hdc : wd.cell? ⟨b, off + r, none⟩ = some (.string s) := by rw [← hwd]; exact hc
      have hdc' : wd.cell? ⟨b', off' + r, none⟩ = some (.string s') := by rw [← hwd]; exact hc'
      have HDG := hid (show GrowS wd w.heap.size ov ((ruleG n (m + m') F).take r) by rw [← hwd]; exact HS.out)
      have HDB := hid (show Below w.heap.size w wd by rw [← hwd]; exact HB.out.drew)
      have HWD := hid hwd
      clear hc hc' hwd
      gi_wp2
      refine wpIn_region_float (Open.wide _) 10 (fun w' => w' = wd) (fun _ => True) _ _ rfl rfl rfl rfl ov (by kernel_rfl) (by kernel_rfl) HWD.out (fun _ _ => trivial) (fun _ _ _ h => h) (fun w' _ => by go_simp) ?_
      simp only [List.take_succ_cons, List.take_zero, List.drop_succ_cons, List.drop_zero, Nat.reduceSub]
      quiet_step (fail)
      quiet_step (fail)
      quiet_step (fail)
      quiet_step (fail)
      quiet_step (fail)
      quiet_step (fail)
      quiet_step (fail)
      quiet_step (fail)
      quiet_step (fail)
      refine wpQuiet_nil ?_
      rintro w' rfl
      refine ⟨.slice (some ⟨w'.heap.size, 0, none⟩) 1 1, w'.alloc (.cells #[.string tx] 9), by go_simp, trivial, ?_⟩
      gi_wp2_with (gi_at_builtin; refine wpListIn_appendS rfl _ _ rfl w.heap.size ov ((ruleG n (m + m') F).take r) rfl (HDG.out.alloc _) w'.heap.size 1 rfl tx (cell_new w' tx) ?c3 (Nat.le_trans HDB.out.size (by simp)) ?_)
      case c3 => rw [List.length_take, ruleG_length]; omega
      intro v' w2 hgr hgw
      have HGR := hid hgr
      have HGW := hid hgw
      clear hgr hgw hdc hdc'
      gi_wp2
      go_roundw
      case rel =>
        refine ⟨r + 1, by omega, by go_num, ?_, (HDB.out.alloc HDB.out.size _).grown HGW.out (Nat.le_trans HDB.out.size (by simp)) (fun k e => (ownBlock_lt HDG.out k e).1)⟩
        rw [ruleG, range_take n r _ hlt, ← HRow.out]
        exact HGR.out
      case measure => simp [intOf]; omega
    · obtain rfl : r = n := by omega
      have HS' := HS.out
      rw [List.take_of_length_le (by rw [ruleG_length]; exact Nat.le_refl _)] at HS'
      have HSS := hid HS'
      clear HS'
      gi_wp2_with fail
      go_ret
      exact ⟨⟨_, rfl, HSS.out⟩, HB.out⟩

end Go.Proofs.YtongjijkdjagdaaDoor
