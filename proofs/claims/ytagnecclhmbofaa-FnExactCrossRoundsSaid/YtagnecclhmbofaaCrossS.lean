/- l5Self, l5Both, CrossSelf of the specification, by their contracts. -/
import Derived.Test.YtagnecclhmbofaaTwiceI
namespace Go.Proofs.Ytagnecclhmbofaa
open Go.RowKit Go.Shelf

/-- Numbers as integers. -/
def natI (l : List Nat) : List Int := l.map fun x : Nat => (x : Int)
theorem natI_length (l : List Nat) : (natI l).length = l.length := by simp [natI]
theorem natI_at {l : List Nat} {k x : Nat} (h : l[k]? = some x) : (natI l)[k]? = some (x : Int) := by simp [natI, h]
theorem natI_count (l : List Nat) (x : Nat) : (natI l).count (x : Int) = l.count x := by
  unfold natI
  rw [List.count, List.count, List.countP_map]
  refine List.countP_congr fun y _ => ?_
  simp only [Function.comp, beq_iff_eq]
  omega
theorem cellsI_nat (n m : Nat) (t : Int → Int → UInt8) (p : Nat) : cellsI m (bway n m t p) (blen n m t p) = natI (bcells n m t p) := by
  unfold cellsI natI bcells
  rw [List.map_map]
  rfl
theorem flat_empty {n m c : Nat} {ss : List ByteArray} (hg : IsGrid n m ss) (hc : c < n * m) : ∃ bt : UInt8, (flat ss)[c]? = some bt ∧ emptyC m (lett m (pad (flat ss))) c = (bt == 46) ∧ ((bt.toNat : Int) == 46) = (bt == 46) := by
  have hm : 0 < m := by
    rcases Nat.eq_zero_or_pos m with h0 | h0
    · subst h0; simp at hc
    · exact h0
  have hx : inG n m ⟨((c / m : Nat) : Int), ((c % m : Nat) : Int), 0⟩ := ⟨Int.natCast_nonneg _, Int.ofNat_lt.2 (by rw [Nat.div_lt_iff_lt_mul hm]; exact hc), Int.natCast_nonneg _, Int.ofNat_lt.2 (Nat.mod_lt _ hm)⟩
  have h1 := lett_flat hg hx
  have h2 : cellN m ⟨((c / m : Nat) : Int), ((c % m : Nat) : Int), 0⟩ = c := by
    unfold cellN
    simp only [Int.toNat_natCast]
    rw [Nat.mul_comm]
    exact Nat.div_add_mod c m
  rw [h2] at h1
  refine ⟨_, h1, rfl, ?_⟩
  generalize lett m (pad (flat ss)) _ _ = b
  rw [Bool.eq_iff_iff, beq_iff_eq, beq_iff_eq]
  constructor
  · intro e
    have : b.toNat = 46 := by omega
    exact UInt8.toNat_inj.1 this
  · rintro rfl; rfl

set_option maxRecDepth 100000 in
set_option maxHeartbeats 2000000 in
theorem l5Self_any (A : Option Addr) (c B n m : Nat) (ss : List ByteArray) (A1 : Option Addr) (c1 B1 : Nat) (a : List Nat) (w : World) (h : Strs w B A ss) (hg : IsGrid n m ss) (hi : Ints w B1 A1 (natI a)) (ha : ∀ x ∈ a, x < n * m) (hlen : a.length ≤ 100) (hc2 : ∀ c, a.count c ≤ 2) :
    Calls Try.prog 51 #[.slice A ss.length c, .slice A1 a.length c1] w fun e w' => e = .returned (.int .i64 ((spareE m (lett m (pad (flat ss))) a a.length / 2 : Nat) : Int)) ∧ ∃ d, w' = w.drewN d := by
  have HI := hid hi
  have HCE := hid (show ∀ (k x d : Nat), a[k]? = some x → ∃ bt : UInt8, emptyC m (lett m (pad (flat ss))) x = (bt == 46) ∧ ((bt.toNat : Int) == 46) = (bt == 46) ∧ Calls Try.prog 57 #[.slice A ss.length c, .int .i64 (x : Int)] (w.drewN d) fun e w' => e = .returned (.int .u8 bt.toNat) ∧ ∃ d', w' = (w.drewN d).drewN d' from fun k x d hk => by
    have hx := ha x (List.mem_of_getElem? hk)
    obtain ⟨bt, h1, h2, h3⟩ := flat_empty hg hx
    exact ⟨bt, h2, h3, l2Cell_any A c B n m x ss bt (w.drewN d) (h.drewN d) hg hx h1⟩)
  have HOF := hid (show ∀ x d : Nat, Calls Try.prog 42 #[.slice A1 a.length c1, .int .i64 (x : Int)] (w.drewN d) fun e w' => e = .returned (.int .i64 ((a.count x : Nat) : Int)) ∧ ∃ d', w' = (w.drewN d).drewN d' from fun x d => by
    have := l2Often_any A1 c1 B1 (natI a) (x : Int) (w.drewN d) (hi.drewN d) (by rw [natI_length]; omega)
    rwa [natI_count, natI_length] at this)
  have HLE := hid (fun k => spareE_le m (lett m (pad (flat ss))) a k hc2)
  have HSU := hid (fun k x hk => spareE_succ m (lett m (pad (flat ss))) a k x hk)
  have HC2 := hid hc2
  clear h hg hi ha hc2
  generalize lett m (pad (flat ss)) = t at *
  go_enter Try.func51, Try.ntmps51
  go_wp2_with fail
  go_loopw [5, 6] (fun (v iv : Value) (wr : World) => ∃ k : Nat, k ≤ a.length ∧ iv = .int .i64 k ∧ v = .int .i64 ((spareE m t a k : Nat) : Int) ∧ ∃ d, wr = w.drewN d) (fun _ i _ => a.length - (intOf i).toNat)
  case atStart => exact ⟨0, by omega, rfl, rfl, 0, rfl⟩
  case round =>
    obtain ⟨k, hk, rfl, rfl, d, rfl⟩ := hrel
    have hle := HLE.out k
    obtain ⟨tk, htk⟩ : ∃ tk, spareE m t a k = tk := ⟨_, rfl⟩
    have HTK := hid htk
    rw [htk] at hle ⊢
    clear htk
    by_cases hlt : k < a.length
    · obtain ⟨x, hx⟩ : ∃ x, a[k]? = some x := ⟨_, List.getElem?_eq_getElem hlt⟩
      have hsu := HSU.out k x hx
      rw [HTK.out] at hsu
      obtain ⟨bt, he, h46, hcell⟩ := HCE.out k x d hx
      obtain ⟨b, off, x', rfl, hb, hx', hcx⟩ := HI.out.at_ (k := k) (by rw [natI_length]; exact hlt)
      have hxe : x' = (x : Int) := by rw [natI_at hx] at hx'; exact (Option.some.inj hx').symm
      rw [hxe] at hcx
      have hcd : ∀ d', (w.drewN d').cell? ⟨b, off + k, none⟩ = some (.int .i64 (x : Int)) := fun _ => hcx
      have hc1 : 1 ≤ a.count x := List.count_pos_iff.2 (List.mem_of_getElem? hx)
      have hc2 := HC2.out x
      have HCELL := hid hcell
      have HCALL := hid (fun d => HOF.out x d)
      obtain ⟨cx, hcxx⟩ : ∃ cx, a.count x = cx := ⟨_, rfl⟩
      rw [hcxx] at HCALL hc1 hc2 hsu
      have HCD := hid hcd
      have hcd0 := hcd d
      cases hbt : (bt == 46) with
      | true =>
        rw [hbt] at h46 he
        rw [if_pos he] at hsu
        have HX := hid hsu
        clear hsu hx' hxe hb hcx hcell hcd hcxx hx he hbt
        go_wp2_with fail
        refine HCELL.out.mono ?_
        rintro e w1 ⟨rfl, d1, rfl⟩
        have hcd1 := HCD.out (d + d1)
        clear hcd0
        go_wp2_with fail
        refine (HCALL.out (d + d1)).mono ?_
        rintro e w2 ⟨rfl, d2, rfl⟩
        go_wp2_with fail
        go_roundw
        case rel => exact ⟨k + 1, by omega, by go_num, by rw [HX.out]; simp only [Value.int.injEq, true_and]; omega, d + d1 + d2, rfl⟩
        case measure => simp [intOf]; omega
      | false =>
        rw [hbt] at h46 he
        rw [if_neg (by rw [he]; decide), Nat.add_zero] at hsu
        have HX := hid hsu
        clear hsu hx' hxe hb hcx hcell hcd hcxx hx he hbt
        go_wp2_with fail
        refine HCELL.out.mono ?_
        rintro e w1 ⟨rfl, d1, rfl⟩
        clear hcd0
        go_wp2_with fail
        go_roundw
        case rel => exact ⟨k + 1, by omega, by go_num, by rw [HX.out]; rfl, d + d1, rfl⟩
        case measure => simp [intOf]; omega
    · obtain rfl : k = a.length := by omega
      obtain ⟨q, hq⟩ : ∃ q, tk / 2 = q := ⟨_, rfl⟩
      have hqi : ((tk : Nat) : Int) / 2 = (q : Int) := by omega
      have HQ2 := hid (show spareE m t a a.length / 2 = q by rw [HTK.out, hq])
      have HQ := hid hqi
      clear hq hqi
      go_wp2_with fail
      go_ret
      exact ⟨by rw [HQ2.out, ← HQ.out]; rfl, d, rfl⟩

set_option maxRecDepth 100000 in
set_option maxHeartbeats 2000000 in
theorem l5Both_any (A : Option Addr) (c B n m : Nat) (ss : List ByteArray) (A1 : Option Addr) (c1 B1 : Nat) (a : List Nat) (w : World) (h : Strs w B A ss) (hg : IsGrid n m ss) (hi : Ints w B1 A1 (natI a)) (A2 : Option Addr) (c2 B2 : Nat) (al : List Nat) (hi2 : Ints w B2 A2 (natI al)) (hlen2 : al.length ≤ 100) (ha : ∀ x ∈ a, x < n * m) (hlen : a.length ≤ 100) (hc2 : ∀ c, al.count c ≤ 2) :
    Calls Try.prog 49 #[.slice A ss.length c, .slice A1 a.length c1, .slice A2 al.length c2] w fun e w' => e = .returned (.int .i64 ((bothE m (lett m (pad (flat ss))) a al a.length : Nat) : Int)) ∧ ∃ d, w' = w.drewN d := by
  have HI := hid hi
  have HCE := hid (show ∀ (k x d : Nat), a[k]? = some x → ∃ bt : UInt8, emptyC m (lett m (pad (flat ss))) x = (bt == 46) ∧ ((bt.toNat : Int) == 46) = (bt == 46) ∧ Calls Try.prog 57 #[.slice A ss.length c, .int .i64 (x : Int)] (w.drewN d) fun e w' => e = .returned (.int .u8 bt.toNat) ∧ ∃ d', w' = (w.drewN d).drewN d' from fun k x d hk => by
    have hx := ha x (List.mem_of_getElem? hk)
    obtain ⟨bt, h1, h2, h3⟩ := flat_empty hg hx
    exact ⟨bt, h2, h3, l2Cell_any A c B n m x ss bt (w.drewN d) (h.drewN d) hg hx h1⟩)
  have HOF := hid (show ∀ x d : Nat, Calls Try.prog 42 #[.slice A2 al.length c2, .int .i64 (x : Int)] (w.drewN d) fun e w' => e = .returned (.int .i64 ((al.count x : Nat) : Int)) ∧ ∃ d', w' = (w.drewN d).drewN d' from fun x d => by
    have := l2Often_any A2 c2 B2 (natI al) (x : Int) (w.drewN d) (hi2.drewN d) (by rw [natI_length]; omega)
    rwa [natI_count, natI_length] at this)
  have HLE := hid (fun k => bothE_le m (lett m (pad (flat ss))) a al k hc2)
  have HSU := hid (fun k x hk => bothE_succ m (lett m (pad (flat ss))) a al k x hk)
  have HC2 := hid hc2
  clear h hg hi ha hc2 hi2 hlen2
  generalize lett m (pad (flat ss)) = t at *
  go_enter Try.func49, Try.ntmps49
  go_wp2_with fail
  go_loopw [7, 8] (fun (v iv : Value) (wr : World) => ∃ k : Nat, k ≤ a.length ∧ iv = .int .i64 k ∧ v = .int .i64 ((bothE m t a al k : Nat) : Int) ∧ ∃ d, wr = w.drewN d) (fun _ i _ => a.length - (intOf i).toNat)
  case atStart => exact ⟨0, by omega, rfl, rfl, 0, rfl⟩
  case round =>
    obtain ⟨k, hk, rfl, rfl, d, rfl⟩ := hrel
    have hle := HLE.out k
    obtain ⟨tk, htk⟩ : ∃ tk, bothE m t a al k = tk := ⟨_, rfl⟩
    have HTK := hid htk
    rw [htk] at hle ⊢
    clear htk
    by_cases hlt : k < a.length
    · obtain ⟨x, hx⟩ : ∃ x, a[k]? = some x := ⟨_, List.getElem?_eq_getElem hlt⟩
      have hsu := HSU.out k x hx
      rw [HTK.out] at hsu
      obtain ⟨bt, he, h46, hcell⟩ := HCE.out k x d hx
      obtain ⟨b, off, x', rfl, hb, hx', hcx⟩ := HI.out.at_ (k := k) (by rw [natI_length]; exact hlt)
      have hxe : x' = (x : Int) := by rw [natI_at hx] at hx'; exact (Option.some.inj hx').symm
      rw [hxe] at hcx
      have hcd : ∀ d', (w.drewN d').cell? ⟨b, off + k, none⟩ = some (.int .i64 (x : Int)) := fun _ => hcx
      have hc2 := HC2.out x
      have HCELL := hid hcell
      have HCALL := hid (fun d => HOF.out x d)
      obtain ⟨cx, hcxx⟩ : ∃ cx, al.count x = cx := ⟨_, rfl⟩
      rw [hcxx] at HCALL hc2 hsu
      have HCD := hid hcd
      have hcd0 := hcd d
      cases hbt : (bt == 46) with
      | true =>
        rw [hbt] at h46 he
        rw [if_pos he] at hsu
        have HX := hid hsu
        clear hsu hx' hxe hb hcx hcell hcd hcxx hx he hbt
        go_wp2_with fail
        refine HCELL.out.mono ?_
        rintro e w1 ⟨rfl, d1, rfl⟩
        have hcd1 := HCD.out (d + d1)
        clear hcd0
        go_wp2_with fail
        refine (HCALL.out (d + d1)).mono ?_
        rintro e w2 ⟨rfl, d2, rfl⟩
        go_wp2_with fail
        go_roundw
        case rel => exact ⟨k + 1, by omega, by go_num, by rw [HX.out]; simp only [Value.int.injEq, true_and]; omega, d + d1 + d2, rfl⟩
        case measure => simp [intOf]; omega
      | false =>
        rw [hbt] at h46 he
        rw [if_neg (by rw [he]; decide), Nat.add_zero] at hsu
        have HX := hid hsu
        clear hsu hx' hxe hb hcx hcell hcd hcxx hx he hbt
        go_wp2_with fail
        refine HCELL.out.mono ?_
        rintro e w1 ⟨rfl, d1, rfl⟩
        clear hcd0
        go_wp2_with fail
        go_roundw
        case rel => exact ⟨k + 1, by omega, by go_num, by rw [HX.out]; rfl, d + d1, rfl⟩
        case measure => simp [intOf]; omega
    · obtain rfl : k = a.length := by omega
      go_wp2_with fail
      go_ret
      exact ⟨by rw [HTK.out]; rfl, d, rfl⟩

set_option maxRecDepth 100000 in
set_option maxHeartbeats 2000000 in
theorem specCrossSelf_any (A : Option Addr) (c B : Nat) (ss : List ByteArray) (p : Int) (w : World) (h : Strs w B A ss) (hB : B ≤ w.heap.size) (hn : ss.length ≤ 1048576) (hs : ∀ s ∈ ss, s.size ≤ 1048576) :
    Calls Try.prog 22 #[.slice A ss.length c, .int .i64 p] w fun e w' => Below w.heap.size w w' ∧ ∃ x ok, e = .returned (.tuple #[.int .i64 x, .bool ok]) ∧ BeamOut selfR ss p x ok := by
  have HI := hid (l2Given_any A c B ss p w h hn hs)
  have HD := hid h
  clear h hs
  go_enter Try.func22, Try.ntmps22
  go_wp2_with fail
  refine HI.out.mono ?_
  rintro e w' ⟨ok, rfl, hok, d, rfl⟩
  have HBd := hid (below_drewN' (Below.refl w.heap.size w) d)
  rcases hok with ⟨rfl, n, m, q, hq⟩ | ⟨rfl, hno⟩
  · obtain rfl := hq.2.1
    have hg := hq.1
    have c1 := hid (l2Way_port A c B n m q ss (w.drewN d) (HD.out.drewN d) hB hg hq.2.2)
    rw [cellsI_nat] at c1
    have hL100 : blen n m (lett m (pad (flat ss))) q ≤ 100 := by
      have h1 := blen_lt (t := lett m (pad (flat ss))) hq.2.2
      have h2 := hg.le25
      omega
    have HLB := hid (bcells_length n m (lett m (pad (flat ss))) q)
    have HSE := hid (fun A1 c1 w' (hb : Below w.heap.size w w') (hi : Ints w' w'.heap.size A1 (natI (bcells n m (lett m (pad (flat ss))) q))) => l5Self_any A c B n m ss A1 c1 w'.heap.size (bcells n m (lett m (pad (flat ss))) q) w' (HD.out.below hb hB) hg hi bcells_lt (by rw [HLB.out]; exact hL100) (fun c => count_le2 (n := n) (m := m) (c := c) hq.2.2 hg.2.2.2.1))
    have HALL := hid (spareE_all (n := n) (m := m) (t := lett m (pad (flat ss))) (p := q) hq.2.2 hg.2.2.2.1)
    have HR := hid (show (((spareE m (lett m (pad (flat ss))) (bcells n m (lett m (pad (flat ss))) q) (bcells n m (lett m (pad (flat ss))) q).length / 2 : Nat) : Int), true) = selfR n m (lett m (pad (flat ss))) q by
      rw [HLB.out, HALL.out]
      unfold selfR
      rw [Nat.mul_div_cancel_left _ (by decide)])
    have HQ := hid hq
    clear hq hg
    generalize bcells n m (lett m (pad (flat ss))) q = bc at *
    go_wp2_with fail
    refine c1.out.mono ?_
    rintro e w1 ⟨v, v', rfl, hv, _, hb1⟩
    obtain ⟨A1, cc, rfl, hint⟩ := hv.ints
    rw [natI_length]
    have HB1 := hid (HBd.out.trans hb1)
    have HC := hid (HSE.out A1 cc w1 HB1.out hint)
    clear hb1 hv hint
    go_wp2_with fail
    refine HC.out.mono ?_
    rintro e w2 ⟨rfl, d2, rfl⟩
    go_wp2_with fail
    refine bodyPost_ret (results_tmp2 rfl _ _ _) rfl ?_
    exact ⟨below_drewN' HB1.out d2, _, true, rfl, .inl ⟨n, m, q, HQ.out, HR.out⟩⟩
  · have HNo := hid hno
    clear hno
    go_wp2_with fail
    refine bodyPost_ret (results_tmp2 rfl _ _ _) rfl ?_
    exact ⟨HBd.out, 0, false, rfl, .inr ⟨HNo.out, rfl, rfl⟩⟩
end Go.Proofs.Ytagnecclhmbofaa
