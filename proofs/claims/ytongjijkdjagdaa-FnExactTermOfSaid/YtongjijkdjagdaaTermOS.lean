/- TermOf of the specification: a row's text, a grid's text. -/
import Derived.Test.YtongjijkdjagdaaTermOG
import Derived.Test.YtongjijkdjagdaaBunA
namespace Go.Proofs.Ytongjijkdjagdaa
open Go.RowKit

theorem strB_take1 (c : UInt8) (l : List UInt8) : (strB (c :: l)).extract 0 1 = strB [c] := by
  apply ByteArray.ext
  simp [strB, ByteArray.data_extract]
theorem strB_drop1 (c : UInt8) (l : List UInt8) : (strB (c :: l)).extract 1 (l.length + 1) = strB l := by
  apply ByteArray.ext
  simp [strB, ByteArray.data_extract]
def TextIs (t : List UInt8) (w : World) (e : Ending) (w' : World) : Prop := e = .returned (.string (strB t)) ∧ Below w.heap.size w w'
/-- What the operations hand back that write a row. -/
def rowSRel (c d : UInt8) (l T : List UInt8) (i : Nat) (v : Value) (_ : World) : Prop :=
  match i with
  | 0 => v = .string (strB (c :: d :: l))
  | 1 => v = .string (strB [c])
  | 2 => v = .string (strB [40, c])
  | 3 => v = .string (strB [40, c, 124])
  | 4 => v = .string (strB (c :: d :: l))
  | 5 => v = .string (strB (d :: l))
  | 6 => v = .string (strB T)
  | 7 => v = .string (strB ([40, c, 124] ++ T))
  | 8 => v = .string (strB ([40, c, 124] ++ T ++ [41]))
  | 9 => v = .string (strB ([40, c, 124] ++ T ++ [41]))
  | _ => True
set_option maxRecDepth 100000 in
set_option maxHeartbeats 4000000 in
theorem l11Row_one (c : UInt8) (w : World) : Calls Try.prog 29 #[.string (strB [c])] w (TextIs [c] w) := by
  have hsz : (strB [c]).size = 1 := rfl
  go_enter Try.func29, Try.ntmps29
  go_wp2_with fail
  go_ret
  exact ⟨rfl, Below.refl _ _⟩
set_option maxRecDepth 100000 in
set_option maxHeartbeats 4000000 in
theorem l11Row_more (c d : UInt8) (l T : List UInt8) (w : World) (hl : l.length ≤ 100) (hT : T.length ≤ 1000) (ih : ∀ W, Calls Try.prog 29 #[.string (strB (d :: l))] W (TextIs T W)) :
    Calls Try.prog 29 #[.string (strB (c :: d :: l))] w (TextIs ([40, c, 124] ++ T ++ [41]) w) := by
  have IH := hid ih
  have hsz : (strB (c :: d :: l)).size = l.length + 1 + 1 := by rw [strB_size]; rfl
  have hli : (l.length : Int) ≤ 100 := by omega
  have hl0 : 0 ≤ (l.length : Int) := by omega
  clear ih
  unfold TextIs at *
  go_enter Try.func29, Try.ntmps29
  have hge : (1 : Int) ≤ (l.length : Int) + 1 + 1 := by omega
  have hne : ((l.length : Int) + 1 + 1 == 1) = false := by rw [beq_eq_false_iff_ne]; omega
  go_wp2_with fail
  refine wp_region_rel (by kernel_rfl) (by kernel_rfl) 10 (by kernel_rfl) (fun us => { tmps := #[.string (strB (c :: d :: l)), undef, us 9, .string (strB (c :: d :: l)), .int .i64 ((l.length : Int) + 1 + 1), .bool false, undef, us 0, us 1, us 2, us 3, us 4, us 5, us 6, us 7, us 8], defers := [] }) (fun i => if i = 9 then .string ⟨#[]⟩ else undef) rfl (rowSRel c d l T) (fun i v W W' h _ => h) (fun i us v hi => ?_) (fun i us W hi hb hd => ?_) (fun us W hb hr => ?_)
  · match i, hi with
    | 0, _ => rfl
    | 1, _ => rfl
    | 2, _ => rfl
    | 3, _ => rfl
    | 4, _ => rfl
    | 5, _ => rfl
    | 6, _ => rfl
    | 7, _ => rfl
    | 8, _ => rfl
    | 9, _ => rfl
  · match i, hi with
    | 0, _ => exact wpOp_val rfl rfl (by go_simp) rfl
    | 1, _ =>
      have h0 : us 0 = _ := hd _ rfl { on := 0, ground := .data } (by simp) rfl
      rw [h0]
      exact wpOp_val (u := .string ((strB (c :: d :: l)).extract 0 1)) rfl rfl (by go_simp) (show Value.string _ = _ by rw [strB_take1])
    | 2, _ =>
      have h1 : us 1 = _ := hd _ rfl { on := 1, ground := .data } (by simp) rfl
      rw [h1]
      exact wpOp_val rfl rfl (add_str _ _ rfl [40] [c] rfl rfl (by simp)) rfl
    | 3, _ =>
      have h2 : us 2 = _ := hd _ rfl { on := 2, ground := .data } (by simp) rfl
      rw [h2]
      exact wpOp_val rfl rfl (add_str _ _ rfl [40, c] [124] rfl rfl (by simp)) rfl
    | 4, _ => exact wpOp_val rfl rfl (by go_simp) rfl
    | 5, _ =>
      have h4 : us 4 = _ := hd _ rfl { on := 4, ground := .data } (by simp) rfl
      rw [h4]
      exact wpOp_val (u := .string ((strB (c :: d :: l)).extract 1 (l.length + 1 + 1))) rfl rfl (by go_simp) (show Value.string _ = _ from congrArg Value.string (strB_drop1 c (d :: l)))
    | 6, _ =>
      have h5 : us 5 = _ := hd _ rfl { on := 5, ground := .data } (by simp) rfl
      rw [h5]
      exact wpOp_call rfl rfl (by go_simp) ((IH.out W).mono fun e w'' ⟨he, hb'⟩ => ⟨_, he, rfl, hb'⟩)
    | 7, _ =>
      have h3 : us 3 = _ := hd _ rfl { on := 3, ground := .data } (by simp) rfl
      have h6 : us 6 = _ := hd _ rfl { on := 6, ground := .data } (by simp) rfl
      rw [h3, h6]
      exact wpOp_val rfl rfl (add_str _ _ rfl [40, c, 124] T rfl rfl (by simp; omega)) rfl
    | 8, _ =>
      have h7 : us 7 = _ := hd _ rfl { on := 7, ground := .data } (by simp) rfl
      rw [h7]
      exact wpOp_val rfl rfl (add_str _ _ rfl ([40, c, 124] ++ T) [41] rfl rfl (by simp; omega)) rfl
    | 9, _ =>
      have h8 : us 8 = _ := hd _ rfl { on := 8, ground := .data } (by simp) rfl
      rw [h8]
      exact wpOp_val rfl rfl (by go_simp) rfl
  · have h9 : us 9 = _ := hr 9 (by omega)
    rw [h9]
    have HB2 := hid hb
    clear hb hr h9
    go_wp2_with fail
    go_ret
    exact ⟨rfl, HB2.out⟩
/-- The text of a row. -/
theorem l11Row_any : ∀ (l : List UInt8) (w : World), 1 ≤ l.length → l.length ≤ 5 → Calls Try.prog 29 #[.string (strB l)] w (TextIs (rowTm l).text w)
  | [], w, h, _ => by simp at h
  | [c], w, _, _ => l11Row_one c w
  | c :: d :: l, w, _, h5 => by
    have h1 : l.length + 1 + 1 ≤ 5 := h5
    have ht := rowTm_len (d :: l) (by simp)
    have h := l11Row_more c d l (rowTm (d :: l)).text w (by omega) (by rw [ht]; simp; omega) (fun W => l11Row_any (d :: l) W (by simp) (by simp; omega))
    have e : (rowTm (c :: d :: l)).text = [40, c, 124] ++ (rowTm (d :: l)).text ++ [41] := by
      show 40 :: ((Tm.lone c).text ++ 124 :: ((rowTm (d :: l)).text ++ [41])) = _
      simp [Tm.text]
    rw [e]
    exact h
/-- What the operations hand back that write rows. -/
def writeRel (b off N cap : Nat) (r : ByteArray) (R T : List UInt8) (i : Nat) (v : Value) (_ : World) : Prop :=
  match i with
  | 0 => v = .slice (some ⟨b, off, none⟩) N cap
  | 1 => v = .pointer (some ⟨b, off, none⟩)
  | 2 => v = .string r
  | 3 => v = .string (strB R)
  | 4 => v = .string (strB (40 :: R))
  | 5 => v = .string (strB (40 :: R ++ [45]))
  | 6 => v = .slice (some ⟨b, off, none⟩) N cap
  | 7 => v = .slice (some ⟨b, off + 1, none⟩) (N - 1) (cap - 1)
  | 8 => v = .string (strB T)
  | 9 => v = .string (strB (40 :: R ++ [45] ++ T))
  | 10 => v = .string (strB (40 :: R ++ [45] ++ T ++ [41]))
  | 11 => v = .string (strB (40 :: R ++ [45] ++ T ++ [41]))
  | _ => True
set_option maxRecDepth 100000 in
set_option maxHeartbeats 4000000 in
theorem l11Write_one (b off cap : Nat) (r : ByteArray) (w : World) (hc : w.cell? ⟨b, off, none⟩ = some (.string r)) (hr1 : 1 ≤ r.size) (hr5 : r.size ≤ 5) :
    Calls Try.prog 16 #[.slice (some ⟨b, off, none⟩) 1 cap] w (TextIs (gridTm [r]).text w) := by
  have HR := hid (show ∀ W, Calls Try.prog 29 #[.string r] W (TextIs (rowTm r.data.toList).text W) from fun W => by
    have := l11Row_any r.data.toList W (by show 1 ≤ r.size; exact hr1) (by show r.size ≤ 5; exact hr5)
    rw [show strB r.data.toList = r from one_row r] at this
    exact this)
  clear hr1 hr5
  unfold TextIs at *
  go_enter Try.func16, Try.ntmps16
  go_wp2_with fail
  refine (HR.out _).mono ?_
  rintro e w1 ⟨rfl, hb⟩
  have HB := hid hb
  clear hb
  go_wp2_with fail
  go_ret
  exact ⟨rfl, HB.out⟩
set_option maxRecDepth 100000 in
set_option maxHeartbeats 4000000 in
theorem l11Write_more (b off N cap : Nat) (r : ByteArray) (R T : List UInt8) (w : World) (hN : 2 ≤ N) (hN5 : N ≤ 5) (hcap : N ≤ cap) (hc : ∀ W, Below w.heap.size w W → W.cell? ⟨b, off, none⟩ = some (.string r)) (hRl : R.length ≤ 1000) (hT : T.length ≤ 1000)
    (hr : ∀ W, Calls Try.prog 29 #[.string r] W (TextIs R W))
    (ih : ∀ W, Below w.heap.size w W → Calls Try.prog 16 #[.slice (some ⟨b, off + 1, none⟩) (N - 1) (cap - 1)] W (TextIs T W)) :
    Calls Try.prog 16 #[.slice (some ⟨b, off, none⟩) N cap] w (TextIs (40 :: R ++ [45] ++ T ++ [41]) w) := by
  have HR := hid hr
  have IH := hid ih
  have HC := hid hc
  have hNi : 2 ≤ (N : Int) := by omega
  have hNi5 : (N : Int) ≤ 5 := by omega
  have hne : ((N : Int) == 1) = false := by rw [beq_eq_false_iff_ne]; omega
  have hN0 : 0 < N := by omega
  have hN1 : 1 ≤ N := by omega
  have hge : (1 : Int) ≤ (N : Int) := by omega
  have hcn : ¬ cap = 1 := by omega
  have hca1 : 1 ≤ cap := by omega
  clear hr ih hc
  unfold TextIs at *
  go_enter Try.func16, Try.ntmps16
  go_wp2_with fail
  have HBB := hid (Nat.le_refl w.heap.size)
  refine wp_region_rel (by kernel_rfl) (by kernel_rfl) 12 (by kernel_rfl) (fun us => { tmps := #[.slice (some ⟨b, off, none⟩) N cap, undef, us 11, .slice (some ⟨b, off, none⟩) N cap, .int .i64 (N : Int), .bool false, undef, undef, undef, undef, us 0, us 1, us 2, us 3, us 4, us 5, us 6, us 7, us 8, us 9, us 10], defers := [] }) (fun i => if i = 11 then .string ⟨#[]⟩ else undef) rfl (writeRel b off N cap r R T) (fun i v W W' h _ => h) (fun i us v hi => ?_) (fun i us W hi hb hd => ?_) (fun us W hb hr => ?_)
  · match i, hi with
    | 0, _ => rfl
    | 1, _ => rfl
    | 2, _ => rfl
    | 3, _ => rfl
    | 4, _ => rfl
    | 5, _ => rfl
    | 6, _ => rfl
    | 7, _ => rfl
    | 8, _ => rfl
    | 9, _ => rfl
    | 10, _ => rfl
    | 11, _ => rfl
  · have LC := hid (HC.out W hb)
    match i, hi with
    | 0, _ => exact wpOp_val rfl rfl (by go_simp) rfl
    | 1, _ =>
      have h0 : us 0 = _ := hd _ rfl { on := 0, ground := .data } (by simp) rfl
      rw [h0]
      exact wpOp_val rfl rfl (by go_simp) rfl
    | 2, _ =>
      have h1 : us 1 = _ := hd _ rfl { on := 1, ground := .data } (by simp) rfl
      rw [h1]
      have hc : W.cell? ⟨b, off, none⟩ = some (.string r) := by exact LC.out
      exact wpOp_val rfl rfl (by go_simp) rfl
    | 3, _ =>
      have h2 : us 2 = _ := hd _ rfl { on := 2, ground := .data } (by simp) rfl
      rw [h2]
      exact wpOp_call rfl rfl (by go_simp) ((HR.out W).mono fun e w'' ⟨he, hb'⟩ => ⟨_, he, rfl, hb'⟩)
    | 4, _ =>
      have h3 : us 3 = _ := hd _ rfl { on := 3, ground := .data } (by simp) rfl
      rw [h3]
      exact wpOp_val rfl rfl (add_str _ _ rfl [40] R rfl rfl (by simp; omega)) rfl
    | 5, _ =>
      have h4 : us 4 = _ := hd _ rfl { on := 4, ground := .data } (by simp) rfl
      rw [h4]
      exact wpOp_val rfl rfl (add_str _ _ rfl (40 :: R) [45] rfl rfl (by simp; omega)) rfl
    | 6, _ => exact wpOp_val rfl rfl (by go_simp) rfl
    | 7, _ =>
      have h6 : us 6 = _ := hd _ rfl { on := 6, ground := .data } (by simp) rfl
      rw [h6]
      exact wpOp_val rfl rfl (by go_simp) rfl
    | 8, _ =>
      have h7 : us 7 = _ := hd _ rfl { on := 7, ground := .data } (by simp) rfl
      rw [h7]
      exact wpOp_call rfl rfl (by go_simp) ((IH.out W (hb.mono HBB.out)).mono fun e w'' ⟨he, hb'⟩ => ⟨_, he, rfl, hb'⟩)
    | 9, _ =>
      have h5 : us 5 = _ := hd _ rfl { on := 5, ground := .data } (by simp) rfl
      have h8 : us 8 = _ := hd _ rfl { on := 8, ground := .data } (by simp) rfl
      rw [h5, h8]
      exact wpOp_val rfl rfl (add_str _ _ rfl (40 :: R ++ [45]) T rfl rfl (by simp; omega)) rfl
    | 10, _ =>
      have h9 : us 9 = _ := hd _ rfl { on := 9, ground := .data } (by simp) rfl
      rw [h9]
      exact wpOp_val rfl rfl (add_str _ _ rfl (40 :: R ++ [45] ++ T) [41] rfl rfl (by simp; omega)) rfl
    | 11, _ =>
      have h10 : us 10 = _ := hd _ rfl { on := 10, ground := .data } (by simp) rfl
      rw [h10]
      exact wpOp_val rfl rfl (by go_simp) rfl
  · have h9 : us 11 = _ := hr 11 (by omega)
    rw [h9]
    have HB2 := hid hb
    clear hb hr h9
    go_wp2_with fail
    go_ret
    exact ⟨rfl, HB2.out⟩
theorem cells_kept {w W : World} {b k : Nat} (hb : Below w.heap.size w W) (h : b < w.heap.size) : W.cell? ⟨b, k, none⟩ = w.cell? ⟨b, k, none⟩ := by
  unfold World.cell?
  rw [hb.block b h]
/-- The text of a grid. -/
theorem l11Write_any (b : Nat) : ∀ (ss : List ByteArray) (n m off cap : Nat) (w : World), IsGrid n m ss → b < w.heap.size → ss.length ≤ cap → (∀ k s, ss[k]? = some s → w.cell? ⟨b, off + k, none⟩ = some (.string s)) →
    Calls Try.prog 16 #[.slice (some ⟨b, off, none⟩) ss.length cap] w (TextIs (gridTm ss).text w)
  | [], n, m, off, cap, w, h, _, _, _ => by
    have h1 := h.1
    have h2 := h.2.1
    simp at h1
    omega
  | [r], n, m, off, cap, w, h, _, _, hc => by
    have h1 := row_len h
    have hm := h.2.2.2.1
    have hm5 := h.2.2.2.2.1
    exact l11Write_one b off cap r w (hc 0 r rfl) (by show 1 ≤ r.data.toList.length; omega) (by show r.data.toList.length ≤ 5; omega)
  | r :: s :: l, n, m, off, cap, w, h, hb, hcap, hc => by
    have h1 : l.length + 1 + 1 = n := h.1
    have hn5 := h.2.2.1
    have hm := h.2.2.2.1
    have hm5 := h.2.2.2.2.1
    have hr := row_len h
    have hrest := rows_rest h (by omega)
    have hcap' : l.length + 1 + 1 ≤ cap := hcap
    have e2 := rowTm_len r.data.toList (by omega)
    have e3 := hrest.termLen
    have hR := fun W => l11Row_any r.data.toList W (by omega) (by omega)
    rw [show strB r.data.toList = r from one_row r] at hR
    have := l11Write_more b off (l.length + 1 + 1) cap r (rowTm r.data.toList).text (gridTm (s :: l)).text w (by omega) (by omega) (by omega) (fun W hW => by rw [cells_kept hW hb]; exact hc 0 r rfl) (by omega) (by omega) hR
      (fun W hW => l11Write_any b (s :: l) (n - 1) m (off + 1) (cap - 1) W hrest (Nat.lt_of_lt_of_le hb hW.size) (by simp; omega) (fun k x hk => by
        rw [cells_kept hW hb, show off + 1 + k = off + (k + 1) by omega]
        exact hc (k + 1) x (by simpa using hk)))
    have e : (gridTm (r :: s :: l)).text = 40 :: (rowTm r.data.toList).text ++ [45] ++ (gridTm (s :: l)).text ++ [41] := by
      show 40 :: ((rowTm r.data.toList).text ++ 45 :: ((gridTm (s :: l)).text ++ [41])) = _
      simp
    rw [e]
    exact this
set_option maxRecDepth 100000 in
set_option maxHeartbeats 2000000 in
theorem specTermOf_any (A : Option Addr) (c B : Nat) (ss : List ByteArray) (w : World) (h : Strs w B A ss) (hB : B ≤ w.heap.size) (hcap : ss.length ≤ c) (hn : ss.length ≤ 1048576) (hs : ∀ s ∈ ss, s.size ≤ 1048576) :
    Calls Try.prog 7 #[.slice A ss.length c] w fun e w' => Below w.heap.size w w' ∧ ∃ t ok, e = .returned (.tuple #[.string (strB t), .bool ok]) ∧ TermOfOut ss t ok := by
  have HI := hid (specGridIn_any A c B ss w h hn hs)
  have HD := hid h
  have HCAP := hid hcap
  clear h hs hcap
  go_enter Try.func7, Try.ntmps7
  go_wp2_with fail
  refine HI.out.mono ?_
  rintro e w' ⟨ok, rfl, hok, d, rfl⟩
  have HO := hid hok
  clear hok
  have HBd := hid (below_drewN' (Below.refl w.heap.size w) d)
  cases ok with
  | false =>
    go_wp2_with fail
    refine bodyPost_ret (results_tmp2 rfl _ _ _) rfl ?_
    exact ⟨HBd.out, [], false, rfl, .inr ⟨fun n m hg => (by have := HO.out.2 ⟨n, m, hg⟩; cases this), rfl, rfl⟩⟩
  | true =>
    obtain ⟨n, m, hg⟩ := HO.out.1 rfl
    have HG := hid hg
    have h97 := hg.termLen
    obtain ⟨b, off, rfl, hbB, hcell⟩ := HD.out (by rw [hg.1]; exact hg.2.1)
    have HW := hid (l11Write_any b ss n m off c (w.drewN d) hg (Nat.lt_of_lt_of_le hbB (by simpa using hB)) HCAP.out hcell)
    have hsz : ((strB (gridTm ss).text).size : Int) = ((gridTm ss).text.length : Int) := by rw [strB_size]
    obtain ⟨k, hk⟩ : ∃ k, (gridTm ss).text.length = k := ⟨_, rfl⟩
    have HK := hid hk
    rw [hk] at hsz h97
    clear hg hk hcell
    go_wp2_with fail
    refine HW.out.mono ?_
    rintro e w3 ⟨rfl, hb3⟩
    have HB3 := hid (HBd.out.trans (hb3.mono HBd.out.size))
    clear hb3
    by_cases h60 : k ≤ 60
    · have hki : (k : Int) ≤ 60 := by omega
      go_wp2_with fail
      refine bodyPost_ret (results_tmp2 rfl _ _ _) rfl ?_
      exact ⟨HB3.out, (gridTm ss).text, true, rfl, .inl ⟨n, m, HG.out, by rw [HK.out]; exact h60, rfl, rfl⟩⟩
    · have hki : 60 < (k : Int) := by omega
      go_wp2_with fail
      refine bodyPost_ret (results_tmp2 rfl _ _ _) rfl ?_
      exact ⟨HB3.out, [], false, rfl, .inr ⟨fun _ _ _ => by rw [HK.out]; omega, rfl, rfl⟩⟩
end Go.Proofs.Ytongjijkdjagdaa
