/-
  Contract: a member is made. Contract: a member is made.
-/
import Derived.Test.YticcoacoepajpaaPK24
namespace Go.Proofs.Yticcoacoepajpaa.V
open Go Go.RowKit
set_option linter.unusedVariables false
set_option linter.unusedSimpArgs false

set_option maxRecDepth 20000 in
set_option maxHeartbeats 4000000 in
theorem new_apart (d n me : Nat) (x : Sl) (xs : List Int) (w : World) (hx : Ints w x.a x.n xs) (hd4 : d = 4) (h1 : 1 ≤ d) (h4 : d ≤ 4) (hn : 1 ≤ n) (h16 : n ≤ 16) (hme : me < n) (h6 : x.n ≤ 65536) (hev : d = 4 → x.n % n = 0) :
    Calls Try.prog 16 #[.int .i64 (d : Int), .int .i64 (n : Int), .int .i64 (me : Int), .slice x.a x.n x.c] w fun e w' => NewOk w d n me xs e w' := by
  have hk := kindOf_any d w h1 h4
  unfold kindL fv at hk
  have hbg : begF d = 57 := by unfold begF; rw [if_pos hd4]
  have hb4 : decide (d = 4) = true := by simp; omega
  have hb4' : decide (d ≠ 4) = false := by simp; omega
  rw [hbg, hb4, hb4'] at hk
  have HB4 := hide hb4
  have HB4' := hide hb4'
  have HK := hide hk
  have HBG := hide hbg
  have HX0 : Hid (∀ V, Below w.heap.size w V → Ints V x.a x.n xs) := fun V hV => hx.below hV
  have q8 : ∀ X : Bool, (decide (d = 4) && X) = true → d = 4 := fun X h => by simp at h; exact h.1
  have HEV := hide hev
  have HDD : Hid (d = 4 → ((x.n : Int) % (n : Int) = 0)) := fun e => by have := hev e; omega
  have n0 : ¬ (n : Int) = 0 := by omega
  have n1 : ((n : Int) == 0) = false := by simp; omega
  have n2 : ¬ n = 0 := by omega
  have c1 : ¬ (n : Int) < 1 := by omega
  have c2 : ¬ 16 < (n : Int) := by omega
  have c3 : ¬ (me : Int) < 0 := by omega
  have c4 : ¬ (n : Int) ≤ (me : Int) := by omega
  have c5 : ¬ 65536 < (x.n : Int) := by omega
  have emod : d = 4 → x.n % n = 0 := hev
  clear hk hx hbg hev q8 hb4 hb4'
  have HD4 := hide hd4
  have hm0 : (x.n : Int) % (n : Int) = 0 := HDD.out hd4
  clear hd4
  go_enter Try.func16, Try.ntmps16
  go_upto_region 10 with (go_at_call 30; refine HK.out.mono ?_; rintro e w1 ⟨⟨ra, rfl, hra, hrd⟩, hb⟩; have HB := hide hb; have HRD := hide hrd; clear hb hrd)
  obtain ⟨V2, hV2⟩ : ∃ V, V = w1.alloc (.cells #[.bool true, .bool false, .func (.func 57) #[] #[], .slice (some ⟨ra, 0, none⟩) (rdN d) (rdN d), .func (.func (fitF d)) #[] #[], .func (.func (plcF d)) #[] #[], .func (.func (resF d)) #[] #[]] 76) := ⟨_, rfl⟩
  rw [show w1.alloc _ = V2 from hV2.symm]
  have hb2 : Below w.heap.size w V2 := by rw [hV2]; exact HB.out.alloc HB.out.size _
  have hkb : V2.heap[w1.heap.size]? = some (.cells #[.bool true, .bool false, .func (.func 57) #[] #[], .slice (some ⟨ra, 0, none⟩) (rdN d) (rdN d), .func (.func (fitF d)) #[] #[], .func (.func (plcF d)) #[] #[], .func (.func (resF d)) #[] #[]] 76 (0, 0)) := by rw [hV2]; exact World.alloc_heap_new _ _
  have k2 : V2.cell? ⟨w1.heap.size, 2, none⟩ = some (.func (.func 57) #[] #[]) := by simp only [World.cell?, hkb]; rfl
  have hrd2 : RdAt V2 d ra := by
    obtain ⟨cur, h7, h8⟩ := HRD.out
    refine ⟨cur, ?_, h8⟩
    rw [hV2]
    exact ((bl_new (w := w1) _).block _ (Array.getElem?_eq_some_iff.1 h7).1).trans h7
  have HB2 := hide hb2
  have HKB := hide hkb
  have HRD2 := hide hrd2
  have HX : Hid (∀ V, Below V2.heap.size V2 V → Ints V x.a x.n xs) := fun V hV => HX0.out V (bl_on HB2.out hV)
  clear hb2 hkb hrd2 hV2 emod
  refine region_made 8 9 [fIs (.pointer (some ⟨w1.heap.size, 2, none⟩)), fIs (.func (.func 57) #[] #[]), fIs (.slice x.a x.n x.c), fNum w.heap.size x.n xs, fIs (.int .i64 (n : Int)), fIs (.int .i64 (me : Int)), fStk w.heap.size d n me xs, fNew2 V2.heap.size] (by kernel_rfl) (by kernel_rfl) (by kernel_rfl) (fun _ ⟨_, _⟩ ⟨_, _⟩ _ e h => by cases e; exact h) ⟨fIs_good _, fIs_good _, fIs_good _, fNum_good _ _ _, fIs_good _, fIs_good _, fStk_good _ _ _ _ _, fNew2_good _, trivial⟩ ?mk ?rest
  case mk =>
    refine ⟨fun u wz hb hd => ?_, fun u wz hb hd => ?_, fun u wz hb hd => ?_, fun u wz hb hd => ?_, fun u wz hb hd => ?_, fun u wz hb hd => ?_, fun u wz hb hd => ?_, fun u wz hb hd => ?_, trivial⟩
    all_goals simp only [Act.put, List.setIfInBounds_toArray, List.set_cons_zero, List.set_cons_succ]
    · go_simp
      exact ⟨rfl, Below.refl _ _, fun h => by cases h⟩
    · have e0 : u 0 = .pointer (some ⟨w1.heap.size, 2, none⟩) := hd 0 (by omega) (by kernel_rfl)
      rw [e0]
      have k2' := (hb.cell (p := ⟨w1.heap.size, 2, none⟩) (lt_of_cell k2)).trans k2
      go_simp
      exact ⟨rfl, Below.refl _ _, fun h => by cases h⟩
    · go_simp
      exact ⟨rfl, Below.refl _ _, fun h => by cases h⟩
    · have e2 : u 2 = .slice x.a x.n x.c := hd 2 (by omega) (by kernel_rfl)
      rw [e2]
      go_simp
      refine (fresh_ints x xs wz (HX.out wz hb) h6).mono ?_
      rintro e w4 ⟨⟨g4, rfl, hn4, hg4, hl4⟩, hb4⟩
      have hsz := hb.size
      have hsz1 := HB2.out.size
      exact ⟨⟨g4, rfl, hn4, by omega, hl4⟩, hb4, fun h => by cases h⟩
    · go_simp
      exact ⟨rfl, Below.refl _ _, fun h => by cases h⟩
    · go_simp
      exact ⟨rfl, Below.refl _ _, fun h => by cases h⟩
    · have e1 : u 1 = .func (.func 57) #[] #[] := hd 1 (by omega) (by kernel_rfl)
      have e4 : u 4 = .int .i64 (n : Int) := hd 4 (by omega) (by kernel_rfl)
      have e5 : u 5 = .int .i64 (me : Int) := hd 5 (by omega) (by kernel_rfl)
      obtain ⟨g3, e3, n3, l3, m3⟩ := hd 3 (by omega) (by kernel_rfl)
      rw [e1, e4, e5, e3]
      go_simp
      have hsz := hb.size
      have hsz1 := HB2.out.size
      refine (apart_any g3 x.n n me wz hn h16 h6 hme).mono ?_
      rintro e w4 ⟨⟨h, h', rfl, hl, hl', hz, hz', hne⟩, hb4⟩
      exact ⟨⟨h, h', _, _, rfl, by rw [HD4.out]; exact stock_apart hn hme hl hl' hne (n3.below hb4) (by omega) (Nat.lt_of_lt_of_le m3 hb4.size) (by omega) (by omega)⟩, hb4, fun h => by cases h⟩
    · go_simp
      have hsz := hb.size
      exact ⟨⟨_, rfl, World.alloc_heap_new _ _, hsz⟩, bl_new _, fun h => by cases h⟩
  case rest =>
    intro u wz hb hf hp
    have f0 : u 0 = .pointer (some ⟨w1.heap.size, 2, none⟩) := hf 0 (by omega)
    have f1 : u 1 = .func (.func 57) #[] #[] := hf 1 (by omega)
    have f2 : u 2 = .slice x.a x.n x.c := hf 2 (by omega)
    obtain ⟨g3, f3, n3, l3, m3⟩ := hf 3 (by omega)
    have f4 : u 4 = .int .i64 (n : Int) := hf 4 (by omega)
    have f5 : u 5 = .int .i64 (me : Int) := hf 5 (by omega)
    obtain ⟨h6, h6', Ss, Sh, f6, st6⟩ := hf 6 (by omega)
    obtain ⟨g7, f7, n7, l7⟩ := hf 7 (by omega)
    refine UptoW.rest 1 8 (by rfl) (by kernel_rfl) ?_
    simp only [List.take, List.drop, putOps, Act.put, List.setIfInBounds_toArray, List.set_cons_zero, List.set_cons_succ, Nat.reduceAdd, f0, f1, f2, f3, f4, f5, f6, f7]
    clear f0 f1 f2 f3 f4 f5 f6 f7 hf hp
    have hbz : Below w.heap.size w wz := bl_on HB2.out hb
    have zk := (Array.getElem?_eq_some_iff.1 HKB.out).1
    have hkz := (hb.block _ zk).trans HKB.out
    have hrz : RdAt wz d ra := by
      obtain ⟨cur, h7, h8⟩ := HRD2.out
      exact ⟨cur, (hb.block _ (Array.getElem?_eq_some_iff.1 h7).1).trans h7, h8⟩
    have y0 : wz.cell? ⟨g7, 0, none⟩ = some (.slice none 0 0) := by simp only [World.cell?, n7]; rfl
    have y1 : wz.cell? ⟨g7, 1, none⟩ = some (.slice none 0 0) := by simp only [World.cell?, n7]; rfl
    have yf : ∀ k, wz.frozen? ⟨g7, k, none⟩ = false := fun k => by simp [World.frozen?, n7]
    have yz := (Array.getElem?_eq_some_iff.1 n7).1
    have HBZ := hide hbz
    have HKZ := hide hkz
    have HRZ := hide hrz
    have HST := hide st6
    have HN7 := hide n7
    clear hb hbz hkz hrz st6 n7 n3 k2
    go_upto_region 11 with fail
    obtain ⟨V5, hV5⟩ : ∃ V, V = (wz.setCell ⟨g7, 0, none⟩ (.slice (some ⟨h6, 0, none⟩) n n)).setCell ⟨g7, 1, none⟩ (.slice (some ⟨h6', 0, none⟩) n n) := ⟨_, rfl⟩
    rw [← hV5]
    have hsz : w.heap.size ≤ g7 := by have := HB2.out.size; omega
    have hb5 : Below w.heap.size w V5 := by rw [hV5]; exact set2_below HBZ.out hsz
    have hs5 : V5.heap[g7]? = some (.cells #[.slice (some ⟨h6, 0, none⟩) n n, .slice (some ⟨h6', 0, none⟩) n n] 80 (0, 0)) := by rw [hV5]; exact set2_heap HN7.out rfl
    have keep5 : ∀ {b : Nat} {cur : Array Value} {ty : TypeId}, wz.heap[b]? = some (.cells cur ty (0, 0)) → ty ≠ 80 → V5.heap[b]? = wz.heap[b]? := fun {b cur ty} hb ht => by
      rw [hV5]
      refine set2_other fun e => ?_
      rw [e, HN7.out] at hb
      simp only [Option.some.injEq, Obj.cells.injEq] at hb
      exact ht hb.2.1.symm
    have hk5 := (keep5 HKZ.out (by decide)).trans HKZ.out
    have hr5 : RdAt V5 d ra := by
      obtain ⟨cur, h7, h8⟩ := HRZ.out
      exact ⟨cur, (keep5 h7 (by decide)).trans h7, h8⟩
    have hsz5 : V5.heap.size = wz.heap.size := by rw [hV5]; simp [World.setCell]
    have kn : ∀ {y : Sl} {ys : List Int}, Num wz y ys → Num V5 y ys := fun hy => hy.keep fun b hO => by
      obtain ⟨cur, hc⟩ := hy.blk b hO
      exact keep5 hc (by decide)
    have st5 : StockAt V5 w.heap.size d n me xs h6 h6' Ss Sh := by
      obtain ⟨s1, s2, s3, s4, s5, s6, s7, s8, s9⟩ := HST.out
      refine ⟨?_, ?_, s3, s4, s5, s6, fun k hk => ⟨kn (s7 k hk).1, (s7 k hk).2⟩, fun k hk => ⟨fun hK => kn ((s8 k hk).1 hK), fun b hO => by rw [hsz5]; exact (s8 k hk).2 b hO⟩, s9⟩
      · obtain ⟨cur, h7, h8⟩ := s1
        exact ⟨cur, (keep5 h7 (by decide)).trans h7, h8⟩
      · obtain ⟨cur, h7, h8⟩ := s2
        exact ⟨cur, (keep5 h7 (by decide)).trans h7, h8⟩
    have x0 : V5.cell? ⟨g7, 0, none⟩ = some (.slice (some ⟨h6, 0, none⟩) n n) := by simp only [World.cell?, hs5]; rfl
    have x1 : V5.cell? ⟨g7, 1, none⟩ = some (.slice (some ⟨h6', 0, none⟩) n n) := by simp only [World.cell?, hs5]; rfl
    have v0 : V5.cell? ⟨w1.heap.size, 0, none⟩ = some (.bool true) := by simp only [World.cell?, hk5]; rfl
    have v1 : V5.cell? ⟨w1.heap.size, 1, none⟩ = some (.bool false) := by simp only [World.cell?, hk5]; rfl
    have v2 : V5.cell? ⟨w1.heap.size, 2, none⟩ = some (.func (.func 57) #[] #[]) := by simp only [World.cell?, hk5]; rfl
    have v3 : V5.cell? ⟨w1.heap.size, 3, none⟩ = some (.slice (some ⟨ra, 0, none⟩) (rdN d) (rdN d)) := by simp only [World.cell?, hk5]; rfl
    have v4 : V5.cell? ⟨w1.heap.size, 4, none⟩ = some (.func (.func (fitF d)) #[] #[]) := by simp only [World.cell?, hk5]; rfl
    have v5 : V5.cell? ⟨w1.heap.size, 5, none⟩ = some (.func (.func (plcF d)) #[] #[]) := by simp only [World.cell?, hk5]; rfl
    have v6 : V5.cell? ⟨w1.heap.size, 6, none⟩ = some (.func (.func (resF d)) #[] #[]) := by simp only [World.cell?, hk5]; rfl
    have z5 := (Array.getElem?_eq_some_iff.1 hs5).1
    have z6 := (Array.getElem?_eq_some_iff.1 hk5).1
    have hmb := mb_new hr5 hra st5 hb5.size
    unfold mbL kindL fv at hmb
    rw [HBG.out, HB4.out, HB4'.out] at hmb
    have HMB := hide hmb
    have HB5 := hide hb5
    have mkm : ∀ W : World, (Instr.makeMap 82 none).run Try.prog W = .ok (.map (some W.heap.size)) (W.alloc (.map #[] 0)) := fun W => rfl
    clear hV5 hb5 hs5 hk5 hr5 st5 hmb y0 y1 yf hsz5 keep5 kn
    go_wp2
    go_ret2
    have hsz2 : (((V5.alloc (.map #[] 0)).alloc (.cells #[.bool true, .bool false, .func (.func 57) #[] #[], .slice (some ⟨ra, 0, none⟩) (rdN d) (rdN d), .func (.func (fitF d)) #[] #[], .func (.func (plcF d)) #[] #[], .func (.func (resF d)) #[] #[], .int .i64 (n : Int), .int .i64 (me : Int), .int .i64 0, .int .i64 0, .map (some V5.heap.size), .slice (some ⟨h6, 0, none⟩) n n, .slice (some ⟨h6', 0, none⟩) n n] 84))).heap.size = V5.heap.size + 2 := by simp
    refine ⟨⟨V5.heap.size + 1, _, rfl, HMB.out.mono fun b hb => ⟨hb.1, by rw [hsz2]; exact hb.2⟩⟩, ?_⟩
    exact (HB5.out.alloc HB5.out.size _).alloc (by simp; have := HB5.out.size; omega) _
end Go.Proofs.Yticcoacoepajpaa.V
namespace Go.Proofs.Yticcoacoepajpaa.V
open Go Go.RowKit
set_option linter.unusedVariables false
set_option linter.unusedSimpArgs false

/-- The answer of New. -/
def NewAns (W : World) (d m me : Int) (xs : List Int) (e : Ending) (w' : World) : Prop :=
  (wrongM d m me xs.length ≠ 0 → e = .returned (.tuple #[.pointer none, .int .i64 (wrongM d m me xs.length)])) ∧
  (wrongM d m me xs.length = 0 → ∃ (dN nN meN : Nat) (g : Nat) (G : Gh), d = (dN : Int) ∧ m = (nN : Int) ∧ me = (meN : Int) ∧ StOk dN nN meN (begM dN nN meN xs) ∧ e = .returned (.tuple #[pm g, .int .i64 0]) ∧ MbAt w' (fun b => W.heap.size ≤ b ∧ b < w'.heap.size) g dN nN meN (begM dN nN meN xs) G) ∧ Below W.heap.size W w'
theorem new_any (d m me : Int) (x : Sl) (xs : List Int) (W : World) (hx : Ints W x.a x.n xs) :
    Calls Try.prog 16 #[.int .i64 d, .int .i64 m, .int .i64 me, .slice x.a x.n x.c] W fun e w' => NewAns W d m me xs e w' := by
  have bad : ∀ {k : Int} {e : Ending} {w' : World}, wrongM d m me xs.length = k → k ≠ 0 → e = .returned (.tuple #[.pointer none, .int .i64 k]) ∧ Below W.heap.size W w' → NewAns W d m me xs e w' := fun {k e w'} hk h0 h => ⟨fun _ => by rw [hk]; exact h.1, fun h' => absurd (hk.symm.trans h') h0, h.2⟩
  have hl : xs.length = x.n := hx.1
  by_cases a1 : d < 1 ∨ 4 < d
  · exact (new_kind d m me x W a1).mono fun e w' h => bad (by unfold wrongM; rw [if_pos a1]) (by decide) h
  · by_cases a2 : m < 1 ∨ 16 < m ∨ me < 0 ∨ m ≤ me
    · have hw : wrongM d m me xs.length = 4 := by unfold wrongM; rw [if_neg a1, if_pos a2]
      by_cases b1 : m < 1
      · exact (new_range1 d m me x W (by omega) (by omega) b1).mono fun e w' h => bad hw (by decide) h
      · by_cases b2 : 16 < m
        · exact (new_range2 d m me x W (by omega) (by omega) b1 b2).mono fun e w' h => bad hw (by decide) h
        · by_cases b3 : me < 0
          · exact (new_range3 d m me x W (by omega) (by omega) b1 b2 b3).mono fun e w' h => bad hw (by decide) h
          · exact (new_range4 d m me x W (by omega) (by omega) b1 b2 b3 (by omega)).mono fun e w' h => bad hw (by decide) h
    · by_cases a3 : 65536 < xs.length
      · exact (new_much d m me x W (by omega) (by omega) (by omega) (by omega) (by omega) (by omega) (by omega)).mono fun e w' h => bad (by unfold wrongM; rw [if_neg a1, if_neg a2, if_pos a3]) (by decide) h
      · by_cases a4 : d = 4 ∧ (xs.length : Int).tmod m ≠ 0
        · exact (new_shape d m me x W a4.1 (by omega) (by omega) (by omega) (by omega) (by omega) (by rw [← hl]; exact a4.2)).mono fun e w' h => bad (by unfold wrongM; rw [if_neg a1, if_neg a2, if_neg a3, if_pos a4]) (by decide) h
        · have hw : wrongM d m me xs.length = 0 := by unfold wrongM; rw [if_neg a1, if_neg a2, if_neg a3, if_neg a4]
          obtain ⟨dN, rfl⟩ : ∃ k : Nat, d = (k : Int) := ⟨d.toNat, by omega⟩
          obtain ⟨nN, rfl⟩ : ∃ k : Nat, m = (k : Int) := ⟨m.toNat, by omega⟩
          obtain ⟨meN, rfl⟩ : ∃ k : Nat, me = (k : Int) := ⟨me.toNat, by omega⟩
          have hev : dN = 4 → xs.length % nN = 0 := fun e => by
            have h1 : (xs.length : Int).tmod (nN : Int) = 0 := by
              by_cases h2 : (xs.length : Int).tmod (nN : Int) = 0
              · exact h2
              · exact absurd ⟨by omega, h2⟩ a4
            rw [Int.tmod_eq_emod_of_nonneg (Int.natCast_nonneg _)] at h1
            omega
          have hok : StOk dN nN meN (begM dN nN meN xs) := StOk.beg (by omega) (by omega) (by omega) (by omega) (by omega) (by omega) hev
          have good : ∀ {e : Ending} {w' : World}, (∃ g G, e = .returned (.tuple #[pm g, .int .i64 0]) ∧ MbAt w' (fun b => W.heap.size ≤ b ∧ b < w'.heap.size) g dN nN meN (begM dN nN meN xs) G) ∧ Below W.heap.size W w' → NewAns W (dN : Int) (nN : Int) (meN : Int) xs e w' := fun {e w'} ⟨⟨g, G, h1, h2⟩, h3⟩ => ⟨fun h => absurd hw h, fun _ => ⟨dN, nN, meN, g, G, rfl, rfl, rfl, hok, h1, h2⟩, h3⟩
          by_cases h4 : dN = 4
          · exact (new_apart dN nN meN x xs W hx h4 (by omega) (by omega) (by omega) (by omega) (by omega) (by omega) (by rw [← hl]; exact hev)).mono fun e w' h => good h
          · by_cases h3 : dN = 3
            · exact (new_whole dN nN meN x xs W hx h3 (by omega) (by omega) (by omega) (by omega) (by omega) (by omega) (by rw [← hl]; exact hev)).mono fun e w' h => good h
            · exact (new_cut dN nN meN x xs W hx h4 h3 (by omega) (by omega) (by omega) (by omega) (by omega) (by omega) (by rw [← hl]; exact hev)).mono fun e w' h => good h
end Go.Proofs.Yticcoacoepajpaa.V
