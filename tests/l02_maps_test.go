package tests

import (
	"math"
	"slices"
	"testing"

	"loop.example/g00374/impl"
)

const zeros = "\x00\x00\x00\x00"

// someMember has logs with several pages, with one, and with none; Open is begun, one other block is free.
func someMember() impl.Ftl {
	c := newChip(5)
	fillBlock(c, 0, 5, 0, 1, 2, 0) // 5 6 7 8
	fillBlock(c, 2, 1, 0, 3, 7, 1) // 1 2 3 4
	fillBlock(c, 3, 9, 2, 6, 6, 6) // 9 10 11 12
	fillBlock(c, 4, 13, 7, 1)      // 13 14
	return impl.Ftl{Chip: c, Map: []int64{3, 17, 12, 9, -1, -1, 15, 16}, Seq: 15, Open: 4}
}

// wrongMembers are members that are not right, each by one fault alone, under its name.
func wrongMembers() map[string]impl.Ftl {
	l := map[string]impl.Ftl{"zero value": {}}
	add := func(name string, change func(f *impl.Ftl)) {
		f := someMember()
		change(&f)
		l[name] = f
	}
	add("no map", func(f *impl.Ftl) { f.Map = nil })
	add("map too short", func(f *impl.Ftl) { f.Map = f.Map[:7] })
	add("map too long", func(f *impl.Ftl) { f.Map = append(f.Map, -1) })
	add("map names an older page", func(f *impl.Ftl) { f.Map[0] = 0 })
	add("map names another log's page", func(f *impl.Ftl) { f.Map[0] = 1 })
	add("map names no page", func(f *impl.Ftl) { f.Map[3] = -1 })
	add("map names a page for a log without", func(f *impl.Ftl) { f.Map[4] = 4 })
	add("map names a place outside", func(f *impl.Ftl) { f.Map[4] = 20 })
	add("map names a place below", func(f *impl.Ftl) { f.Map[4] = -2 })
	add("map names a place far outside", func(f *impl.Ftl) { f.Map[4] = math.MaxInt64 })
	add("seq of the newest page", func(f *impl.Ftl) { f.Seq = 14 })
	add("seq of an older page", func(f *impl.Ftl) { f.Seq = 5 })
	add("seq zero", func(f *impl.Ftl) { f.Seq = 0 })
	add("seq below", func(f *impl.Ftl) { f.Seq = math.MinInt64 })
	add("seq above", func(f *impl.Ftl) { f.Seq = impl.MaxSeq + 1 })
	add("open below", func(f *impl.Ftl) { f.Open = -1 })
	add("open above", func(f *impl.Ftl) { f.Open = 5 })
	add("open far above", func(f *impl.Ftl) { f.Open = math.MaxInt64 })
	add("open is the only free one, and another is begun", func(f *impl.Ftl) { f.Open = 1 })
	add("no other block free", func(f *impl.Ftl) {
		fillBlock(f.Chip, 1, 20, 5, 5, 5, 5)
		f.Map[5], f.Seq = 7, 24
	})
	add("a log without room", func(f *impl.Ftl) { f.Chip.Blocks[4].Pages[2] = used(8, 15, "abcd"); f.Seq = 16 })
	add("a log without room, and a place for it", func(f *impl.Ftl) {
		f.Chip.Blocks[4].Pages[2] = used(8, 15, "abcd")
		f.Map, f.Seq = append(f.Map, 18), 16
	})
	add("chip worn", func(f *impl.Ftl) { f.Chip.Blocks[1].Wear = impl.MaxWear + 1 })
	add("chip with a page too few", func(f *impl.Ftl) { f.Chip.Blocks[1].Pages = f.Chip.Blocks[1].Pages[:3] })
	add("chip with one Seq twice", func(f *impl.Ftl) { f.Chip.Blocks[4].Pages[0].Seq = 3 })
	free := impl.Ftl{Chip: newChip(4), Map: []int64{-1, -1, -1, -1}, Seq: 1}
	for b := 1; b < 4; b++ {
		fillBlock(free.Chip, b, int64(4*b), 0, 0, 0, 0)
	}
	free.Map[0], free.Seq = 15, 16
	l["only Open free"] = free
	for count, name := range []string{1: "another block begun", 2: "another block half full", 3: "another block full but one"} {
		f := fourFull()
		f.Open = 0
		fillBlock(f.Chip, 1, 20, []int64{5, 5, 5}[:count]...)
		if count > 0 {
			f.Map[5], f.Seq = int64(3+count), 30
			l[name] = f
		}
	}
	return l
}

func TestRoomFor(t *testing.T) {
	for n, want := range []int64{4: 4, 5: 8, 6: 12, 7: 16, 8: 20, 9: 24, 10: 28, 11: 32, 12: 36, 13: 0} {
		same(t, "RoomFor", impl.RoomFor(int64(n)), want)
	}
	for _, n := range []int64{-1, -5, math.MinInt64, math.MaxInt64, 1<<62 + 4} {
		same(t, "RoomFor outside", impl.RoomFor(n), int64(0))
	}
}

func TestFtlNew(t *testing.T) {
	for n := int64(4); n <= impl.MaxBlocks; n++ {
		f, ok := impl.FtlNew(n)
		same(t, "ok", ok, true)
		want := impl.Ftl{Chip: newChip(int(n)), Map: slices.Repeat([]int64{-1}, int(4*(n-3))), Seq: 1}
		same(t, "member", f, want)
		same(t, "right", impl.FtlOk(f), true)
		same(t, "victim", impl.VictimOf(f), int64(-1))
		ownLists(t, f.Chip)
	}
	for _, n := range []int64{3, 13, 0, -4, math.MinInt64, math.MaxInt64} {
		f, ok := impl.FtlNew(n)
		same(t, "ok", ok, false)
		same(t, "member", f, impl.Ftl{})
	}
}

func TestFtlOk(t *testing.T) {
	right := func(name string, change func(f *impl.Ftl)) {
		t.Helper()
		f := someMember()
		change(&f)
		same(t, name, impl.FtlOk(f), true)
	}
	right("as it is", func(f *impl.Ftl) {})
	right("seq far above", func(f *impl.Ftl) { f.Seq = impl.MaxSeq })
	right("seq one above a page's", func(f *impl.Ftl) { f.Chip.Blocks[4].Pages[1].Seq, f.Seq = impl.MaxSeq-1, impl.MaxSeq })
	right("open full", func(f *impl.Ftl) { fillBlock(f.Chip, 4, 13, 7, 1, 1, 7); f.Map[1], f.Map[7], f.Seq = 18, 19, 17 })
	right("open free", func(f *impl.Ftl) {
		fillBlock(f.Chip, 4, 13, 7, 1, 1, 7)
		f.Chip.Blocks[3] = impl.Block{Pages: make([]impl.Page, 4)}
		f.Map, f.Seq, f.Open = []int64{3, 18, 2, 9, -1, -1, -1, 19}, 17, 1
	})
	right("worn", func(f *impl.Ftl) { f.Chip.Blocks[0].Wear = impl.MaxWear })
	right("the last log", func(f *impl.Ftl) { f.Chip.Blocks[4].Pages[2] = used(7, 15, "abcd"); f.Map[7], f.Seq = 18, 16 })
	f := someMember()
	f.Chip.Blocks[4].Pages[1].Seq = impl.MaxSeq
	for _, seq := range []int64{impl.MaxSeq, impl.MaxSeq + 1} {
		f.Seq = seq
		same(t, "no Seq above a page's", impl.FtlOk(f), false)
	}
}

func TestWrongMembers(t *testing.T) {
	for name, f := range wrongMembers() {
		t.Run(name, func(t *testing.T) {
			same(t, "FtlOk", impl.FtlOk(f), false)
			same(t, "VictimOf", impl.VictimOf(f), int64(-1))
			for n := int64(-1); n <= 9; n++ {
				same(t, "ValidOf", impl.ValidOf(f, n), int64(-1))
				s, ok := impl.PageAt(f, n)
				same(t, "PageAt", s, "")
				same(t, "PageAt's ok", ok, false)
			}
		})
	}
	for name, c := range wrongChips() {
		f := impl.Ftl{Chip: c, Map: []int64{-1, -1, -1, -1}, Seq: 1000, Open: 2}
		same(t, name, impl.FtlOk(f), false)
	}
}

// Promise 2: what is read is what the newest page of its log has.
func TestPageAt(t *testing.T) {
	f := someMember()
	for log, want := range []string{dataOf(8), dataOf(14), dataOf(9), dataOf(2), zeros, zeros, dataOf(12), dataOf(13)} {
		s, ok := impl.PageAt(f, int64(log))
		same(t, "page", s, want)
		same(t, "ok", ok, true)
	}
	for _, log := range append(outside(8), 39, 40) {
		s, ok := impl.PageAt(f, log)
		same(t, "page outside", s, "")
		same(t, "ok outside", ok, false)
	}
	f, _ = impl.FtlNew(12)
	s, ok := impl.PageAt(f, 35)
	same(t, "the last log of the greatest chip", s, zeros)
	same(t, "ok", ok, true)
	_, ok = impl.PageAt(f, 36)
	same(t, "behind the last log", ok, false)
}

// The newest page is the one with the greatest Seq, wherever it stands in the block or the chip.
func TestPageAtNewestAhead(t *testing.T) {
	c := newChip(4)
	c.Blocks[0].Pages = []impl.Page{used(1, 90, "newA"), used(1, 80, "oldA"), used(2, 20, "oldB"), used(3, 95, "onlC")}
	c.Blocks[2].Pages = []impl.Page{used(1, 85, "oldA"), used(2, 30, "newB"), used(2, 25, "oldB"), used(1, 7, "oldA")}
	f := impl.Ftl{Chip: c, Map: []int64{-1, 0, 9, 3}, Seq: 96, Open: 3}
	for log, want := range []string{zeros, "newA", "newB", "onlC"} {
		s, ok := impl.PageAt(f, int64(log))
		same(t, "page", s, want)
		same(t, "ok", ok, true)
	}
	same(t, "valid of 0", impl.ValidOf(f, 0), int64(2))
	same(t, "valid of 2", impl.ValidOf(f, 2), int64(1))
}

func TestValidOf(t *testing.T) {
	f := someMember()
	for block, want := range []int64{1, 0, 1, 2, 2} {
		same(t, "valid", impl.ValidOf(f, int64(block)), want)
	}
	for _, block := range outside(5) {
		same(t, "valid outside", impl.ValidOf(f, block), int64(-1))
	}
}

// Promise 2: the block that is emptied has as few newest pages as any.
func TestVictimOf(t *testing.T) {
	cases := []struct {
		name  string
		wears []int64
		open  int64
		want  int64
	}{
		{"alike in valid and wear: the first", []int64{0, 0, 0, 0, 0}, 4, 0},
		{"alike in valid: the least wear", []int64{6, 0, 5, 0, 0}, 4, 2},
		{"alike in valid: the least wear, ahead", []int64{5, 0, 6, 0, 0}, 4, 0},
		{"wear is no ground where valid differs", []int64{9, 0, 9, 0, 0}, 4, 0},
		{"greatest wear", []int64{impl.MaxWear, 0, impl.MaxWear - 1, 0, 0}, 4, 2},
	}
	for _, c := range cases {
		f := someMember()
		for b, wear := range c.wears {
			f.Chip.Blocks[b].Wear = wear
		}
		f.Open = c.open
		same(t, c.name, impl.VictimOf(f), c.want)
	}
}

// fourFull has four full blocks with 2, 1, 1 and 1 newest pages, two free ones, and none that is begun.
func fourFull() impl.Ftl {
	c := newChip(6)
	fillBlock(c, 0, 1, 0, 1, 2, 2)
	fillBlock(c, 2, 5, 3, 3, 3, 3)
	fillBlock(c, 3, 9, 2, 2, 2, 2)
	fillBlock(c, 5, 13, 4, 4, 4, 4)
	named := slices.Repeat([]int64{-1}, 12)
	copy(named, []int64{0, 1, 15, 11, 23})
	return impl.Ftl{Chip: c, Map: named, Seq: 17, Open: 1}
}

func TestVictimOfManyFull(t *testing.T) {
	f := fourFull()
	same(t, "right", impl.FtlOk(f), true)
	same(t, "first of three alike", impl.VictimOf(f), int64(2))
	f.Open = 2
	same(t, "not Open", impl.VictimOf(f), int64(3))
	f.Chip.Blocks[3].Wear = 1
	same(t, "not Open, least wear", impl.VictimOf(f), int64(5))
	f.Chip.Blocks[5].Wear = 1
	same(t, "not Open, alike", impl.VictimOf(f), int64(3))
	f.Open = 4
	f.Chip.Blocks[2].Wear = 2
	same(t, "Open free", impl.VictimOf(f), int64(3))
	f.Chip.Blocks[0].Wear = 0
	f.Chip.Blocks[3].Wear, f.Chip.Blocks[5].Wear = impl.MaxWear, 3
	same(t, "one with more pages is not taken for its wear", impl.VictimOf(f), int64(2))
	f.Chip.Blocks[2].Wear = 3
	same(t, "alike with one between", impl.VictimOf(f), int64(2))
}

func TestVictimOfNoneFull(t *testing.T) {
	f, _ := impl.FtlNew(4)
	fillBlock(f.Chip, 0, 1, 0, 0, 0, 0)
	f.Map[0], f.Seq = 3, 5
	same(t, "right", impl.FtlOk(f), true)
	same(t, "Open alone is full", impl.VictimOf(f), int64(-1))
	f.Open = 1
	same(t, "Open is another", impl.VictimOf(f), int64(0))
	f.Chip.Blocks[0].Pages[3] = impl.Page{}
	f.Map[0], f.Open = 2, 0
	same(t, "Open alone is begun", impl.VictimOf(f), int64(-1))
}

// Promise 9: arguments stay as they were, and answers do not share memory with them.
func TestMemberCallsLeaveNothing(t *testing.T) {
	f := someMember()
	f.Chip = roomy(f.Chip)
	f.Map = append(make([]int64, 0, 20), f.Map...)
	f.Map[:9][8] = 55
	for range 2 {
		same(t, "right", impl.FtlOk(f), true)
		same(t, "victim", impl.VictimOf(f), int64(0))
		same(t, "valid", impl.ValidOf(f, 3), int64(2))
		s, _ := impl.PageAt(f, 1)
		same(t, "page", s, dataOf(14))
	}
	same(t, "argument", copyMember(f), someMember())
	same(t, "room behind the map", f.Map[:9][8], int64(55))
	roomUntouched(t, f.Chip)
	a, _ := impl.FtlNew(4)
	scribble(a.Chip)
	for i := range a.Map {
		a.Map[i] = 3
	}
	b, _ := impl.FtlNew(4)
	same(t, "one more member", impl.FtlOk(b), true)
}

// thrown is a member that is right, of a chip filled by the dice.
func thrown(d *dice) impl.Ftl {
	blocks := 4 + d.below(9)
	room := 4 * (blocks - 3)
	c := newChip(int(blocks))
	seqs := make([]int64, 4*blocks)
	for i := range seqs {
		at := d.below(int64(i) + 1)
		seqs[i], seqs[at] = seqs[at], int64(i)+1
	}
	open := d.below(blocks)
	free := (open + 1 + d.below(blocks-1)) % blocks
	for b := range blocks {
		c.Blocks[b].Wear = d.below(2)
		count := 4 * min(1, d.below(3))
		if b == open {
			count = d.below(5)
		}
		for k := int64(0); k < count && b != free; k++ {
			seq := seqs[4*b+k]
			c.Blocks[b].Pages[k] = used(d.below(room), seq, dataOf(seq))
		}
	}
	return impl.Ftl{Chip: c, Map: mapByHand(c), Seq: 4*blocks + 1, Open: open}
}

// mapByHand goes through the chip log by log, as the document tells it.
func mapByHand(c impl.Chip) []int64 {
	named := make([]int64, 4*(len(c.Blocks)-3))
	for log := range named {
		named[log] = -1
		top := int64(0)
		for b, block := range c.Blocks {
			for k, p := range block.Pages {
				if p.Used && p.Log == int64(log) && p.Seq > top {
					named[log], top = int64(4*b+k), p.Seq
				}
			}
		}
	}
	return named
}

func validByHand(f impl.Ftl, block int) int64 {
	count := int64(0)
	for k := range 4 {
		if slices.Contains(f.Map, int64(4*block+k)) {
			count++
		}
	}
	return count
}

func victimByHand(f impl.Ftl) int64 {
	var full []int
	for b, block := range f.Chip.Blocks {
		if block.Pages[3].Used && int64(b) != f.Open {
			full = append(full, b)
		}
	}
	if len(full) == 0 {
		return -1
	}
	slices.SortStableFunc(full, func(x, y int) int {
		if vx, vy := validByHand(f, x), validByHand(f, y); vx != vy {
			return int(vx - vy)
		}
		return int(f.Chip.Blocks[x].Wear - f.Chip.Blocks[y].Wear)
	})
	return int64(full[0])
}

func TestMembersByManyThrows(t *testing.T) {
	d := dice(2)
	for range 3000 {
		f := thrown(&d)
		same(t, "right", impl.FtlOk(f), true)
		same(t, "victim", impl.VictimOf(f), victimByHand(f))
		for b := range f.Chip.Blocks {
			same(t, "valid", impl.ValidOf(f, int64(b)), validByHand(f, b))
		}
		for log, place := range f.Map {
			want := zeros
			if place >= 0 {
				want = f.Chip.Blocks[place/4].Pages[place%4].Data
			}
			s, ok := impl.PageAt(f, int64(log))
			same(t, "page", s, want)
			same(t, "ok", ok, true)
		}
		f.Map[d.below(int64(len(f.Map)))]++
		same(t, "a wrong place", impl.FtlOk(f), false)
		if t.Failed() {
			t.Fatal(f)
		}
	}
}
