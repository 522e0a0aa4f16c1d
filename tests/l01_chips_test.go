package tests

import (
	"math"
	"testing"

	"loop.example/g00374/impl"
)

// someChip has a full block, a begun one, and two free ones; all are worn differently.
func someChip() impl.Chip {
	c := newChip(4)
	fillBlock(c, 1, 11, 5, 0, 5, 39)
	fillBlock(c, 2, 3, 7, 7)
	for b := range c.Blocks {
		c.Blocks[b].Wear = int64(10 + b)
	}
	return c
}

// wrongChips are chips that are not right, each by one fault alone, under its name.
func wrongChips() map[string]impl.Chip {
	l := map[string]impl.Chip{
		"zero value": {}, "three blocks": newChip(3), "thirteen blocks": newChip(13), "one block": newChip(1),
	}
	add := func(name string, change func(c impl.Chip)) {
		c := someChip()
		change(c)
		l[name] = c
	}
	add("three pages", func(c impl.Chip) { c.Blocks[3].Pages = c.Blocks[3].Pages[:3] })
	add("five pages", func(c impl.Chip) { c.Blocks[3].Pages = append(c.Blocks[3].Pages, impl.Page{}) })
	add("no pages", func(c impl.Chip) { c.Blocks[0].Pages = nil })
	add("wear above", func(c impl.Chip) { c.Blocks[3].Wear = impl.MaxWear + 1 })
	add("wear below", func(c impl.Chip) { c.Blocks[0].Wear = -1 })
	add("log above", func(c impl.Chip) { c.Blocks[2].Pages[1].Log = impl.MaxLog })
	add("log below", func(c impl.Chip) { c.Blocks[2].Pages[1].Log = -1 })
	add("seq above", func(c impl.Chip) { c.Blocks[2].Pages[1].Seq = impl.MaxSeq + 1 })
	add("seq zero", func(c impl.Chip) { c.Blocks[2].Pages[1].Seq = 0 })
	add("seq below", func(c impl.Chip) { c.Blocks[2].Pages[1].Seq = math.MinInt64 })
	add("data short", func(c impl.Chip) { c.Blocks[1].Pages[0].Data = "abc" })
	add("data long", func(c impl.Chip) { c.Blocks[1].Pages[3].Data = "abcde" })
	add("data empty", func(c impl.Chip) { c.Blocks[1].Pages[3].Data = "" })
	add("one seq twice in a block", func(c impl.Chip) { c.Blocks[2].Pages[1].Seq = 3 })
	add("one seq twice in two blocks", func(c impl.Chip) { c.Blocks[2].Pages[0].Seq = 14 })
	add("not used, with a log", func(c impl.Chip) { c.Blocks[2].Pages[2].Log = 1 })
	add("not used, with a seq", func(c impl.Chip) { c.Blocks[0].Pages[0].Seq = 99 })
	add("not used, with data", func(c impl.Chip) { c.Blocks[3].Pages[3].Data = "abcd" })
	add("used behind one that is not", func(c impl.Chip) { c.Blocks[2].Pages[3] = used(1, 99, "abcd") })
	add("used behind none", func(c impl.Chip) { c.Blocks[0].Pages[1] = used(1, 99, "abcd") })
	return l
}

func TestChipConstants(t *testing.T) {
	same(t, "codes", []int64{impl.NdDone, impl.NdWrong, impl.NdForm, impl.NdFull, impl.NdWorn}, []int64{0, 1, 2, 3, 4})
	same(t, "sizes", []int64{impl.PageSize, impl.PageCount, impl.MaxBlocks, impl.MaxLog}, []int64{4, 4, 12, 40})
	same(t, "limits", []int64{impl.MaxWear, impl.MaxSeq}, []int64{1000000000, 1000000000})
}

func TestChipOkAtRightChips(t *testing.T) {
	for n := 4; n <= 12; n++ {
		if !impl.ChipOk(newChip(n)) {
			t.Error(n, "blocks")
		}
	}
	c := someChip()
	if !impl.ChipOk(c) {
		t.Error("some chip")
	}
	c.Blocks[0].Pages[0] = used(impl.MaxLog-1, impl.MaxSeq, "\x00\xff\n ")
	c.Blocks[3].Pages[0] = used(0, 1, "abcd")
	c.Blocks[0].Wear = impl.MaxWear
	c.Blocks[3].Wear = 0
	if !impl.ChipOk(c) {
		t.Error("each limit met")
	}
	full := newChip(12)
	for b := range full.Blocks {
		fillBlock(full, b, int64(4*b+1), 0, 0, 0, 0)
	}
	if !impl.ChipOk(full) {
		t.Error("all pages used")
	}
	full.Blocks[11].Pages[3].Seq = 1
	if impl.ChipOk(full) {
		t.Error("the first Seq once more in the last page")
	}
}

func TestWrongChips(t *testing.T) {
	for name, c := range wrongChips() {
		t.Run(name, func(t *testing.T) {
			if impl.ChipOk(c) {
				t.Error("ChipOk")
			}
			for _, block := range []int64{0, 1, 2, 3, 4, -1} {
				same(t, "NextOf", impl.NextOf(c, block), int64(-1))
				d, code := impl.Programmed(c, block, used(1, 500, "abcd"))
				same(t, "Programmed", code, int64(impl.NdWrong))
				same(t, "Programmed's chip", d, impl.Chip{})
				d, code = impl.Programmed(c, block, impl.Page{})
				same(t, "Programmed, no page", code, int64(impl.NdWrong))
				same(t, "Programmed's chip, no page", d, impl.Chip{})
				d, code = impl.Erased(c, block)
				same(t, "Erased", code, int64(impl.NdWrong))
				same(t, "Erased's chip", d, impl.Chip{})
			}
			same(t, "FreeOf", len(impl.FreeOf(c)), 0)
		})
	}
}

func TestChipNew(t *testing.T) {
	for n := int64(4); n <= impl.MaxBlocks; n++ {
		c, ok := impl.ChipNew(n)
		same(t, "ok", ok, true)
		same(t, "chip", c, newChip(int(n)))
		ownLists(t, c)
	}
	for _, n := range []int64{3, 13, 0, -4, math.MinInt64, math.MaxInt64, 1<<32 + 4} {
		c, ok := impl.ChipNew(n)
		same(t, "ok", ok, false)
		same(t, "chip", c, impl.Chip{})
	}
	a, _ := impl.ChipNew(4)
	scribble(a)
	b, _ := impl.ChipNew(4)
	same(t, "one more chip", b, newChip(4))
}

func TestNextOf(t *testing.T) {
	c := newChip(5)
	fillBlock(c, 1, 1, 0)
	fillBlock(c, 2, 2, 0, 1)
	fillBlock(c, 3, 4, 0, 1, 2)
	fillBlock(c, 4, 7, 0, 1, 2, 3)
	for block, want := range []int64{0, 1, 2, 3, -1} {
		same(t, "NextOf", impl.NextOf(c, int64(block)), want)
	}
	for _, block := range outside(5) {
		same(t, "NextOf outside", impl.NextOf(c, block), int64(-1))
	}
}

func TestFreeOf(t *testing.T) {
	same(t, "some", impl.FreeOf(someChip()), []int64{0, 3})
	same(t, "all", impl.FreeOf(newChip(4)), []int64{0, 1, 2, 3})
	c := newChip(4)
	for b := range c.Blocks {
		fillBlock(c, b, int64(b+1), 0)
	}
	same(t, "none", len(impl.FreeOf(c)), 0)
	last := newChip(12)
	for b := range 11 {
		fillBlock(last, b, int64(b+1), 0)
	}
	same(t, "the last one", impl.FreeOf(last), []int64{11})
}

// Promise 1: the page stands behind those of its block, all else is as it was.
func TestProgrammedFillsABlock(t *testing.T) {
	c := someChip()
	want := copyChip(c)
	for k := range int64(4) {
		p := used(k, 100-k, "new"+string(byte('0'+k)))
		want.Blocks[3].Pages[k] = p
		d, code := impl.Programmed(c, 3, p)
		same(t, "code", code, int64(impl.NdDone))
		same(t, "chip", d, want)
		same(t, "right", impl.ChipOk(d), true)
		c = d
	}
	same(t, "full", impl.NextOf(c, 3), int64(-1))
	d, code := impl.Programmed(c, 3, used(1, 200, "more"))
	same(t, "code of a full block", code, int64(impl.NdFull))
	same(t, "chip with a full block", d, want)
}

func TestProgrammedBehindOthers(t *testing.T) {
	want := someChip()
	want.Blocks[2].Pages[2] = used(39, impl.MaxSeq, "last")
	c, code := impl.Programmed(someChip(), 2, used(39, impl.MaxSeq, "last"))
	same(t, "code", code, int64(impl.NdDone))
	same(t, "chip", c, want)
	want.Blocks[0].Pages[0] = used(0, 1, "\x00\x00\x00\x00")
	c, code = impl.Programmed(c, 0, used(0, 1, "\x00\x00\x00\x00"))
	same(t, "code", code, int64(impl.NdDone))
	same(t, "chip", c, want)
}

func TestProgrammedRefuses(t *testing.T) {
	good := used(1, 99, "abcd")
	pages := map[string]impl.Page{
		"zero value": {},
		"not used":   {Log: 1, Seq: 99, Data: "abcd"},
		"log above":  used(impl.MaxLog, 99, "abcd"),
		"log below":  used(-1, 99, "abcd"),
		"seq zero":   used(1, 0, "abcd"),
		"seq above":  used(1, impl.MaxSeq+1, "abcd"),
		"data short": used(1, 99, "abc"),
		"data long":  used(1, 99, "abcde"),
		"seq there":  used(1, 14, "abcd"),
		"seq first":  used(1, 3, "abcd"),
	}
	for name, p := range pages {
		// Block 1 is full: NdForm is told ahead of NdFull.
		for block := range int64(4) {
			d, code := impl.Programmed(someChip(), block, p)
			same(t, name, code, int64(impl.NdForm))
			same(t, name, d, someChip())
		}
	}
	for _, block := range outside(4) {
		d, code := impl.Programmed(someChip(), block, good)
		same(t, "block outside", code, int64(impl.NdForm))
		same(t, "block outside", d, someChip())
	}
	d, code := impl.Programmed(someChip(), 1, good)
	same(t, "full", code, int64(impl.NdFull))
	same(t, "full", d, someChip())
}

// Promise 1: an erased block is free and worn by one more, all else is as it was.
func TestErased(t *testing.T) {
	for block := range int64(4) {
		want := someChip()
		want.Blocks[block] = impl.Block{Wear: 11 + block, Pages: make([]impl.Page, 4)}
		d, code := impl.Erased(someChip(), block)
		same(t, "code", code, int64(impl.NdDone))
		same(t, "chip", d, want)
		same(t, "right", impl.ChipOk(d), true)
		same(t, "free", impl.NextOf(d, block), int64(0))
	}
}

func TestErasedRefuses(t *testing.T) {
	for _, block := range outside(4) {
		c := someChip()
		for b := range c.Blocks {
			c.Blocks[b].Wear = impl.MaxWear
		}
		d, code := impl.Erased(c, block)
		same(t, "block outside", code, int64(impl.NdForm))
		same(t, "block outside", d, c)
	}
	for block := range int64(4) {
		c := someChip()
		c.Blocks[block].Wear = impl.MaxWear - 1
		want := copyChip(c)
		want.Blocks[block] = impl.Block{Wear: impl.MaxWear, Pages: make([]impl.Page, 4)}
		d, code := impl.Erased(c, block)
		same(t, "one below MaxWear", code, int64(impl.NdDone))
		same(t, "one below MaxWear", d, want)
		c.Blocks[block].Wear = impl.MaxWear
		d, code = impl.Erased(c, block)
		same(t, "MaxWear", code, int64(impl.NdWorn))
		same(t, "MaxWear", d, c)
		if block != 0 {
			_, code = impl.Erased(c, 0)
			same(t, "another block at MaxWear", code, int64(impl.NdDone))
		}
	}
}

// Promise 9: answers are new memory, arguments and the room behind them stay as they were.
func TestChipAnswersAreNew(t *testing.T) {
	calls := map[string]func(c impl.Chip) impl.Chip{
		"programmed": func(c impl.Chip) impl.Chip { d, _ := impl.Programmed(c, 2, used(1, 99, "abcd")); return d },
		"form":       func(c impl.Chip) impl.Chip { d, _ := impl.Programmed(c, 4, used(1, 99, "abcd")); return d },
		"full":       func(c impl.Chip) impl.Chip { d, _ := impl.Programmed(c, 1, used(1, 99, "abcd")); return d },
		"erased":     func(c impl.Chip) impl.Chip { d, _ := impl.Erased(c, 1); return d },
		"no block":   func(c impl.Chip) impl.Chip { d, _ := impl.Erased(c, 4); return d },
		"worn":       func(c impl.Chip) impl.Chip { d, _ := impl.Erased(c, 3); return d },
	}
	for name, call := range calls {
		t.Run(name, func(t *testing.T) {
			want := someChip()
			want.Blocks[3].Wear = impl.MaxWear
			c := roomy(want)
			d := call(c)
			same(t, "argument", c, want)
			roomUntouched(t, c)
			same(t, "once more", call(c), d)
			ownLists(t, d)
			scribble(d)
			same(t, "argument behind a change of the answer", c, want)
			roomUntouched(t, c)
		})
	}
	c := roomy(someChip())
	free := impl.FreeOf(c)
	for i := range free {
		free[i] = 9
	}
	impl.ChipOk(c)
	impl.NextOf(c, 2)
	same(t, "argument", c, someChip())
	roomUntouched(t, c)
	same(t, "free once more", impl.FreeOf(c), []int64{0, 3})
}

// A long row of calls, held against a chip that the test keeps by itself.
func TestChipsByManySteps(t *testing.T) {
	d := dice(1)
	for round := range 40 {
		blocks := 4 + round%9
		c, want := newChip(blocks), newChip(blocks)
		seqs := map[int64]int64{}
		for range 200 {
			block := d.below(int64(blocks)+2) - 1
			there := block >= 0 && block < int64(blocks)
			if d.below(6) == 0 {
				code := int64(impl.NdForm)
				if there {
					code = impl.NdDone
					for _, p := range want.Blocks[block].Pages {
						delete(seqs, p.Seq)
					}
					want.Blocks[block] = impl.Block{Wear: want.Blocks[block].Wear + 1, Pages: make([]impl.Page, 4)}
				}
				next, got := impl.Erased(c, block)
				same(t, "erased", got, code)
				c = next
			} else {
				p := used(d.below(42)-1, d.below(60), dataOf(d.below(9999)))
				code := int64(impl.NdForm)
				_, twice := seqs[p.Seq]
				if there && p.Log >= 0 && p.Log < 40 && p.Seq > 0 && !twice {
					code = impl.NdFull
					for k := range want.Blocks[block].Pages {
						if !want.Blocks[block].Pages[k].Used {
							code = impl.NdDone
							want.Blocks[block].Pages[k] = p
							seqs[p.Seq] = 1
							break
						}
					}
				}
				next, got := impl.Programmed(c, block, p)
				same(t, "programmed", got, code)
				c = next
			}
			same(t, "chip", c, want)
			if t.Failed() {
				t.FailNow()
			}
		}
	}
}
