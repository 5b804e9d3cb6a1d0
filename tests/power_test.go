package tests

import (
	"math/rand"
	"slices"
	"testing"

	"loop.example/tally/impl"
)

// losses are the ways in which power may go while n writes wait: each single one kept, each single one lost, the first k kept (none and all of them among these).
func losses(n int) [][]bool {
	var ways [][]bool
	for k := range n + 1 {
		kept := make([]bool, n)
		for i := range k {
			kept[i] = true
		}
		ways = append(ways, kept)
	}
	for k := range n {
		one, others := make([]bool, n), make([]bool, n)
		for i := range n {
			one[i], others[i] = i == k, i != k
		}
		ways = append(ways, one, others)
	}
	return ways
}

// checkLeft asks that what was opened is a beginning of what was there, with as many notes as were safe; and that these are safe now.
func checkLeft(t *testing.T, o impl.Opened, there []impl.Note, safe, gen int) []impl.Note {
	t.Helper()
	left := o.Log.Notes
	if !o.Ok || len(left) < safe || len(left) > len(there) || !slices.Equal(left, there[:len(left)]) {
		t.Fatalf("%d were there, %d of them safe: %#v", len(there), safe, o.Log)
	}
	if !sameLog(o.Log, safeLog(gen, left...)) || len(o.Disk.Waiting) != 0 {
		t.Fatalf("opened: %#v", o.Log)
	}
	return slices.Clone(left)
}

// writeAll appends notes, and makes safe what is there behind each note for which commit says so.
func writeAll(t *testing.T, o impl.Opened, notes []impl.Note, commit func(i int) bool) impl.Opened {
	t.Helper()
	for i, n := range notes {
		safe, there := o.Log.Safe, len(o.Log.Notes)
		o = impl.Append(o, n)
		if !o.Ok || len(o.Log.Notes) != there+1 || o.Log.Notes[there] != n || o.Log.Safe != safe {
			t.Fatalf("note %d: %#v", i, o.Log)
		}
		if !commit(i) {
			continue
		}
		if o = impl.Commit(o); !o.Ok || o.Log.Safe != there+1 || len(o.Log.Notes) != there+1 {
			t.Fatalf("note %d, safe: %#v", i, o.Log)
		}
	}
	return o
}

func never(int) bool { return false }

// sizeLists are lengths of frames: some that end just with a page, and every length that there is.
func sizeLists() [][]int {
	lists := [][]int{
		{},
		{17},
		{56},
		{56, 56, 56, 56},
		{112, 112, 56},
		{28, 28, 28, 28, 28},
		{39, 17, 39, 17},
		{55, 57, 55, 57},
		{217, 217, 217},
		{17, 39, 217, 63, 56},
		{50, 217, 50, 217, 26},
	}
	var some []int
	for size := 17; size <= 217; size++ {
		if some = append(some, 17+(size*37)%201); len(some) == 12 {
			lists = append(lists, some)
			some = nil
		}
	}
	return append(lists, some)
}

func TestSizeListsHaveAllLengths(t *testing.T) {
	var got []int
	for _, sizes := range sizeLists() {
		got = append(got, sizes...)
	}
	slices.Sort(got)
	if got = slices.Compact(got); len(got) != 201 || got[0] != 17 || got[200] != 217 {
		t.Error(got)
	}
}

// P4: whatever was lost, a beginning with all that was safe is left, and what is written then comes behind just that.
func TestALossOfPowerLeavesABeginning(t *testing.T) {
	for _, sizes := range sizeLists() {
		notes := notesOf(sizes...)
		for safe := 0; safe <= len(notes); safe += 1 + len(notes)/4 {
			o := writeAll(t, impl.Open(impl.Blank()), notes, func(i int) bool { return i+1 == safe })
			if o.Log.Safe != safe {
				t.Fatalf("%d are safe, not %d", o.Log.Safe, safe)
			}
			for _, kept := range losses(len(o.Disk.Waiting)) {
				x := impl.Open(impl.Crash(o.Disk, kept))
				left := checkLeft(t, x, notes, safe, 2)
				more := []impl.Note{noteOf(17, 50), noteOf(56-17, 51), noteOf(100, 52)}
				x = impl.Commit(writeAll(t, x, more, never))
				if want := safeLog(2, append(left, more...)...); !sameLog(x.Log, want) {
					t.Fatalf("%v, %v kept: %#v, not %#v", sizes, kept, x.Log, want)
				}
			}
		}
	}
}

// With all kept all is left, and with none just what was safe.
func TestALossOfPowerThatKeepsAllOrNone(t *testing.T) {
	for _, sizes := range sizeLists() {
		notes := notesOf(sizes...)
		half := len(notes) / 2
		o := writeAll(t, impl.Open(impl.Blank()), notes, func(i int) bool { return i+1 == half })
		kept := slices.Repeat([]bool{true}, len(o.Disk.Waiting))
		if x := impl.Open(impl.Crash(o.Disk, kept)); !slices.Equal(x.Log.Notes, notes) {
			t.Errorf("%v, all kept: %#v", sizes, x.Log)
		}
		if x := impl.Open(impl.Crash(o.Disk, nil)); !slices.Equal(x.Log.Notes, notes[:half]) {
			t.Errorf("%v, none kept: %#v", sizes, x.Log)
		}
	}
}

// Every set of what is kept, for few writes that wait.
func TestALossOfPowerThatKeepsAnySet(t *testing.T) {
	for _, sizes := range [][]int{{30, 56, 60, 17}, {56, 56, 56, 56}, {40, 217, 40}, {28, 28, 28, 28, 28, 28, 28, 28}} {
		notes := notesOf(sizes...)
		o := writeAll(t, impl.Open(impl.Blank()), notes, func(i int) bool { return i == 0 })
		n := len(o.Disk.Waiting)
		for set := range 1 << n {
			kept := make([]bool, n)
			for i := range kept {
				kept[i] = set>>i&1 == 1
			}
			checkLeft(t, impl.Open(impl.Crash(o.Disk, kept)), notes, 1, 2)
		}
	}
}

// P5: the power goes ten times in a row. The source is seeded: it goes the same way at every run.
func TestThePowerGoesAgainAndAgain(t *testing.T) {
	rnd := rand.New(rand.NewSource(6))
	lost := 0
	for range 120 {
		o, mark := impl.Open(impl.Blank()), 0
		var there []impl.Note
		for gen := 2; gen < 12; gen++ {
			var more []impl.Note
			for range rnd.Intn(6) {
				mark++
				more = append(more, noteOf(anySize(rnd), mark))
			}
			o = writeAll(t, o, more, func(int) bool { return rnd.Intn(4) == 0 })
			there = append(there, more...)
			ways := losses(len(o.Disk.Waiting))
			kept := ways[rnd.Intn(len(ways))]
			if rnd.Intn(2) == 0 {
				for i := range kept {
					kept[i] = rnd.Intn(2) == 0
				}
			}
			safe := o.Log.Safe
			o = impl.Open(impl.Crash(o.Disk, kept))
			left := checkLeft(t, o, there, safe, gen)
			lost += len(there) - len(left)
			there = left
		}
	}
	if lost < 500 {
		t.Errorf("only %d notes were lost", lost)
	}
}

// The same with frames that make pages end where they do, so that elder pages stand just behind the end.
func TestThePowerGoesAtThePagesEnds(t *testing.T) {
	rnd := rand.New(rand.NewSource(7))
	for range 120 {
		o, mark := impl.Open(impl.Blank()), 0
		var there []impl.Note
		for gen := 2; gen < 12; gen++ {
			var more []impl.Note
			for range 1 + rnd.Intn(4) {
				mark++
				more = append(more, noteOf([]int{56, 56, 28, 112}[rnd.Intn(4)], mark))
			}
			o = writeAll(t, o, more, func(int) bool { return rnd.Intn(6) == 0 })
			there = append(there, more...)
			kept := make([]bool, len(o.Disk.Waiting))
			for i := range kept {
				kept[i] = i >= len(kept)/2 || rnd.Intn(3) == 0
			}
			safe := o.Log.Safe
			o = impl.Open(impl.Crash(o.Disk, kept))
			there = checkLeft(t, o, there, safe, gen)
		}
	}
}

// Pages of several elder openings stand behind the end; what is written next ends just where each of them begins.
func TestElderPagesDoNotComeBack(t *testing.T) {
	for first := range 3 {
		o := impl.Open(impl.Blank())
		o = impl.Commit(writeAll(t, o, notesOf(slices.Repeat([]int{56}, first)...), never))
		there := slices.Clone(o.Log.Notes)
		for round := range 10 {
			var lost []impl.Note
			for i := range 6 {
				lost = append(lost, noteOf(56, 100+10*round+i))
			}
			o = writeAll(t, o, lost, never)
			kept := slices.Repeat([]bool{true}, len(o.Disk.Waiting))
			kept[0] = false
			gen := o.Log.Gen + 1
			o = impl.Open(impl.Crash(o.Disk, kept))
			if !sameLog(o.Log, safeLog(gen, there...)) {
				t.Fatalf("round %d: %#v", round, o.Log)
			}
			for size := 56; size <= 168; size += 56 {
				next := impl.Commit(impl.Append(o, noteOf(size, 90)))
				if !sameLog(next.Log, safeLog(gen, append(slices.Clone(there), noteOf(size, 90))...)) {
					t.Fatalf("round %d, %d bytes: %#v", round, size, next.Log)
				}
				again := impl.Open(next.Disk)
				if !sameLog(again.Log, safeLog(gen+1, next.Log.Notes...)) {
					t.Fatalf("round %d, %d bytes, opened: %#v", round, size, again.Log)
				}
			}
		}
	}
}

// What is left behind a loss is safe: when the power goes at once again, with nothing written, nothing more is lost.
func TestThePowerGoesWithNothingWritten(t *testing.T) {
	notes := notesOf(30, 56, 217, 26, 56)
	o := writeAll(t, impl.Open(impl.Blank()), notes, never)
	for _, kept := range losses(len(o.Disk.Waiting)) {
		x := impl.Open(impl.Crash(o.Disk, kept))
		for gen := 3; gen < 13; gen++ {
			y := impl.Open(impl.Crash(x.Disk, kept))
			if !sameLog(y.Log, safeLog(gen, x.Log.Notes...)) {
				t.Fatalf("%v: %#v", kept, y.Log)
			}
			x = y
		}
	}
}

// severalOpenings is a log of several pages, of three generations, and all of it safe.
func severalOpenings(t *testing.T) impl.Opened {
	o := writeAll(t, impl.Open(impl.Blank()), notesOf(30, 60, 40, 17), never)
	o = writeAll(t, impl.Open(o.Disk), []impl.Note{noteOf(217, 5), noteOf(28, 6), noteOf(20, 7)}, never)
	o = impl.Commit(writeAll(t, impl.Open(o.Disk), []impl.Note{noteOf(92, 8), noteOf(56, 9), noteOf(17, 10)}, never))
	if len(o.Log.Notes) != 10 || o.Log.Gen != 3 || o.Log.Len != 577 {
		t.Fatalf("%#v", o.Log)
	}
	return o
}

// P6: with one byte of the first block spoilt there is nothing.
func TestAByteOfTheFirstBlockIsSpoilt(t *testing.T) {
	o := severalOpenings(t)
	for at := range 64 {
		for by := 1; by < 256; by++ {
			d := impl.Disk{Blocks: slices.Clone(o.Disk.Blocks)}
			d.Blocks[0] = slices.Clone(d.Blocks[0])
			d.Blocks[0][at] ^= byte(by)
			if got := impl.Scan(d); !sameLog(got, impl.Log{Ok: true}) {
				t.Fatalf("byte %d by %d: %#v", at, by, got)
			}
			if by != 1 && by != 255 {
				continue
			}
			if got := impl.Open(d); !sameOpened(got, impl.Opened{Ok: true, Log: safeLog(1), Disk: logDisk(1)}) {
				t.Fatalf("byte %d by %d, opened: %#v", at, by, got.Log)
			}
		}
	}
}

// P6: with one byte of a page spoilt those notes are left that lie whole ahead of it, and what is written then comes behind them.
func TestAByteOfAPageIsSpoilt(t *testing.T) {
	o := severalOpenings(t)
	for k := range 11 {
		var left []impl.Note
		for _, n := range o.Log.Notes {
			if len(textOf(append(left, n)...)) > k*56 {
				break
			}
			left = append(left, n)
		}
		for at := range 64 {
			for _, by := range []byte{1, 2, 16, 128, 255} {
				d := cloneDisk(o.Disk)
				d.Blocks[k+1][at] ^= by
				if got := impl.Scan(d); !sameLog(got, safeLog(3, left...)) {
					t.Fatalf("page %d, byte %d by %d: %#v", k, at, by, got)
				}
				if by != 1 {
					continue
				}
				x := impl.Open(d)
				if !sameLog(x.Log, safeLog(4, left...)) {
					t.Fatalf("page %d, byte %d, opened: %#v", k, at, x.Log)
				}
				// Some of these end just where a page of the log that was there begins.
				for _, size := range []int{17, 56 - x.Log.Len%56 + 56, 56 - x.Log.Len%56 + 112} {
					y := impl.Commit(impl.Append(x, noteOf(size, 70)))
					if want := safeLog(4, append(slices.Clone(left), noteOf(size, 70))...); !sameLog(y.Log, want) {
						t.Fatalf("page %d, byte %d, %d bytes more: %#v", k, at, size, y.Log)
					}
				}
			}
		}
	}
}

// A block behind the end is no part of the log: a byte spoilt there changes nothing.
func TestAByteBehindTheEndIsSpoilt(t *testing.T) {
	o := severalOpenings(t)
	for _, block := range []int{12, 13, 126, 127} {
		for at := range 64 {
			d := cloneDisk(o.Disk)
			d.Blocks[block][at] ^= 'L'
			if got := impl.Scan(d); !sameLog(got, o.Log) {
				t.Fatalf("block %d, byte %d: %#v", block, at, got)
			}
		}
	}
}
