package tests

import (
	"math/rand"
	"slices"
	"testing"

	"loop.example/tally/impl"
)

func checkScan(t *testing.T, what string, d impl.Disk, want impl.Log) {
	t.Helper()
	if got := impl.Scan(d); !sameLog(got, want) {
		t.Errorf("%s: %#v, not %#v", what, got, want)
	}
	if model := modelScan(d); !sameLog(model, want) {
		t.Errorf("%s: the test's own scan is %#v, not %#v", what, model, want)
	}
}

// safeLog is a log of which all is safe.
func safeLog(gen int, notes ...impl.Note) impl.Log {
	return impl.Log{Ok: true, Notes: notes, Len: len(textOf(notes...)), Gen: gen, Safe: len(notes)}
}

// wrongLogDisks are disks with a log that would be found if they were right.
func wrongLogDisks() []namedDisk {
	var out []namedDisk
	add := func(name string, change func(d *impl.Disk)) {
		d := logDisk(3, pagesOf(2, textOf(notesOf(20, 90, 30)...))...)
		change(&d)
		out = append(out, namedDisk{"a log, " + name, d})
	}
	add("127 blocks", func(d *impl.Disk) { d.Blocks = d.Blocks[:127] })
	add("129 blocks", func(d *impl.Disk) { d.Blocks = append(d.Blocks, make([]byte, 64)) })
	add("201 wait", func(d *impl.Disk) {
		d.Waiting = slices.Repeat([]impl.Write{{Block: 100, Bytes: make([]byte, 64)}}, 201)
	})
	add("a write of block 128", func(d *impl.Disk) { d.Waiting = []impl.Write{{Block: 128, Bytes: make([]byte, 64)}} })
	add("a write of block -1", func(d *impl.Disk) { d.Waiting = []impl.Write{{Block: -1, Bytes: make([]byte, 64)}} })
	add("a write of 63 bytes", func(d *impl.Disk) { d.Waiting = []impl.Write{{Block: 1, Bytes: make([]byte, 63)}} })
	add("the last block of 65 bytes", func(d *impl.Disk) { d.Blocks[127] = make([]byte, 65) })
	add("the first block of 63 bytes", func(d *impl.Disk) { d.Blocks[0] = d.Blocks[0][:63] })
	return append(out, wrongDisks()...)
}

func TestScanOfADiskThatIsNotRight(t *testing.T) {
	for _, x := range wrongLogDisks() {
		checkScan(t, x.name, x.disk, impl.Log{})
	}
}

func TestScanOfABlankDisk(t *testing.T) {
	checkScan(t, "blank", impl.Blank(), impl.Log{Ok: true})
	for _, x := range rightDisks() {
		checkScan(t, x.name, x.disk, impl.Log{Ok: true})
	}
}

func TestScanWithoutAFirstPage(t *testing.T) {
	pages := pagesOf(3, textOf(notesOf(30, 40)...))
	for name, first := range map[string][]byte{
		"zeros":                   make([]byte, 64),
		"a page with one byte":    pageBlock(3, []byte{0}),
		"a page with a frame":     pageBlock(3, textOf(notesOf(20)...)),
		"a page with 55 bytes":    pageBlock(3, make([]byte, 55)),
		"a page with 56 bytes":    pageBlock(3, make([]byte, 56)),
		"a page of generation 0":  rawPage{'L', 0, 0, 0, ""}.block(),
		"a page past MaxGen":      rawPage{'L', 1000000001, 0, 0, ""}.block(),
		"a page with a wrong end": rawPage{'L', 3, 0, 0, "x"}.block(),
		"another sign":            rawPage{'N', 3, 0, 0, ""}.block(),
		"no 0":                    rawPage{'L', 3, 0, 1, ""}.block(),
		"a wrong check":           append([]byte("L\x50\x03"), make([]byte, 61)...),
	} {
		d := logDisk(3, pages...)
		d.Blocks[0] = first
		checkScan(t, name, d, impl.Log{Ok: true})
	}
	checkScan(t, "a right one", logDisk(3, pages...), safeLog(3, notesOf(30, 40)...))
	d := logDisk(3, append([][]byte{pageBlock(3, nil)}, pages...)...)
	checkScan(t, "a page without bytes is the last one", d, impl.Log{Ok: true, Gen: 3})
	d.Blocks[0] = make([]byte, 64)
	checkScan(t, "the first page in the second block", d, impl.Log{Ok: true})
}

func TestScanOfAFirstPageAlone(t *testing.T) {
	for _, gen := range []int{1, 2, 256, 1000000000} {
		checkScan(t, "nothing behind it", logDisk(gen), impl.Log{Ok: true, Gen: gen})
	}
}

func TestScanOfGenerations(t *testing.T) {
	for _, c := range []struct {
		gen   int
		gens  []int
		taken int
	}{
		{5, []int{5, 5, 5}, 3},
		{5, []int{1, 1, 1}, 3},
		{5, []int{1, 2, 3, 4, 5, 5}, 6},
		{5, []int{1, 5}, 2},
		{5, []int{4, 5}, 2},
		{5, []int{5, 4}, 1},
		{5, []int{5, 4, 5}, 1},
		{5, []int{5, 1}, 1},
		{5, []int{2, 4, 3}, 2},
		{5, []int{2, 4, 3, 4, 5}, 2},
		{5, []int{3, 3, 2}, 2},
		{5, []int{6}, 0},
		{5, []int{6, 5}, 0},
		{5, []int{6, 6, 6}, 0},
		{5, []int{5, 6}, 1},
		{5, []int{5, 6, 5}, 1},
		{5, []int{1, 5, 5, 6}, 3},
		{5, []int{1, 1000000000}, 1},
		{1, []int{1, 1}, 2},
		{1, []int{1, 2}, 1},
		{1, []int{2}, 0},
		{1000000000, []int{1, 999999999, 1000000000}, 3},
		{1000000000, []int{1000000000, 999999999}, 1},
	} {
		var pages [][]byte
		var notes []impl.Note
		for i, gen := range c.gens {
			n := noteOf(56, i)
			pages = append(pages, pageBlock(gen, textOf(n)))
			if i < c.taken {
				notes = append(notes, n)
			}
		}
		d := logDisk(c.gen, pages...)
		checkScan(t, "all safe", d, safeLog(c.gen, notes...))
	}
}

// A page that is not full ends the log, whatever stands behind it.
func TestScanEndsAtAPageThatIsNotFull(t *testing.T) {
	first, last := noteOf(56, 1), noteOf(56, 3)
	for size := range 56 {
		text, notes := textOf(noteOf(50, 2))[:min(size, 49)], []impl.Note{first}
		if size >= 17 {
			notes = append(notes, noteOf(size, 2))
			text = textOf(noteOf(size, 2))
		}
		for _, gen := range []int{1, 2, 3, 4} {
			d := logDisk(3, pageBlock(1, textOf(first)), pageBlock(2, text), pageBlock(gen, textOf(last)))
			checkScan(t, "not full", d, safeLog(3, notes...))
		}
	}
	d := logDisk(3, pageBlock(2, nil), pageBlock(2, textOf(first)))
	checkScan(t, "the first is empty", d, impl.Log{Ok: true, Gen: 3})
}

// The bytes of a page that is not full are joined to nothing behind it.
func TestScanJoinsNothingToAPageThatIsNotFull(t *testing.T) {
	text := textOf(notesOf(56, 60)...)
	for size := 4; size < 56; size++ {
		d := logDisk(3, pageBlock(1, text[:56]), pageBlock(1, text[56:56+size]), pageBlock(1, text[56+size:]))
		checkScan(t, "a frame in two parts", d, safeLog(3, noteOf(56, 1)))
	}
	whole := logDisk(3, pageBlock(1, text[:56]), pageBlock(1, text[56:112]), pageBlock(1, text[112:]))
	checkScan(t, "a full page", whole, safeLog(3, notesOf(56, 60)...))
}

func TestScanOfALogThatEndsJustWithAPage(t *testing.T) {
	elder := pageBlock(1, textOf(noteOf(56, 9)))
	own := pageBlock(2, textOf(noteOf(56, 9)))
	for _, sizes := range [][]int{{56}, {17, 39}, {56, 56}, {112}, {100, 12 + 17, 17 + 22}, {200, 80}} {
		notes := notesOf(sizes...)
		pages := pagesOf(2, textOf(notes...))
		if len(textOf(notes...))%56 != 0 {
			t.Fatal(sizes)
		}
		checkScan(t, "zeros behind it", logDisk(2, pages...), safeLog(2, notes...))
		checkScan(t, "an elder page behind it", logDisk(2, append(slices.Clone(pages), elder)...), safeLog(2, notes...))
		checkScan(t, "no page behind it", logDisk(2, append(slices.Clone(pages), filled('L'))...), safeLog(2, notes...))
		checkScan(t, "an empty page behind it", logDisk(2, append(slices.Clone(pages), pageBlock(2, nil))...), safeLog(2, notes...))
		checkScan(t, "a page of its own behind it", logDisk(2, append(slices.Clone(pages), own)...), safeLog(2, append(notes, noteOf(56, 9))...))
	}
}

func TestScanOfAFullDisk(t *testing.T) {
	var notes []impl.Note
	for i := range 127 {
		notes = append(notes, noteOf(56, i))
	}
	checkScan(t, "full", logDisk(2, pagesOf(1, textOf(notes...))...), safeLog(2, notes...))
	notes[126] = noteOf(55, 126)
	checkScan(t, "one byte short", logDisk(2, pagesOf(1, textOf(notes...))...), safeLog(2, notes...))
}

func TestScanOfFramesOverPages(t *testing.T) {
	for _, sizes := range [][]int{{57}, {50, 20}, {40, 130}, {50, 217}, {56, 217}, {55, 217}, {217, 217, 217}, {17, 39, 112, 217}, {50, 17, 17, 17, 217, 60}} {
		notes := notesOf(sizes...)
		checkScan(t, "over pages", logDisk(4, pagesOf(4, textOf(notes...))...), safeLog(4, notes...))
	}
	if n := len(pagesOf(4, textOf(notesOf(50, 217)...))); n != 5 {
		t.Errorf("%d pages, not five", n)
	}
}

// A part of the last frame is lost: each of its ends, and each of its pages.
func TestScanOfAFrameThatIsNotWhole(t *testing.T) {
	for _, sizes := range [][]int{{17}, {217}, {30, 17}, {30, 217}, {56, 56}, {56, 57}, {50, 217}, {20, 20, 112}} {
		notes := notesOf(sizes...)
		ahead := notes[:len(notes)-1]
		text := textOf(notes...)
		from := len(textOf(ahead...))
		for end := from; end < len(text); end++ {
			checkScan(t, "an end is lost", logDisk(2, pagesOf(1, text[:end])...), safeLog(2, ahead...))
		}
		for k := from / 56; k*56 < len(text); k++ {
			pages := pagesOf(1, text)
			pages[k] = make([]byte, 64)
			if k*56 >= from {
				checkScan(t, "a page is lost", logDisk(2, pages...), safeLog(2, ahead...))
			}
		}
	}
}

func TestScanStopsAtBytesThatAreNoFrame(t *testing.T) {
	first, last := noteOf(20, 1), noteOf(25, 3)
	for name, between := range map[string][]byte{
		"a zero":       {0},
		"another sign": append([]byte{'M'}, textOf(noteOf(30, 2))[1:]...),
		"a wrong tick": raw{sign: 'N', tick: 1000000001}.bytes(),
		"a wrong kind": raw{sign: 'N', kind: 101}.bytes(),
		"a wrong who":  raw{sign: 'N', who: 1001}.bytes(),
		"a long text":  raw{sign: 'N', size: 201, text: everyByte(201)}.bytes(),
	} {
		text := slices.Concat(textOf(first), between, textOf(last))
		checkScan(t, name, logDisk(2, pagesOf(2, text)...), safeLog(2, first))
	}
}

func waitFor(d impl.Disk, block int, b []byte) impl.Disk {
	d = cloneDisk(d)
	d.Waiting = append(d.Waiting, impl.Write{Block: block, Bytes: b})
	return d
}

func TestScanSeesWhatWaits(t *testing.T) {
	notes := notesOf(30, 40, 17)
	text := textOf(notes...)
	d := logDisk(2, pageBlock(2, text[:30]))
	one := waitFor(d, 1, pageBlock(2, text[:56]))
	checkScan(t, "half of the second", one, safeLog(2, notes[:1]...))
	two := waitFor(one, 2, pageBlock(2, text[56:70]))
	checkScan(t, "all of the second", two, impl.Log{Ok: true, Notes: notes[:2], Len: 70, Gen: 2, Safe: 1})
	three := waitFor(two, 2, pageBlock(2, text[56:]))
	checkScan(t, "all three", three, impl.Log{Ok: true, Notes: notes, Len: 87, Gen: 2, Safe: 1})
	four := waitFor(three, 1, pageBlock(2, text[:30]))
	checkScan(t, "the later write stands", four, safeLog(2, notes[:1]...))
}

func TestSafe(t *testing.T) {
	notes := notesOf(30, 40, 17, 60)
	text := textOf(notes...)
	d := logDisk(2, pagesOf(2, text)...)
	checkScan(t, "nothing waits", d, safeLog(2, notes...))
	blank := impl.Disk{Blocks: cloneLists(rightDisks()[0].disk.Blocks)}
	for k, b := range d.Blocks[:4] {
		blank = waitFor(blank, k, b)
	}
	checkScan(t, "all waits", blank, impl.Log{Ok: true, Notes: notes, Len: 147, Gen: 2})
	gone := waitFor(d, 2, make([]byte, 64))
	checkScan(t, "less is seen than is safe", gone, safeLog(2, notes[0]))
	gone = waitFor(d, 0, make([]byte, 64))
	checkScan(t, "nothing is seen", gone, impl.Log{Ok: true})
	gone = waitFor(d, 0, pageBlock(3, nil))
	checkScan(t, "a new generation waits", gone, safeLog(3, notes...))
	later := waitFor(waitFor(d, 0, pageBlock(3, nil)), 3, pageBlock(3, text[112:]))
	checkScan(t, "a page of it too", later, safeLog(3, notes...))
	later = logDisk(2, pageBlock(1, text[:56]), pageBlock(3, text[56:112]), pageBlock(3, text[112:]))
	checkScan(t, "pages of a later generation", later, safeLog(2, notes[0]))
	checkScan(t, "that waits", waitFor(later, 0, pageBlock(3, nil)), impl.Log{Ok: true, Notes: notes, Len: 147, Gen: 3, Safe: 1})
}

// What is safe has, at some place, a note that differs in one field: those ahead of it are safe, and none behind it.
func TestSafeWithOneFieldChanged(t *testing.T) {
	notes := notesOf(20, 20, 20, 20, 20)
	for at := range notes {
		for name, change := range map[string]func(n *impl.Note){
			"tick":   func(n *impl.Note) { n.Tick++ },
			"kind":   func(n *impl.Note) { n.Kind++ },
			"who":    func(n *impl.Note) { n.Who++ },
			"n":      func(n *impl.Note) { n.N++ },
			"text":   func(n *impl.Note) { n.Text = n.Text[:2] + "\x00" },
			"length": func(n *impl.Note) { n.Text = n.Text[:2] },
		} {
			other := slices.Clone(notes)
			change(&other[at])
			d := logDisk(2, pagesOf(2, textOf(other...))...)
			for k, b := range pagesOf(2, textOf(notes...)) {
				d = waitFor(d, k+1, b)
			}
			checkScan(t, name, d, impl.Log{Ok: true, Notes: notes, Len: 100, Gen: 2, Safe: at})
		}
	}
}

// The same notes at other places are not safe.
func TestSafeAtOtherPlaces(t *testing.T) {
	notes := notesOf(20, 20, 20)
	d := logDisk(2, pagesOf(2, textOf(notes[1], notes[0], notes[2]))...)
	for k, b := range pagesOf(2, textOf(notes...)) {
		d = waitFor(d, k+1, b)
	}
	checkScan(t, "another order", d, impl.Log{Ok: true, Notes: notes, Len: 60, Gen: 2})
	d = logDisk(2, pagesOf(2, textOf(notes[1:]...))...)
	for k, b := range pagesOf(2, textOf(notes...)) {
		d = waitFor(d, k+1, b)
	}
	checkScan(t, "one place on", d, impl.Log{Ok: true, Notes: notes, Len: 60, Gen: 2})
}

// anyDisk is a disk with some log on it: pages of some generations, with frames and with what is none, writes that wait.
func anyDisk(rnd *rand.Rand) impl.Disk {
	var text []byte
	for i := range 2 + rnd.Intn(20) {
		text = append(text, textOf(noteOf(anySize(rnd), i))...)
		if rnd.Intn(12) == 0 {
			text = append(text, 'N', 200, byte(rnd.Intn(256)))
		}
	}
	gen := 1 + rnd.Intn(5)
	d := logDisk(gen)
	if rnd.Intn(12) == 0 {
		d.Blocks[0] = pageBlock(gen, text[:rnd.Intn(20)])
	}
	for k, b := range anyPages(rnd, gen, text) {
		d.Blocks[k+1] = b
	}
	if rnd.Intn(2) == 0 {
		for k, b := range anyPages(rnd, gen, text) {
			if rnd.Intn(3) > 0 {
				d.Waiting = append(d.Waiting, impl.Write{Block: k + 1, Bytes: b})
			}
		}
	}
	if rnd.Intn(8) == 0 {
		d.Waiting = append(d.Waiting, impl.Write{Block: 0, Bytes: pageBlock(gen+rnd.Intn(2), nil)})
	}
	return d
}

func anySize(rnd *rand.Rand) int {
	sizes := []int{17, 18, 28, 39, 55, 56, 57, 111, 112, 113, 168, 216, 217}
	if rnd.Intn(2) == 0 {
		return sizes[rnd.Intn(len(sizes))]
	}
	return 17 + rnd.Intn(201)
}

func anyPages(rnd *rand.Rand, gen int, text []byte) [][]byte {
	var blocks [][]byte
	own := 1 + rnd.Intn(gen)
	for k := 0; k*56 < len(text) && k < 127; k++ {
		b := pageBlock(own, pageText(text, k))
		switch rnd.Intn(40) {
		case 0:
			own = 1 + rnd.Intn(gen+1)
		case 1, 2, 3:
			own = min(gen, own+1)
		case 4:
			b = pageBlock(own, pageText(text, k)[:rnd.Intn(len(pageText(text, k)))])
		case 5:
			b[rnd.Intn(64)] ^= byte(rnd.Intn(256))
		}
		blocks = append(blocks, b)
	}
	return blocks
}

// The source is seeded: the disks are the same at every run.
func TestScanAtRandom(t *testing.T) {
	rnd := rand.New(rand.NewSource(4))
	notes, part := 0, 0
	for range 3000 {
		d := anyDisk(rnd)
		want := modelScan(d)
		notes += len(want.Notes)
		if want.Safe > 0 && want.Safe < len(want.Notes) {
			part++
		}
		if got := impl.Scan(d); !sameLog(got, want) {
			t.Fatalf("%#v, not %#v", got, want)
		}
	}
	if notes < 5000 || part < 100 {
		t.Errorf("too little was there: %d notes, %d logs that are safe in part", notes, part)
	}
}

func TestScanSharesNoMemory(t *testing.T) {
	notes := notesOf(30, 40, 17)
	d := logDisk(2, pagesOf(2, textOf(notes...))...)
	d = waitFor(d, 1, d.Blocks[1])
	was := cloneDisk(d)
	first, second := impl.Scan(d), impl.Scan(d)
	if !sameDisk(d, was) {
		t.Fatal("the argument is another")
	}
	clear(first.Notes[:cap(first.Notes)])
	if !sameLog(second, safeLog(2, notes...)) || !sameDisk(d, was) {
		t.Error("two scans share their notes")
	}
	ruin(d)
	if !sameLog(second, safeLog(2, notes...)) {
		t.Error("the notes changed with the disk")
	}
	for _, x := range append(wrongLogDisks(), rightDisks()...) {
		was := cloneDisk(x.disk)
		if impl.Scan(x.disk); !sameDisk(x.disk, was) {
			t.Errorf("%s: the argument is another", x.name)
		}
	}
}
