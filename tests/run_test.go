package tests

import (
	"math"
	"math/rand"
	"slices"
	"strconv"
	"testing"

	"loop.example/tally/impl"
)

func TestTheActsAreThoseOfTheDocument(t *testing.T) {
	if impl.AWrite != 1 || impl.ASafe != 2 || impl.ALose != 3 || impl.AAsk != 4 || impl.ASpoil != 5 || impl.MaxActs != 300 {
		t.Error(impl.AWrite, impl.ASafe, impl.ALose, impl.AAsk, impl.ASpoil, impl.MaxActs)
	}
}

func TestRunOfNoActs(t *testing.T) {
	checkRun(t, "nil", nil, nil)
	checkRun(t, "an empty list", []impl.Act{}, nil)
}

func TestRunOfAsManyActsAsMay(t *testing.T) {
	for _, a := range []impl.Act{{}, acSafe(), acAsk(anything()), acLose(), acWrite(noteOf(17, 1)), acSpoil(0, 1)} {
		one := impl.Run([]impl.Act{a})
		if len(one) != 1 {
			t.Fatalf("%#v: %v", a, one)
		}
		for _, size := range []int{299, 300} {
			if got := impl.Run(slices.Repeat([]impl.Act{a}, size)); len(got) != size || !sameActed(got[0], one[0]) {
				t.Errorf("%d of %#v: %v", size, a, got)
			}
		}
		for _, size := range []int{301, 302, 1000} {
			if got := impl.Run(slices.Repeat([]impl.Act{a}, size)); len(got) != 0 {
				t.Errorf("%d of %#v: %v", size, a, got)
			}
		}
	}
	var acts []impl.Act
	var want []impl.Acted
	for i := range 150 {
		acts = append(acts, acWrite(noteOf(17, i)), acAsk(askTicks(i, i)))
		want = append(want, impl.Acted{Notes: i + 1}, impl.Acted{Notes: i + 1, Found: []int{i}})
	}
	checkRun(t, "300 acts", acts, want)
}

func TestRunOfEachOp(t *testing.T) {
	before := []impl.Act{acWrite(noteOf(20, 1)), acSafe(), acWrite(noteOf(30, 2))}
	start := []impl.Acted{{Notes: 1}, {Notes: 1, Safe: 1}, {Notes: 2, Safe: 1}}
	deeds := map[int]impl.Acted{
		1: {Notes: 3, Safe: 1},
		2: {Notes: 2, Safe: 2},
		3: {Notes: 1, Safe: 1},
		4: {Notes: 2, Safe: 1, Found: []int{0, 1}},
		5: {Notes: 2, Safe: 2},
	}
	for _, op := range []int{math.MinInt, -300, -5, -4, -3, -2, -1, 0, 1, 2, 3, 4, 5, 6, 7, 8, 9, 10, 255, 256, 257, 258, 300, 1<<32 + 1, math.MaxInt} {
		want, ok := deeds[op]
		if !ok {
			want = impl.Acted{Code: 1, Notes: 2, Safe: 1}
		}
		found := []int{0, 1, 2}[:want.Notes]
		a := impl.Act{Op: op, Note: noteOf(40, 3), Ask: anything(), At: 8191, By: 1}
		acts := append(slices.Clone(before), a, acAsk(anything()))
		wants := append(slices.Clone(start), want, impl.Acted{Notes: want.Notes, Safe: want.Safe, Found: found})
		checkRun(t, "Op "+strconv.Itoa(op), acts, wants)
	}
}

// What belongs to another act does not matter to this one, be it wrong.
func TestRunLooksAtWhatBelongsToTheAct(t *testing.T) {
	bad := impl.Act{Note: impl.Note{Tick: -1}, Kept: make([]bool, 201), Ask: askTicks(1, 0), At: -1, By: 0}
	for op, change := range map[int]func(a *impl.Act){
		1: func(a *impl.Act) { a.Note = noteOf(40, 3) },
		2: func(a *impl.Act) {},
		3: func(a *impl.Act) { a.Kept = nil },
		4: func(a *impl.Act) { a.Ask = anything() },
		5: func(a *impl.Act) { a.At, a.By = 8191, 1 },
	} {
		a := bad
		a.Op = op
		change(&a)
		plain := impl.Act{Op: op}
		change(&plain)
		before := acWrites(notesOf(20, 30)...)
		got, want := impl.Run(append(before, a)), impl.Run(append(before, plain))
		if got[2].Code != 0 || differ(got, want) >= 0 {
			t.Errorf("Op %d: %v, not %v", op, got, want)
		}
	}
}

func TestRunWritesNotes(t *testing.T) {
	var acts []impl.Act
	var want []impl.Acted
	for i, n := range goodNotes() {
		exact := impl.Ask{From: n.Tick, To: n.Tick, Kind: n.Kind, Who: n.Who, Part: n.Text}
		acts = append(acts, acWrite(n), acAsk(exact))
		found := modelFind(goodNotes()[:i+1], exact)
		if !slices.Contains(found, i) {
			t.Fatalf("note %d: %v", i, found)
		}
		want = append(want, impl.Acted{Notes: i + 1}, impl.Acted{Notes: i + 1, Found: found})
	}
	checkRun(t, "notes", acts, want)
}

func TestRunOfNotesThatAreNone(t *testing.T) {
	for i, n := range badNotes() {
		acts := []impl.Act{acWrite(n), acWrite(noteOf(20, 1)), acSafe(), acWrite(noteOf(20, 2)), acWrite(n), acAsk(anything()), acWrite(noteOf(20, 3))}
		want := []impl.Acted{{Code: 1}, {Notes: 1}, {Notes: 1, Safe: 1}, {Notes: 2, Safe: 1}, {Code: 1, Notes: 2, Safe: 1}, {Notes: 2, Safe: 1, Found: []int{0, 1}}, {Notes: 3, Safe: 1}}
		checkRun(t, "note "+strconv.Itoa(i), acts, want)
	}
}

// placesOf is a list of so many places, of which the first ones are true.
func placesOf(size, kept int) []bool {
	list := make([]bool, size)
	for i := range kept {
		list[i] = true
	}
	return list
}

func TestRunLoses(t *testing.T) {
	// One is safe; of the others each is one page that waits.
	before := []impl.Act{acWrite(noteOf(56, 1)), acSafe(), acWrite(noteOf(56, 2)), acWrite(noteOf(56, 3)), acWrite(noteOf(56, 4))}
	start := []impl.Acted{{Notes: 1}, {Notes: 1, Safe: 1}, {Notes: 2, Safe: 1}, {Notes: 3, Safe: 1}, {Notes: 4, Safe: 1}}
	for i, c := range []struct {
		kept []bool
		left int
	}{
		{nil, 1},
		{[]bool{}, 1},
		{[]bool{false}, 1},
		{[]bool{true}, 2},
		{[]bool{true, true}, 3},
		{[]bool{false, true}, 1},
		{[]bool{true, false}, 2},
		{[]bool{true, true, true}, 4},
		{[]bool{true, true, false}, 3},
		{[]bool{true, false, true}, 2},
		{[]bool{false, true, true}, 1},
		{[]bool{true, true, true, true}, 4},
		{[]bool{false, false, false, true}, 1},
		{[]bool{true, true, true, false, true}, 4},
		{placesOf(199, 199), 4},
		{placesOf(200, 200), 4},
		{placesOf(200, 2), 3},
		{placesOf(200, 0), 1},
		{placesOf(201, 201)[:200], 4},
	} {
		acts := append(slices.Clone(before), impl.Act{Op: impl.ALose, Kept: c.kept}, acAsk(anything()), acLose(), acWrite(noteOf(56, 5)), acAsk(askTicks(5, 5)))
		found := []int{0, 1, 2, 3}[:c.left]
		want := append(slices.Clone(start), impl.Acted{Notes: c.left, Safe: c.left}, impl.Acted{Notes: c.left, Safe: c.left, Found: found},
			impl.Acted{Notes: c.left, Safe: c.left}, impl.Acted{Notes: c.left + 1, Safe: c.left}, impl.Acted{Notes: c.left + 1, Safe: c.left, Found: []int{c.left}})
		checkRun(t, "Kept "+strconv.Itoa(i), acts, want)
	}
	for _, kept := range [][]bool{placesOf(201, 0), placesOf(201, 201), placesOf(202, 1), placesOf(1000, 1000)} {
		acts := append(slices.Clone(before), acLose(kept...), acAsk(anything()), acSafe())
		want := append(slices.Clone(start), impl.Acted{Code: 1, Notes: 4, Safe: 1}, impl.Acted{Notes: 4, Safe: 1, Found: []int{0, 1, 2, 3}}, impl.Acted{Notes: 4, Safe: 4})
		checkRun(t, strconv.Itoa(len(kept))+" places", acts, want)
	}
}

func TestRunLosesNothingThatWaitsNot(t *testing.T) {
	acts := []impl.Act{acLose(), acLose(true, true), acWrite(noteOf(40, 1)), acSafe(), acLose(), acLose(placesOf(200, 200)...), acAsk(anything())}
	want := []impl.Acted{{}, {}, {Notes: 1}, {Notes: 1, Safe: 1}, {Notes: 1, Safe: 1}, {Notes: 1, Safe: 1}, {Notes: 1, Safe: 1, Found: []int{0}}}
	checkRun(t, "nothing waits", acts, want)
}

// spoilt is three notes that take a page each, then one byte is spoilt, and all is asked.
func spoilt(safe bool, at, by int) []impl.Act {
	acts := acWrites(notesOf(56, 56, 56)...)
	if safe {
		acts = append(acts, acSafe())
	}
	return append(acts, acSpoil(at, by), acAsk(anything()), acWrite(noteOf(56, 9)), acAsk(askTicks(9, 9)))
}

func checkSpoilt(t *testing.T, at, by, left int) {
	t.Helper()
	for _, safe := range []bool{true, false} {
		want := []impl.Acted{{Notes: left, Safe: left}, {Notes: left, Safe: left, Found: []int{0, 1, 2}[:left]}, {Notes: left + 1, Safe: left}, {Notes: left + 1, Safe: left, Found: []int{left}}}
		checkEnd(t, "byte "+strconv.Itoa(at)+" by "+strconv.Itoa(by), spoilt(safe, at, by), want...)
	}
}

// checkUnspoilt asks that an act was wrong, and that all is as it was: what waited waits yet.
func checkUnspoilt(t *testing.T, at, by int) {
	t.Helper()
	want := []impl.Acted{{Code: 1, Notes: 3}, {Notes: 3, Found: []int{0, 1, 2}}, {Notes: 4}, {Notes: 4, Found: []int{3}}}
	checkEnd(t, "byte "+strconv.Itoa(at)+" by "+strconv.Itoa(by), spoilt(false, at, by), want...)
	for i := range want {
		want[i].Safe = 3
	}
	checkEnd(t, "byte "+strconv.Itoa(at)+" by "+strconv.Itoa(by), spoilt(true, at, by), want...)
}

func TestRunSpoilsAByte(t *testing.T) {
	for at, left := range map[int]int{0: 0, 1: 0, 8: 0, 63: 0, 64: 0, 127: 0, 128: 1, 191: 1, 192: 2, 255: 2, 256: 3, 319: 3, 8127: 3, 8128: 3, 8191: 3} {
		for _, by := range []int{1, 2, 76, 128, 255} {
			checkSpoilt(t, at, by, left)
		}
		for _, by := range []int{0, -1, -2, -255, -256, 256, 257, 511, 512, math.MinInt, math.MaxInt} {
			checkUnspoilt(t, at, by)
		}
	}
	for _, at := range []int{-1, -2, -64, -8192, 8192, 8193, 16384, math.MinInt, math.MaxInt} {
		for _, by := range []int{1, 255, 0, 256} {
			checkUnspoilt(t, at, by)
		}
	}
}

// Every byte of the blocks of a log whose frames lie across pages.
func TestRunSpoilsEachByte(t *testing.T) {
	sizes := []int{30, 60, 40, 17, 100}
	before := append(acWrites(notesOf(sizes...)...), acSafe())
	// On 247 bytes there are 5 pages: 30 ends on page 0, 90 on page 1, 130 and 147 on page 2, 247 on page 4.
	left := []int{0, 0, 1, 2, 4, 4, 5, 5}
	for at := range 8 * 64 {
		acts := append(slices.Clone(before), acSpoil(at, 1+at%255))
		n := left[at/64]
		if got := impl.Run(acts); len(got) != 7 || !sameActed(got[6], impl.Acted{Notes: n, Safe: n}) {
			t.Errorf("byte %d: %v", at, got)
		}
	}
}

// A byte that is spoilt twice in the same way is as it was, but what was lost does not come back.
func TestRunSpoilsAByteTwice(t *testing.T) {
	// On 170 bytes there are 4 pages, the last of two bytes.
	for at := range 6 * 64 {
		acts := append(acWrites(notesOf(30, 100, 40)...), acSafe(), acSpoil(at, 5), acSpoil(at, 5), acWrite(noteOf(56, 9)), acAsk(anything()))
		n := []int{0, 0, 1, 1, 2, 3}[at/64]
		found := []int{0, 1, 2, 3}[:n+1]
		checkEnd(t, "byte "+strconv.Itoa(at), acts, impl.Acted{Notes: n, Safe: n}, impl.Acted{Notes: n, Safe: n}, impl.Acted{Notes: n + 1, Safe: n}, impl.Acted{Notes: n + 1, Safe: n, Found: found})
	}
}

// What spoils bytes can make a page of them too: one of the eighth opening, in the block behind the one in which the log ends. A log that comes up to it goes on into it.
func TestRunSpoilsByXor(t *testing.T) {
	page := pageBlock(8, textOf(impl.Note{Tick: 7}))
	acts := []impl.Act{acWrite(noteOf(30, 1)), acSafe(), acSpoil(128, 1)}
	page[0] ^= 1
	for i, b := range page {
		if b != 0 {
			acts = append(acts, acSpoil(128+i, int(b)))
		}
	}
	if len(acts) != 9 {
		t.Fatalf("%d acts", len(acts))
	}
	acts = append(acts, acAsk(anything()), acWrite(noteOf(26, 2)), acAsk(askTicks(7, 7)), acSafe())
	checkEnd(t, "a page of spoilt bytes", acts, impl.Acted{Notes: 1, Safe: 1}, impl.Acted{Notes: 1, Safe: 1, Found: []int{0}}, impl.Acted{Notes: 3, Safe: 1}, impl.Acted{Notes: 3, Safe: 1, Found: []int{2}}, impl.Acted{Notes: 3, Safe: 3})
}

// When the first block is spoilt the log begins anew, as often as that happens.
func TestRunBeginsAnew(t *testing.T) {
	var acts []impl.Act
	var want []impl.Acted
	for round := range 20 {
		acts = append(acts, acWrite(noteOf(56, 1+round)), acWrite(noteOf(100, 101+round)), acLose(true), acWrite(noteOf(56, 201+round)), acSafe(), acAsk(anything()), acSpoil(round, 1+round))
		want = append(want, impl.Acted{Notes: 1}, impl.Acted{Notes: 2}, impl.Acted{Notes: 1, Safe: 1}, impl.Acted{Notes: 2, Safe: 1}, impl.Acted{Notes: 2, Safe: 2}, impl.Acted{Notes: 2, Safe: 2, Found: []int{0, 1}}, impl.Acted{})
	}
	checkRun(t, "anew", acts, want)
}

// All 32 notes take 6944 of 7112 bytes: there is room for 168.
func TestRunWithNoRoom(t *testing.T) {
	before := acWrites(fullNotes()[:32]...)
	acts := append(slices.Clone(before), acWrite(noteOf(169, 90)), acAsk(askTicks(90, 90)), acWrite(noteOf(217, 91)), acSafe(), acWrite(noteOf(169, 92)), acWrite(noteOf(168, 93)), acWrite(noteOf(17, 94)), acAsk(askTicks(90, 99)), acLose(placesOf(200, 200)...), acWrite(noteOf(17, 95)), acLose(), acAsk(askTicks(32, 99)))
	checkEnd(t, "no room", acts,
		impl.Acted{Code: 2, Notes: 32}, impl.Acted{Notes: 32}, impl.Acted{Code: 2, Notes: 32}, impl.Acted{Notes: 32, Safe: 32},
		impl.Acted{Code: 2, Notes: 32, Safe: 32}, impl.Acted{Notes: 33, Safe: 32}, impl.Acted{Code: 2, Notes: 33, Safe: 32}, impl.Acted{Notes: 33, Safe: 32, Found: []int{32}},
		impl.Acted{Notes: 33, Safe: 33}, impl.Acted{Code: 2, Notes: 33, Safe: 33}, impl.Acted{Notes: 33, Safe: 33}, impl.Acted{Notes: 33, Safe: 33, Found: []int{32}})
	// What is lost makes room again.
	acts = append(slices.Clone(before), acSafe(), acWrite(noteOf(168, 93)), acWrite(noteOf(17, 94)), acLose(), acWrite(noteOf(151, 95)), acWrite(noteOf(18, 96)), acWrite(noteOf(17, 97)), acWrite(noteOf(17, 98)))
	checkEnd(t, "room again", acts, impl.Acted{Notes: 32, Safe: 32}, impl.Acted{Notes: 33, Safe: 32}, impl.Acted{Code: 2, Notes: 33, Safe: 32}, impl.Acted{Notes: 32, Safe: 32}, impl.Acted{Notes: 33, Safe: 32}, impl.Acted{Code: 2, Notes: 33, Safe: 32}, impl.Acted{Notes: 34, Safe: 32}, impl.Acted{Code: 2, Notes: 34, Safe: 32})
}

// waiting writes notes of half a page, of each of which one page waits.
func waiting(t *testing.T, n int) []impl.Act {
	acts := acWrites(notesOf(slices.Repeat([]int{28}, n)...)...)
	if _, o := testsMeans().run(acts); len(o.Disk.Waiting) != n || len(o.Log.Notes) != n {
		t.Fatalf("%d wait, not %d", len(o.Disk.Waiting), n)
	}
	return acts
}

func TestRunWithTooManyThatWait(t *testing.T) {
	ok := func(notes, safe int) impl.Acted { return impl.Acted{Notes: notes, Safe: safe} }
	no := func(notes, safe int) impl.Acted { return impl.Acted{Code: 2, Notes: notes, Safe: safe} }
	w := func(size int) impl.Act { return acWrite(noteOf(size, 900+size)) }
	// 200 wait: none more may, until all is safe.
	acts := append(waiting(t, 200), w(17), w(28), acSafe(), w(28), w(113))
	checkEnd(t, "200 wait", acts, ok(200, 0), no(200, 0), no(200, 0), ok(200, 200), ok(201, 200), ok(202, 200))
	// 199 wait, and the last page is half full: a note of two pages is one too many.
	acts = append(waiting(t, 199), w(29), w(28), w(17), acSafe(), w(29), acSafe())
	checkEnd(t, "199 wait", acts, ok(199, 0), no(199, 0), ok(200, 0), no(200, 0), ok(200, 200), ok(201, 200), ok(201, 201))
	// 198 wait, and the last page is full: of three pages two could be laid, and must not be.
	acts = append(waiting(t, 198), w(113), w(217), w(112), w(17), acSafe(), w(17))
	checkEnd(t, "198 wait", acts, ok(198, 0), no(198, 0), no(198, 0), ok(199, 0), no(199, 0), ok(199, 199), ok(200, 199))
	// With five pages to lay and four that may.
	acts = append(waiting(t, 197), w(141), w(140), w(17), acAsk(askTicks(900, 9999)), acLose(placesOf(200, 200)...))
	checkEnd(t, "197 wait", acts, ok(197, 0), no(197, 0), ok(198, 0), no(198, 0), impl.Acted{Notes: 198, Found: []int{197}}, ok(198, 198))
}

// Behind a write that was refused what waits is just what waited: which writes are kept is told by their places.
func TestRunRefusedLeavesWhatWaits(t *testing.T) {
	before := append(waiting(t, 198), acWrite(noteOf(113, 900)), acWrite(noteOf(217, 901)), acWrite(noteOf(112, 902)), acWrite(noteOf(17, 903)))
	for _, c := range []struct {
		kept []bool
		left int
	}{
		{placesOf(200, 200), 199},
		{placesOf(200, 199), 198},
		{placesOf(200, 198), 198},
		{placesOf(200, 197), 197},
		{placesOf(200, 100), 100},
		{placesOf(200, 1), 1},
		{nil, 0},
	} {
		acts := append(slices.Clone(before), impl.Act{Op: impl.ALose, Kept: c.kept}, acWrite(noteOf(56, 904)), acSafe(), acAsk(askTicks(900, 999)))
		n := c.left
		last := []int{n}
		if n == 199 {
			last = []int{198, 199}
		}
		checkEnd(t, strconv.Itoa(n)+" are left", acts, impl.Acted{Notes: n, Safe: n}, impl.Acted{Notes: n + 1, Safe: n}, impl.Acted{Notes: n + 1, Safe: n + 1}, impl.Acted{Notes: n + 1, Safe: n + 1, Found: last})
	}
}

// All of it is asked, with what is not safe; what is lost is not.
func TestRunAsks(t *testing.T) {
	notes := []impl.Note{{Tick: 5, Kind: 1, Who: 2, Text: "rain"}, {Tick: 3, Kind: 2, Who: 2, Text: "grain"}, {Tick: 5, Kind: 2, Who: 1, Text: "sun"}, {Tick: 9, Kind: 1, Who: 1}}
	acts := []impl.Act{acAsk(anything()), acWrite(notes[0]), acWrite(notes[1]), acSafe(), acWrite(notes[2]), acWrite(notes[3])}
	want := []impl.Acted{{}, {Notes: 1}, {Notes: 2}, {Notes: 2, Safe: 2}, {Notes: 3, Safe: 2}, {Notes: 4, Safe: 2}}
	ask := func(notes, safe int, a impl.Ask, found ...int) {
		acts = append(acts, acAsk(a))
		want = append(want, impl.Acted{Notes: notes, Safe: safe, Found: found})
	}
	ask(4, 2, anything(), 0, 1, 2, 3)
	ask(4, 2, askTicks(5, 5), 0, 2)
	ask(4, 2, askKind(2), 1, 2)
	ask(4, 2, askWho(1), 2, 3)
	ask(4, 2, askPart("rain"), 0, 1)
	ask(4, 2, askPart(""), 0, 1, 2, 3)
	ask(4, 2, impl.Ask{From: 4, To: 8, Kind: 2, Who: 1, Part: "u"}, 2)
	ask(4, 2, impl.Ask{})
	ask(4, 2, askTicks(6, 5))
	acts, want = append(acts, acLose()), append(want, impl.Acted{Notes: 2, Safe: 2})
	ask(2, 2, anything(), 0, 1)
	ask(2, 2, askKind(2), 1)
	ask(2, 2, askWho(1))
	acts, want = append(acts, acSpoil(3, 7)), append(want, impl.Acted{})
	ask(0, 0, anything())
	checkRun(t, "asked", acts, want)
}

// The same run, done one by one by the functions of the program.
func TestRunIsDoneOneByOne(t *testing.T) {
	rnd := rand.New(rand.NewSource(21))
	codes := map[int]int{}
	for _, x := range actings() {
		for range 8 {
			acts := x.anyActs(rnd, 200+rnd.Intn(101))
			got := impl.Run(acts)
			want, _ := programsMeans().run(acts)
			if i := differ(got, want); i >= 0 {
				t.Fatalf("%s: act %d, %#v: %v, not %v", x.name, i, acts[i], got[i], want[i])
			}
			for _, a := range got {
				codes[a.Code]++
			}
		}
	}
	if len(codes) != 3 || codes[0] < 8000 || codes[1] < 200 || codes[2] < 500 {
		t.Errorf("how often each code is there: %v", codes)
	}
}

// The same run without anything of the program.
func TestRunAsTheTestsOwn(t *testing.T) {
	rnd := rand.New(rand.NewSource(22))
	for _, x := range actings() {
		for range 3 {
			acts := x.anyActs(rnd, 200+rnd.Intn(101))
			got := impl.Run(acts)
			want, _ := testsMeans().run(acts)
			if i := differ(got, want); i >= 0 {
				t.Fatalf("%s: act %d, %#v: %v, not %v", x.name, i, acts[i], got[i], want[i])
			}
		}
	}
}

// The beginning of a run is not changed by what comes behind it.
func TestRunOfABeginning(t *testing.T) {
	rnd := rand.New(rand.NewSource(23))
	for _, x := range actings() {
		acts := x.anyActs(rnd, 120)
		all := impl.Run(acts)
		for n := 0; n <= len(acts); n += 7 {
			if i := differ(impl.Run(acts[:n]), all[:n]); i >= 0 {
				t.Fatalf("%s: %d acts: act %d", x.name, n, i)
			}
		}
	}
}
