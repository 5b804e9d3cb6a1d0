package tests

import (
	"bytes"
	"math/rand"
	"slices"
	"testing"

	"loop.example/tally/impl"
)

func checkOpen(t *testing.T, what string, d impl.Disk, want impl.Opened) impl.Opened {
	t.Helper()
	got := impl.Open(d)
	if !sameOpened(got, want) {
		t.Errorf("%s: %#v, not %#v", what, got.Log, want.Log)
	}
	if model := modelOpen(d); !sameOpened(model, want) {
		t.Errorf("%s: the test's own is %#v, not %#v", what, model.Log, want.Log)
	}
	return got
}

func TestOpenOfADiskThatIsNotRight(t *testing.T) {
	for _, x := range wrongLogDisks() {
		checkOpen(t, x.name, x.disk, impl.Opened{})
	}
}

func TestOpenOfADiskWithoutALog(t *testing.T) {
	want := impl.Opened{Ok: true, Log: impl.Log{Ok: true, Gen: 1}, Disk: logDisk(1)}
	checkOpen(t, "blank", impl.Blank(), want)
	for _, x := range rightDisks() {
		checkOpen(t, x.name, x.disk, want)
	}
	d := logDisk(5, pagesOf(1, textOf(notesOf(20, 90)...))...)
	d.Blocks[0] = pageBlock(5, []byte{1})
	d.Blocks[127] = pageBlock(1, nil)
	checkOpen(t, "the first block is spoilt", d, want)
	checkOpen(t, "the first block waits to be spoilt", waitFor(logDisk(5, d.Blocks[1:]...), 0, make([]byte, 64)), want)
}

func TestOpenWritesWhatWaits(t *testing.T) {
	notes := notesOf(30, 40, 17)
	text := textOf(notes...)
	d := logDisk(2, pageBlock(1, text[:30]))
	d = waitFor(waitFor(d, 1, pageBlock(2, text[:56])), 2, pageBlock(2, text[56:]))
	d = waitFor(d, 90, filled(7))
	want := logDisk(3, pageBlock(2, text[:56]), pageBlock(3, text[56:]))
	want.Blocks[90] = filled(7)
	checkOpen(t, "three wait", d, impl.Opened{Ok: true, Log: safeLog(3, notes...), Disk: want})
	checkOpen(t, "the first block waits", waitFor(impl.Blank(), 0, pageBlock(4, nil)), impl.Opened{Ok: true, Log: safeLog(5), Disk: logDisk(5)})
}

func TestOpenAtTheLastGenerations(t *testing.T) {
	pages := pagesOf(3, textOf(notesOf(20)...))
	for _, gen := range []int{3, 255, 256, 999999998, 999999999} {
		want := logDisk(gen+1, pagesOf(gen+1, textOf(notesOf(20)...))...)
		checkOpen(t, "one more", logDisk(gen, pages...), impl.Opened{Ok: true, Log: safeLog(gen+1, notesOf(20)...), Disk: want})
	}
	checkOpen(t, "MaxGen", logDisk(1000000000, pages...), impl.Opened{})
	checkOpen(t, "MaxGen with nothing", logDisk(1000000000), impl.Opened{})
	checkOpen(t, "MaxGen waits", waitFor(logDisk(3, pages...), 0, pageBlock(1000000000, nil)), impl.Opened{})
	spoilt := logDisk(1000000000, pages...)
	spoilt.Blocks[0][1]++
	checkOpen(t, "MaxGen is spoilt", spoilt, impl.Opened{Ok: true, Log: safeLog(1), Disk: logDisk(1)})
	o := impl.Open(logDisk(999999999, pages...))
	if again := impl.Open(o.Disk); !sameOpened(again, impl.Opened{}) {
		t.Errorf("%#v", again.Log)
	}
	if o = impl.Commit(impl.Append(o, noteOf(30, 2))); !o.Ok || o.Log.Gen != 1000000000 || len(o.Log.Notes) != 2 {
		t.Errorf("a log of MaxGen takes notes yet: %#v", o.Log)
	}
}

// Which page is laid, for each place at which a log may end: zeros where it is at the end of a page.
func TestOpenLaysThePageOfLen(t *testing.T) {
	junk := filled(9)
	for _, sizes := range [][]int{{}, {17}, {55}, {56}, {57}, {17, 39}, {56, 55}, {56, 56}, {112}, {113}, {217}, {200, 80}, {168, 17}} {
		notes := notesOf(sizes...)
		text := textOf(notes...)
		for _, behind := range [][]byte{nil, {0}, {'N'}, textOf(noteOf(217, 9))[:216], textOf(noteOf(217, 9))[:1], textOf(noteOf(60, 9))[:40]} {
			d := logDisk(7, append(pagesOf(4, slices.Concat(text, behind)), junk)...)
			want := cloneDisk(d)
			want.Blocks[0] = pageBlock(8, nil)
			k := len(text) / 56
			want.Blocks[k+1] = make([]byte, 64)
			if len(text) > k*56 {
				want.Blocks[k+1] = pageBlock(8, text[k*56:])
			}
			checkOpen(t, "laid", d, impl.Opened{Ok: true, Log: safeLog(8, notes...), Disk: want})
		}
	}
}

// What is cut off does not come back, whatever is written next, be it just as long as what lay there.
func TestAFrameHalfWrittenDoesNotComeBack(t *testing.T) {
	for _, sizes := range [][]int{{}, {20}, {56}, {40, 72}} {
		notes := notesOf(sizes...)
		lost := textOf(noteOf(217, 9))
		text := append(textOf(notes...), lost...)
		for k := len(textOf(notes...))/56 + 1; k*56 < len(text); k++ {
			d := logDisk(2, pagesOf(2, text[:k*56])...)
			o := impl.Open(d)
			if !sameLog(o.Log, safeLog(3, notes...)) {
				t.Fatalf("%v, %d pages: %#v", sizes, k, o.Log)
			}
			for size := 17; size <= 217; size++ {
				next := impl.Commit(impl.Append(o, noteOf(size, 10)))
				if want := safeLog(3, append(slices.Clone(notes), noteOf(size, 10))...); !sameLog(next.Log, want) {
					t.Fatalf("%v, %d pages, then %d bytes: %#v", sizes, k, size, next.Log)
				}
			}
		}
	}
}

// fullNotes take every byte that there is room for.
func fullNotes() []impl.Note {
	var notes []impl.Note
	for i := range 32 {
		notes = append(notes, noteOf(217, i))
	}
	return append(notes, noteOf(168, 32))
}

func TestOpenOfALogThatIsFull(t *testing.T) {
	notes := fullNotes()
	pages := pagesOf(4, textOf(notes...))
	if len(pages) != 127 {
		t.Fatal(len(pages))
	}
	d := logDisk(4, pages...)
	o := checkOpen(t, "full", d, impl.Opened{Ok: true, Log: safeLog(5, notes...), Disk: logDisk(5, pages...)})
	if room := impl.Room(o); room != 0 {
		t.Errorf("room for %d", room)
	}
	notes[32] = noteOf(167, 32)
	pages = pagesOf(4, textOf(notes...))
	want := logDisk(5, pages...)
	want.Blocks[127] = pageBlock(5, textOf(notes...)[126*56:])
	checkOpen(t, "one byte short", logDisk(4, pages...), impl.Opened{Ok: true, Log: safeLog(5, notes...), Disk: want})
}

// someOpened are logs in each state in which something can be done with them.
func someOpened() map[string]impl.Opened {
	notes := notesOf(30, 40, 17, 60)
	text := textOf(notes...)
	half := logDisk(3, pagesOf(2, append(slices.Clone(text), 'N', 20, 1))...)
	waiting := waitFor(waitFor(logDisk(3, pageBlock(2, text[:30])), 1, pageBlock(3, text[:56])), 2, pageBlock(3, text[56:87]))
	elder := logDisk(3, append(pagesOf(2, textOf(notesOf(56, 56)...)), pageBlock(1, textOf(noteOf(56, 9))))...)
	own := logDisk(3, append(pagesOf(2, textOf(notesOf(56, 20)...)), pageBlock(3, textOf(noteOf(56, 9))))...)
	return map[string]impl.Opened{
		"new":                             openedOn(logDisk(1)),
		"some notes":                      openedOn(logDisk(3, pagesOf(2, text)...)),
		"half a frame behind them":        openedOn(half),
		"some wait":                       openedOn(waiting),
		"an elder page behind a full one": openedOn(elder),
		"a page of its own behind it":     openedOn(own),
		"full":                            openedOn(logDisk(4, pagesOf(4, textOf(fullNotes()...))...)),
		"MaxGen":                          openedOn(logDisk(1000000000, pagesOf(2, text)...)),
		"the first block waits":           openedOn(waitFor(impl.Blank(), 0, pageBlock(4, nil))),
		"200 wait":                        openedOn(withWaiting(logDisk(3, pagesOf(2, text)...), 200)),
	}
}

// withWaiting lets writes wait that leave the log alone.
func withWaiting(d impl.Disk, n int) impl.Disk {
	for range n {
		d.Waiting = append(d.Waiting, impl.Write{Block: 127, Bytes: make([]byte, 64)})
	}
	return d
}

// wrongOpened are those with which nothing can be done: each has one fault.
func wrongOpened() map[string]impl.Opened {
	out := map[string]impl.Opened{"the zero value": {}}
	text := textOf(notesOf(30, 40, 17)...)
	add := func(name string, change func(o *impl.Opened)) {
		d := waitFor(logDisk(3, pagesOf(2, text[:70])...), 2, pageBlock(3, text[56:]))
		o := openedOn(d)
		change(&o)
		out[name] = o
	}
	add("not Ok", func(o *impl.Opened) { o.Ok = false })
	add("Log not Ok", func(o *impl.Opened) { o.Log.Ok = false })
	add("no Log", func(o *impl.Opened) { o.Log = impl.Log{} })
	add("no Disk", func(o *impl.Opened) { o.Disk = impl.Disk{} })
	add("a note less", func(o *impl.Opened) { o.Log.Notes = o.Log.Notes[:2] })
	add("a note more", func(o *impl.Opened) { o.Log.Notes = append(o.Log.Notes, impl.Note{}) })
	add("no notes", func(o *impl.Opened) { o.Log.Notes = nil })
	add("another order", func(o *impl.Opened) { slices.Reverse(o.Log.Notes) })
	for at, name := range []string{"first", "second", "third"} {
		add("another Tick of the "+name, func(o *impl.Opened) { o.Log.Notes[at].Tick++ })
		add("another Kind of the "+name, func(o *impl.Opened) { o.Log.Notes[at].Kind++ })
		add("another Who of the "+name, func(o *impl.Opened) { o.Log.Notes[at].Who++ })
		add("another N of the "+name, func(o *impl.Opened) { o.Log.Notes[at].N++ })
		add("another Text of the "+name, func(o *impl.Opened) { o.Log.Notes[at].Text += "x" })
	}
	add("Len below", func(o *impl.Opened) { o.Log.Len-- })
	add("Len above", func(o *impl.Opened) { o.Log.Len++ })
	add("Gen below", func(o *impl.Opened) { o.Log.Gen-- })
	add("Gen above", func(o *impl.Opened) { o.Log.Gen++ })
	add("Gen 0", func(o *impl.Opened) { o.Log.Gen = 0 })
	add("Safe below", func(o *impl.Opened) { o.Log.Safe-- })
	add("Safe above", func(o *impl.Opened) { o.Log.Safe++ })
	add("another disk", func(o *impl.Opened) { o.Disk = logDisk(3) })
	add("a byte of the first block", func(o *impl.Opened) { o.Disk.Blocks[0][63]++ })
	add("a byte of a page", func(o *impl.Opened) { o.Disk.Blocks[1][63]++ })
	add("a byte of what waits", func(o *impl.Opened) { o.Disk.Waiting[0].Bytes[63]++ })
	add("nothing waits", func(o *impl.Opened) { o.Disk.Waiting = nil })
	add("127 blocks", func(o *impl.Opened) { o.Disk.Blocks = o.Disk.Blocks[:127] })
	add("129 blocks", func(o *impl.Opened) { o.Disk.Blocks = append(o.Disk.Blocks, make([]byte, 64)) })
	add("201 wait", func(o *impl.Opened) { o.Disk = withWaiting(o.Disk, 200) })
	add("a write of no block", func(o *impl.Opened) {
		o.Disk.Waiting = append(o.Disk.Waiting, impl.Write{Block: 128, Bytes: make([]byte, 64)})
	})
	out["generation 0"] = openedOn(impl.Blank())
	spoilt := logDisk(3, pagesOf(2, text)...)
	spoilt.Blocks[0][1]++
	out["the first block is spoilt"] = openedOn(spoilt)
	out["the disk and the log are none"] = impl.Opened{Ok: true}
	return out
}

func TestWithWhatIsNotOpenedNothingIsDone(t *testing.T) {
	for name, o := range wrongOpened() {
		was := cloneOpened(o)
		if got := impl.Append(o, impl.Note{}); !sameOpened(got, impl.Opened{}) {
			t.Errorf("%s: Append: %#v", name, got.Log)
		}
		if got := impl.Commit(o); !sameOpened(got, impl.Opened{}) {
			t.Errorf("%s: Commit: %#v", name, got.Log)
		}
		if got := impl.Room(o); got != -1 {
			t.Errorf("%s: Room: %d", name, got)
		}
		if !sameOpened(o, was) {
			t.Errorf("%s: the argument is another", name)
		}
		if rightOpened(o) {
			t.Errorf("%s: the test takes it for a right one", name)
		}
	}
}

// The log from which the wrong ones are made is right itself, so that it is the one fault by which each is refused.
func TestWithWhatIsOpenedSomethingIsDone(t *testing.T) {
	text := textOf(notesOf(30, 40, 17)...)
	o := openedOn(waitFor(logDisk(3, pagesOf(2, text[:70])...), 2, pageBlock(3, text[56:])))
	if !sameLog(o.Log, impl.Log{Ok: true, Notes: notesOf(30, 40, 17), Len: 87, Gen: 3, Safe: 2}) {
		t.Fatalf("%#v", o.Log)
	}
	if got := impl.Append(o, impl.Note{}); !got.Ok || got.Log.Len != 104 || got.Log.Safe != 2 || len(got.Disk.Waiting) != 2 {
		t.Errorf("Append: %#v", got.Log)
	}
	if got := impl.Commit(o); !sameOpened(got, impl.Opened{Ok: true, Log: safeLog(3, notesOf(30, 40, 17)...), Disk: impl.Sync(o.Disk)}) {
		t.Errorf("Commit: %#v", got.Log)
	}
	if got := impl.Room(o); got != 7112-87 {
		t.Errorf("Room: %d", got)
	}
	none := openedOn(logDisk(3))
	none.Log.Notes, none.Disk.Waiting = []impl.Note{}, []impl.Write{}
	if got := impl.Append(none, impl.Note{}); !got.Ok || impl.Room(none) != 7112 || !impl.Commit(none).Ok {
		t.Errorf("an empty list is another than nil: %#v", got.Log)
	}
}

func TestAppendCommitAndRoomAsTheTestsOwn(t *testing.T) {
	for name, o := range someOpened() {
		for _, n := range append(goodNotes(), badNotes()...) {
			if got, want := impl.Append(o, n), modelAppend(o, n); !sameOpened(got, want) {
				t.Errorf("%s: Append of %d bytes: %#v, not %#v", name, len(n.Text), got.Log, want.Log)
			}
		}
		if got, want := impl.Commit(o), modelCommit(o); !sameOpened(got, want) || !got.Ok {
			t.Errorf("%s: Commit: %#v, not %#v", name, got.Log, want.Log)
		}
		if got, want := impl.Room(o), 7112-o.Log.Len; got != want {
			t.Errorf("%s: Room: %d, not %d", name, got, want)
		}
	}
}

func TestAppendOfANoteThatIsNone(t *testing.T) {
	o := impl.Open(impl.Blank())
	for i, n := range badNotes() {
		if got := impl.Append(o, n); !sameOpened(got, impl.Opened{}) {
			t.Errorf("note %d: %#v", i, got.Log)
		}
	}
}

// What Append lays, written down: blocks in order, their generation, how many bytes each has.
func TestWhichPagesAppendLays(t *testing.T) {
	type laid struct{ block, bytes int }
	for _, c := range []struct {
		there []int
		size  int
		want  []laid
	}{
		{nil, 17, []laid{{1, 17}}},
		{nil, 55, []laid{{1, 55}}},
		{nil, 56, []laid{{1, 56}}},
		{nil, 57, []laid{{1, 56}, {2, 1}}},
		{nil, 112, []laid{{1, 56}, {2, 56}}},
		{nil, 217, []laid{{1, 56}, {2, 56}, {3, 56}, {4, 49}}},
		{[]int{19}, 17, []laid{{1, 36}}},
		{[]int{19}, 37, []laid{{1, 56}}},
		{[]int{19}, 38, []laid{{1, 56}, {2, 1}}},
		{[]int{50}, 217, []laid{{1, 56}, {2, 56}, {3, 56}, {4, 56}, {5, 43}}},
		{[]int{55}, 17, []laid{{1, 56}, {2, 16}}},
		{[]int{55}, 57, []laid{{1, 56}, {2, 56}}},
		{[]int{56}, 17, []laid{{2, 17}}},
		{[]int{56}, 56, []laid{{2, 56}}},
		{[]int{56}, 217, []laid{{2, 56}, {3, 56}, {4, 56}, {5, 49}}},
		{[]int{56, 56}, 20, []laid{{3, 20}}},
		{[]int{100, 17}, 20, []laid{{3, 25}}},
		{[]int{217}, 17, []laid{{4, 56}, {5, 10}}},
	} {
		notes := notesOf(c.there...)
		text := append(textOf(notes...), textOf(noteOf(c.size, 9))...)
		for _, waiting := range []int{0, 3} {
			o := openedOn(withWaiting(logDisk(6, pagesOf(4, textOf(notes...))...), waiting))
			want := cloneDisk(o.Disk)
			for _, l := range c.want {
				from := (l.block - 1) * 56
				want.Waiting = append(want.Waiting, impl.Write{Block: l.block, Bytes: pageBlock(6, text[from:from+l.bytes])})
			}
			log := safeLog(6, append(slices.Clone(notes), noteOf(c.size, 9))...)
			log.Safe = len(c.there)
			if got := impl.Append(o, noteOf(c.size, 9)); !sameOpened(got, impl.Opened{Ok: true, Log: log, Disk: want}) {
				t.Errorf("%v, %d bytes more: %#v, %v", c.there, c.size, got.Log, got.Disk.Waiting)
			}
		}
	}
}

// Behind a half frame that was not cut off, as behind a page of its own generation that goes on, Append does what it says too.
func TestAppendOverWhatIsNotWhole(t *testing.T) {
	text := append(textOf(noteOf(30, 1)), textOf(noteOf(217, 2))[:200]...)
	o := openedOn(logDisk(3, pagesOf(3, text)...))
	got := impl.Append(o, noteOf(20, 3))
	if want := (impl.Log{Ok: true, Notes: []impl.Note{noteOf(30, 1), noteOf(20, 3)}, Len: 50, Gen: 3, Safe: 1}); !sameLog(got.Log, want) {
		t.Errorf("%#v", got.Log)
	}
	if want := pageBlock(3, textOf(noteOf(30, 1), noteOf(20, 3))); len(got.Disk.Waiting) != 1 || !bytes.Equal(got.Disk.Waiting[0].Bytes, want) {
		t.Errorf("%v", got.Disk.Waiting)
	}
	goes := logDisk(3, pageBlock(2, textOf(noteOf(30, 1))), pageBlock(3, textOf(noteOf(40, 4))))
	got = impl.Append(openedOn(goes), noteOf(26, 3))
	if want := (impl.Log{Ok: true, Notes: []impl.Note{noteOf(30, 1), noteOf(26, 3), noteOf(40, 4)}, Len: 96, Gen: 3, Safe: 1}); !sameLog(got.Log, want) {
		t.Errorf("a scan takes a page of the same generation: %#v", got.Log)
	}
}

func TestAppendWithAsMuchRoomAsItNeeds(t *testing.T) {
	for _, size := range []int{17, 18, 55, 56, 57, 112, 216, 217} {
		for _, short := range []int{0, 1, 2, 16} {
			notes := fullNotes()[:30]
			left := 7112 - 30*217 - (size - short)
			for left > 0 {
				next := min(left, 217)
				if left > 217 && left < 217+17 {
					next = 100
				}
				notes = append(notes, noteOf(next, len(notes)))
				left -= next
			}
			o := openedOn(logDisk(4, pagesOf(4, textOf(notes...))...))
			if room := impl.Room(o); room != size-short {
				t.Fatalf("room for %d, not %d", room, size-short)
			}
			got := impl.Append(o, noteOf(size, 99))
			if short > 0 && !sameOpened(got, impl.Opened{}) || short == 0 && (!got.Ok || impl.Room(got) != 0) {
				t.Errorf("%d bytes, room for %d: %#v", size, size-short, got.Ok)
			}
			if !sameOpened(got, modelAppend(o, noteOf(size, 99))) {
				t.Errorf("%d bytes, room for %d: another than the test's own", size, size-short)
			}
		}
	}
}

func TestAppendWithAsManyWaitingAsMay(t *testing.T) {
	for _, c := range []struct{ there, size, pages int }{
		{20, 17, 1}, {20, 36, 1}, {20, 37, 2}, {20, 100, 3}, {20, 148, 3}, {20, 217, 5}, {56, 217, 4}, {56, 56, 1}, {39, 17, 1}, {39, 18, 2}, {50, 217, 5},
	} {
		for waiting := 190; waiting <= 200; waiting++ {
			o := openedOn(withWaiting(logDisk(6, pagesOf(4, textOf(noteOf(c.there, 1)))...), waiting))
			got := impl.Append(o, noteOf(c.size, 2))
			if waiting+c.pages > 200 {
				if !sameOpened(got, impl.Opened{}) {
					t.Errorf("%d bytes, %d wait: %d wait then", c.size, waiting, len(got.Disk.Waiting))
				}
				continue
			}
			if !got.Ok || len(got.Disk.Waiting) != waiting+c.pages || len(got.Log.Notes) != 2 || got.Log.Safe != 1 {
				t.Errorf("%d bytes, %d wait: %#v, %d wait then", c.size, waiting, got.Log, len(got.Disk.Waiting))
			}
		}
	}
}

// Note by note until no more may wait; when all is safe the next one can be written again.
func TestAppendUntilTooManyWait(t *testing.T) {
	for _, size := range []int{17, 40, 56} {
		o, mark := impl.Open(impl.Blank()), 0
		for {
			next := impl.Append(o, noteOf(size, mark))
			if want := modelAppend(o, noteOf(size, mark)); !sameOpened(next, want) {
				t.Fatalf("note %d: %#v, not %#v", mark, next.Log, want.Log)
			}
			if !next.Ok {
				break
			}
			o = next
			mark++
		}
		if size < 56 && len(o.Disk.Waiting) < 199 || size == 56 && mark != 127 {
			t.Errorf("%d bytes: %d notes, %d wait", size, mark, len(o.Disk.Waiting))
		}
		if o.Log.Safe != 0 || len(o.Log.Notes) != mark || impl.Room(o) != 7112-size*mark {
			t.Errorf("%d bytes: %d safe, %d notes, room for %d", size, o.Log.Safe, len(o.Log.Notes), impl.Room(o))
		}
		o = impl.Commit(o)
		if o.Log.Safe != mark || len(o.Disk.Waiting) != 0 {
			t.Errorf("%d bytes: %d safe", size, o.Log.Safe)
		}
		if size < 56 && !impl.Append(o, noteOf(size, mark)).Ok {
			t.Errorf("%d bytes: nothing can be written when all is safe", size)
		}
	}
}

func TestCommitMakesAllSafe(t *testing.T) {
	o := impl.Open(impl.Blank())
	for i, n := range goodNotes() {
		o = impl.Append(o, n)
		if o.Log.Safe != i || len(o.Log.Notes) != i+1 {
			t.Fatalf("note %d: %#v", i, o.Log)
		}
		o = impl.Commit(o)
		if !o.Ok || o.Log.Safe != i+1 || len(o.Disk.Waiting) != 0 || !slices.Equal(o.Log.Notes, goodNotes()[:i+1]) {
			t.Fatalf("note %d: %#v", i, o.Log)
		}
		if again := impl.Commit(o); !sameOpened(again, o) {
			t.Fatalf("note %d: safe once more: %#v", i, again.Log)
		}
	}
}

// P7: a note takes as much room as its frame; a log is filled to its last byte, and takes none more.
func TestALogIsFilled(t *testing.T) {
	o, room := impl.Open(impl.Blank()), 7112
	for i, n := range fullNotes() {
		o = impl.Append(o, n)
		room -= len(impl.Frame(n))
		if impl.Room(o) != room || o.Log.Len != 7112-room {
			t.Fatalf("note %d: room for %d, not %d", i, impl.Room(o), room)
		}
		if i%20 == 19 {
			o = impl.Commit(o)
		}
		if impl.Room(o) != room {
			t.Fatalf("note %d, safe: room for %d, not %d", i, impl.Room(o), room)
		}
	}
	if room != 0 {
		t.Fatal(room)
	}
	for range 2 {
		for _, size := range []int{17, 18, 56, 217} {
			if got := impl.Append(o, noteOf(size, 99)); !sameOpened(got, impl.Opened{}) {
				t.Errorf("%d bytes more: %#v", size, got.Log)
			}
		}
		o = impl.Commit(o)
	}
	o = impl.Open(o.Disk)
	if !sameLog(o.Log, safeLog(2, fullNotes()...)) || impl.Append(o, impl.Note{}).Ok {
		t.Errorf("%#v", o.Log)
	}
}

// The smallest notes: as many as there is room for, and a rest that is too small.
func TestALogIsFilledWithTheSmallestNotes(t *testing.T) {
	o, n := impl.Open(impl.Blank()), 0
	for next := impl.Append(o, impl.Note{}); next.Ok && n < 500; next = impl.Append(o, impl.Note{}) {
		o = next
		if n++; n%50 == 0 {
			o = impl.Commit(o)
		}
	}
	if n != 418 || impl.Room(o) != 6 || len(o.Log.Notes) != 418 {
		t.Errorf("%d notes, room for %d", n, impl.Room(o))
	}
}

// The source is seeded: the disks are the same at every run.
func TestLogsAtRandom(t *testing.T) {
	rnd := rand.New(rand.NewSource(5))
	done := 0
	for range 1000 {
		d := anyDisk(rnd)
		o := openedOn(d)
		if rnd.Intn(3) == 0 {
			got := impl.Open(d)
			if o = modelOpen(d); !sameOpened(got, o) {
				t.Fatalf("Open: %#v, not %#v", got.Log, o.Log)
			}
		}
		for range 4 {
			n := noteOf(anySize(rnd), 100+rnd.Intn(1000))
			got, want := impl.Append(o, n), modelAppend(o, n)
			if !sameOpened(got, want) {
				t.Fatalf("Append: %#v, not %#v", got.Log, want.Log)
			}
			if rnd.Intn(3) == 0 {
				got, want = impl.Commit(o), modelCommit(o)
				if !sameOpened(got, want) {
					t.Fatalf("Commit: %#v, not %#v", got.Log, want.Log)
				}
			}
			if impl.Room(want) != modelRoom(want) {
				t.Fatalf("Room: %d, not %d", impl.Room(want), modelRoom(want))
			}
			if want.Ok {
				o = want
				done++
			}
		}
	}
	if done < 2000 {
		t.Errorf("only %d were done", done)
	}
}

// ruinOpened writes over all that an opened log has.
func ruinOpened(o impl.Opened) {
	ruin(o.Disk)
	clear(o.Log.Notes[:cap(o.Log.Notes)])
}

func TestOpenedLogsShareNoMemory(t *testing.T) {
	n := noteOf(217, 50)
	for name, o := range someOpened() {
		for call, do := range map[string]func(o impl.Opened) impl.Opened{
			"Open":   func(o impl.Opened) impl.Opened { return impl.Open(o.Disk) },
			"Append": func(o impl.Opened) impl.Opened { return impl.Append(o, n) },
			"Commit": impl.Commit,
			"Room":   func(o impl.Opened) impl.Opened { return impl.Opened{Ok: impl.Room(o) == 1} },
		} {
			was := cloneOpened(o)
			first := do(o)
			want := cloneOpened(first)
			checkApart(t, name+": "+call, listsOf(first.Disk))
			if !slices.Equal(first.Log.Notes, want.Log.Notes) {
				t.Fatalf("%s: %s: the notes changed with the disk", name, call)
			}
			ruinOpened(first)
			if !sameOpened(o, was) {
				t.Fatalf("%s: %s: the argument changed with the answer", name, call)
			}
			arg := cloneOpened(o)
			second := do(arg)
			ruinOpened(arg)
			if !sameOpened(second, want) || !sameOpened(do(o), want) {
				t.Fatalf("%s: %s: the answer changed with the argument", name, call)
			}
			if !sameOpened(o, was) {
				t.Fatalf("%s: %s: the argument is another", name, call)
			}
		}
	}
}

func TestOpenLeavesItsArgument(t *testing.T) {
	for _, x := range append(wrongLogDisks(), rightDisks()...) {
		was := cloneDisk(x.disk)
		if impl.Open(x.disk); !sameDisk(x.disk, was) {
			t.Errorf("%s: the argument is another", x.name)
		}
	}
}

// Two logs that go on from one share nothing of it: neither takes the other's notes.
func TestTwoLogsFromOne(t *testing.T) {
	o := impl.Append(impl.Open(impl.Blank()), noteOf(30, 1))
	a, b := impl.Append(o, noteOf(40, 2)), impl.Append(o, noteOf(50, 3))
	for range 3 {
		a, b = impl.Append(a, noteOf(20, 4)), impl.Append(b, noteOf(25, 5))
	}
	if !slices.Equal(a.Log.Notes, []impl.Note{noteOf(30, 1), noteOf(40, 2), noteOf(20, 4), noteOf(20, 4), noteOf(20, 4)}) {
		t.Errorf("%#v", a.Log)
	}
	if !slices.Equal(b.Log.Notes, []impl.Note{noteOf(30, 1), noteOf(50, 3), noteOf(25, 5), noteOf(25, 5), noteOf(25, 5)}) {
		t.Errorf("%#v", b.Log)
	}
	if !slices.Equal(o.Log.Notes, []impl.Note{noteOf(30, 1)}) || len(o.Disk.Waiting) != 1 {
		t.Errorf("%#v", o.Log)
	}
}
