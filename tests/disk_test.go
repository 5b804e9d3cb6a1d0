package tests

import (
	"bytes"
	"math"
	"math/rand"
	"slices"
	"testing"

	"loop.example/tally/impl"
)

func filled(x byte) []byte { return bytes.Repeat([]byte{x}, 64) }

// diskOf is a disk made without the program: each block has a byte of its own, and these writes wait.
func diskOf(waiting ...impl.Write) impl.Disk {
	d := impl.Disk{Waiting: waiting}
	for i := range 128 {
		d.Blocks = append(d.Blocks, filled(byte(i+1)))
	}
	return d
}

func writes(n int) []impl.Write {
	var w []impl.Write
	for i := range n {
		w = append(w, impl.Write{Block: i * 7 % 128, Bytes: filled(byte(255 - i))})
	}
	return w
}

func cloneLists(b [][]byte) [][]byte {
	var c [][]byte
	for _, x := range b {
		c = append(c, bytes.Clone(x))
	}
	return c
}

func cloneDisk(d impl.Disk) impl.Disk {
	c := impl.Disk{Blocks: cloneLists(d.Blocks)}
	for _, w := range d.Waiting {
		c.Waiting = append(c.Waiting, impl.Write{Block: w.Block, Bytes: bytes.Clone(w.Bytes)})
	}
	return c
}

func sameLists(a, b [][]byte) bool { return slices.EqualFunc(a, b, bytes.Equal) }

// sameDisk takes an empty list and nil for the same.
func sameDisk(a, b impl.Disk) bool {
	return sameLists(a.Blocks, b.Blocks) && slices.EqualFunc(a.Waiting, b.Waiting, func(x, y impl.Write) bool {
		return x.Block == y.Block && bytes.Equal(x.Bytes, y.Bytes)
	})
}

func noDisk(d impl.Disk) bool { return len(d.Blocks) == 0 && len(d.Waiting) == 0 }

// listsOf is all lists of bytes that a disk has.
func listsOf(d impl.Disk) [][]byte {
	all := slices.Clone(d.Blocks)
	for _, w := range d.Waiting {
		all = append(all, w.Bytes)
	}
	return all
}

// checkApart adds one to each byte of each list, up to all it has in store: a byte that two of them share grows by two.
func checkApart(t *testing.T, what string, lists [][]byte) {
	t.Helper()
	was := cloneLists(lists)
	for _, b := range lists {
		full := b[:cap(b)]
		for k := range full {
			full[k]++
		}
	}
	for i, b := range lists {
		for k, v := range b {
			if v != was[i][k]+1 {
				t.Fatalf("%s: byte %d of list %d is another list's too", what, k, i)
			}
		}
	}
}

// ruin writes over all that a disk has: its bytes, and its lists of lists.
func ruin(d impl.Disk) {
	for _, b := range listsOf(d) {
		full := b[:cap(b)]
		for k := range full {
			full[k] ^= 0xff
		}
	}
	clear(d.Blocks[:cap(d.Blocks)])
	clear(d.Waiting[:cap(d.Waiting)])
}

type namedDisk struct {
	name string
	disk impl.Disk
}

func wrongDisks() []namedDisk {
	var all []namedDisk
	add := func(name string, change func(d *impl.Disk)) {
		d := diskOf(writes(3)...)
		change(&d)
		all = append(all, namedDisk{name, d})
	}
	all = append(all, namedDisk{"the zero value", impl.Disk{}})
	add("no blocks", func(d *impl.Disk) { d.Blocks = nil })
	add("1 block", func(d *impl.Disk) { d.Blocks = d.Blocks[:1] })
	add("127 blocks", func(d *impl.Disk) { d.Blocks = d.Blocks[:127] })
	add("129 blocks", func(d *impl.Disk) { d.Blocks = append(d.Blocks, filled(0)) })
	for _, at := range []int{0, 1, 77, 126, 127} {
		add("a block of 63 bytes", func(d *impl.Disk) { d.Blocks[at] = d.Blocks[at][:63] })
		add("a block of 65 bytes", func(d *impl.Disk) { d.Blocks[at] = append(d.Blocks[at], 0) })
		add("a block of no bytes", func(d *impl.Disk) { d.Blocks[at] = nil })
	}
	add("201 that wait", func(d *impl.Disk) { d.Waiting = writes(201) })
	for _, at := range []int{0, 1, 2} {
		for _, block := range []int{-1, 128, 256, math.MinInt, math.MaxInt} {
			add("a write of no block", func(d *impl.Disk) { d.Waiting[at].Block = block })
		}
		for _, size := range []int{0, 1, 63, 65, 128} {
			add("a write of a wrong size", func(d *impl.Disk) { d.Waiting[at].Bytes = make([]byte, size) })
		}
	}
	add("the last of 200 writes is of no block", func(d *impl.Disk) {
		d.Waiting = writes(200)
		d.Waiting[199].Block = 128
	})
	return all
}

func rightDisks() []namedDisk {
	one := filled(9)
	shared := impl.Disk{}
	for range 128 {
		shared.Blocks = append(shared.Blocks, one)
	}
	shared.Waiting = []impl.Write{{Block: 1, Bytes: one}, {Block: 2, Bytes: one}}
	roomy := diskOf(writes(5)...)
	for i, b := range roomy.Blocks {
		roomy.Blocks[i] = append(b, 1, 2, 3)[:64]
	}
	return []namedDisk{
		{"zeros", impl.Disk{Blocks: cloneLists(slices.Repeat([][]byte{make([]byte, 64)}, 128))}},
		{"nothing waits", diskOf()},
		{"nothing waits, in a list", impl.Disk{Blocks: diskOf().Blocks, Waiting: []impl.Write{}}},
		{"one waits for block 0", diskOf(impl.Write{Block: 0, Bytes: filled(200)})},
		{"one waits for block 127", diskOf(impl.Write{Block: 127, Bytes: filled(200)})},
		{"three wait", diskOf(writes(3)...)},
		{"199 wait", diskOf(writes(199)...)},
		{"200 wait", diskOf(writes(200)...)},
		{"all lists are one", shared},
		{"there is more behind the blocks' ends", roomy},
	}
}

func TestLimitsOfTheDisk(t *testing.T) {
	if impl.BlockSize != 64 || impl.Blocks != 128 || impl.MaxWaiting != 200 || impl.Fill != 56 || impl.MaxGen != 1000000000 {
		t.Error(impl.BlockSize, impl.Blocks, impl.MaxWaiting, impl.Fill, impl.MaxGen)
	}
}

func TestBlank(t *testing.T) {
	d := impl.Blank()
	if len(d.Blocks) != 128 || len(d.Waiting) != 0 || !impl.DiskOk(d) {
		t.Fatalf("%d blocks, %d wait", len(d.Blocks), len(d.Waiting))
	}
	for i, b := range d.Blocks {
		if !bytes.Equal(b, make([]byte, 64)) {
			t.Errorf("block %d: %x", i, b)
		}
	}
	checkApart(t, "Blank", d.Blocks)
	ruin(d)
	if !sameDisk(impl.Blank(), rightDisks()[0].disk) {
		t.Error("two blank disks share memory")
	}
}

func TestDiskOk(t *testing.T) {
	for _, x := range rightDisks() {
		if !impl.DiskOk(x.disk) {
			t.Errorf("%s: refused", x.name)
		}
	}
	for _, x := range wrongDisks() {
		if impl.DiskOk(x.disk) {
			t.Errorf("%s: accepted", x.name)
		}
	}
}

func TestPutLetsOneWriteMoreWait(t *testing.T) {
	for _, x := range rightDisks() {
		if len(x.disk.Waiting) == 200 {
			continue
		}
		for _, block := range []int{0, 1, 127} {
			want := cloneDisk(x.disk)
			want.Waiting = append(want.Waiting, impl.Write{Block: block, Bytes: filled(77)})
			if got := impl.Put(x.disk, block, filled(77)); !sameDisk(got, want) || !impl.DiskOk(got) {
				t.Errorf("%s, block %d: %v", x.name, block, got.Waiting)
			}
		}
	}
}

func TestPutKeepsTheOrder(t *testing.T) {
	d := diskOf()
	want := diskOf(writes(200)...)
	for i, w := range want.Waiting {
		d = impl.Put(d, w.Block, w.Bytes)
		if len(d.Waiting) != i+1 {
			t.Fatalf("%d wait behind Put %d", len(d.Waiting), i)
		}
	}
	if !sameDisk(d, want) {
		t.Error(d.Waiting)
	}
	if got := impl.Put(d, 0, filled(1)); !noDisk(got) {
		t.Errorf("%d wait", len(got.Waiting))
	}
}

func TestPutThatCant(t *testing.T) {
	for _, x := range wrongDisks() {
		if got := impl.Put(x.disk, 5, filled(1)); !noDisk(got) {
			t.Errorf("%s: %v", x.name, got.Waiting)
		}
	}
	for _, waiting := range []int{0, 199} {
		d := diskOf(writes(waiting)...)
		for _, block := range []int{-1, 128, 129, math.MinInt, math.MaxInt} {
			if got := impl.Put(d, block, filled(1)); !noDisk(got) {
				t.Errorf("block %d: %v", block, got.Waiting)
			}
		}
		for _, size := range []int{0, 1, 63, 65, 128} {
			if got := impl.Put(d, 5, make([]byte, size)); !noDisk(got) {
				t.Errorf("%d bytes: %v", size, got.Waiting)
			}
		}
		if got := impl.Put(d, 5, filled(1)[:63]); !noDisk(got) {
			t.Errorf("63 bytes with one more in store: %v", got.Waiting)
		}
		if got := impl.Put(d, 5, nil); !noDisk(got) {
			t.Errorf("nothing: %v", got.Waiting)
		}
	}
	full := diskOf(writes(200)...)
	for _, block := range []int{-1, 0, 127, 128} {
		if got := impl.Put(full, block, filled(1)); !noDisk(got) {
			t.Errorf("200 wait, block %d: %v", block, got.Waiting)
		}
	}
}

// written is what the blocks become, found from behind: the last write of a block that is kept is the one that stands.
func written(d impl.Disk, kept func(i int) bool) [][]byte {
	out := cloneLists(d.Blocks)
	done := map[int]bool{}
	for i := len(d.Waiting) - 1; i >= 0; i-- {
		if w := d.Waiting[i]; kept(i) && !done[w.Block] {
			done[w.Block] = true
			out[w.Block] = bytes.Clone(w.Bytes)
		}
	}
	return out
}

func TestSyncAndSeen(t *testing.T) {
	for _, x := range rightDisks() {
		want := written(x.disk, func(int) bool { return true })
		if got := impl.Sync(x.disk); !sameDisk(got, impl.Disk{Blocks: want}) {
			t.Errorf("%s: Sync", x.name)
		}
		if got := impl.Seen(x.disk); !sameLists(got, want) {
			t.Errorf("%s: Seen", x.name)
		}
	}
}

func TestTheLaterOfTwoWritesStands(t *testing.T) {
	d := diskOf(impl.Write{Block: 3, Bytes: filled(201)}, impl.Write{Block: 4, Bytes: filled(202)}, impl.Write{Block: 3, Bytes: filled(203)})
	want := diskOf()
	want.Blocks[3], want.Blocks[4] = filled(203), filled(202)
	if got := impl.Sync(d); !sameDisk(got, want) {
		t.Errorf("Sync: %v %v, %d wait", got.Blocks[3], got.Blocks[4], len(got.Waiting))
	}
	if got := impl.Seen(d); !sameLists(got, want.Blocks) {
		t.Errorf("Seen: %v %v", got[3], got[4])
	}
}

func TestCrashWithTwoWritesOfOneBlock(t *testing.T) {
	d := diskOf(impl.Write{Block: 3, Bytes: filled(201)}, impl.Write{Block: 3, Bytes: filled(202)})
	for _, c := range []struct {
		kept []bool
		want byte
	}{
		{nil, 4},
		{[]bool{}, 4},
		{[]bool{false}, 4},
		{[]bool{true}, 201},
		{[]bool{false, false}, 4},
		{[]bool{true, false}, 201},
		{[]bool{false, true}, 202},
		{[]bool{true, true}, 202},
		{[]bool{false, false, true}, 4},
		{[]bool{true, false, true, true}, 201},
		{[]bool{true, true, true, true, true}, 202},
	} {
		want := diskOf()
		want.Blocks[3] = filled(c.want)
		if got := impl.Crash(d, c.kept); !sameDisk(got, want) {
			t.Errorf("%v: %v, %d wait", c.kept, got.Blocks[3], len(got.Waiting))
		}
	}
}

// keptLists is for n that wait: none, all, every second, a beginning, an end; shorter, as long and longer than they are.
func keptLists(n int) [][]bool {
	var all [][]bool
	for _, size := range []int{0, 1, n / 2, n - 1, n, n + 1, n + 300} {
		if size < 0 {
			continue
		}
		for _, rule := range []func(i int) bool{
			func(int) bool { return false },
			func(int) bool { return true },
			func(i int) bool { return i%2 == 0 },
			func(i int) bool { return i%2 == 1 },
			func(i int) bool { return i >= n/2 },
			func(i int) bool { return i == n-1 },
		} {
			kept := make([]bool, size)
			for i := range kept {
				kept[i] = rule(i)
			}
			all = append(all, kept)
		}
	}
	return all
}

func TestCrash(t *testing.T) {
	for _, x := range rightDisks() {
		for _, kept := range keptLists(len(x.disk.Waiting)) {
			want := written(x.disk, func(i int) bool { return i < len(kept) && kept[i] })
			if got := impl.Crash(x.disk, kept); !sameDisk(got, impl.Disk{Blocks: want}) {
				t.Errorf("%s, %v", x.name, kept)
			}
		}
	}
}

// What lies behind the end of kept, but within its capacity, keeps nothing.
func TestCrashKeepsToTheLength(t *testing.T) {
	d := diskOf(impl.Write{Block: 3, Bytes: filled(201)}, impl.Write{Block: 4, Bytes: filled(202)})
	want := diskOf()
	want.Blocks[3] = filled(201)
	if got := impl.Crash(d, []bool{true, true}[:1]); !sameDisk(got, want) {
		t.Error(got.Blocks[4])
	}
}

func TestDisksThatAreNotRight(t *testing.T) {
	for _, x := range wrongDisks() {
		if got := impl.Sync(x.disk); !noDisk(got) {
			t.Errorf("%s: Sync", x.name)
		}
		for _, kept := range keptLists(len(x.disk.Waiting)) {
			if got := impl.Crash(x.disk, kept); !noDisk(got) {
				t.Errorf("%s: Crash, %v", x.name, kept)
			}
		}
		if got := impl.Seen(x.disk); len(got) != 0 {
			t.Errorf("%s: Seen", x.name)
		}
	}
}

// The source is seeded: the disks are the same at every run.
func TestDisksAtRandom(t *testing.T) {
	rnd := rand.New(rand.NewSource(2))
	for range 40 {
		d, want := impl.Blank(), impl.Blank()
		for range rnd.Intn(150) {
			b := make([]byte, 64)
			rnd.Read(b)
			block := rnd.Intn(6) * rnd.Intn(26)
			d = impl.Put(d, block, b)
			want.Waiting = append(want.Waiting, impl.Write{Block: block, Bytes: bytes.Clone(b)})
			if rnd.Intn(30) == 0 {
				kept := make([]bool, rnd.Intn(60))
				for i := range kept {
					kept[i] = rnd.Intn(2) == 0
				}
				d = impl.Crash(d, kept)
				want = impl.Disk{Blocks: written(want, func(i int) bool { return i < len(kept) && kept[i] })}
			}
		}
		if !sameDisk(d, want) || !sameLists(impl.Seen(d), written(want, func(int) bool { return true })) {
			t.Fatal("the disk is another")
		}
	}
}

// diskCalls is every function that answers with blocks, each as one that makes a disk of a disk.
func diskCalls(b []byte, kept []bool) map[string]func(d impl.Disk) impl.Disk {
	return map[string]func(d impl.Disk) impl.Disk{
		"Put":   func(d impl.Disk) impl.Disk { return impl.Put(d, 5, b) },
		"Sync":  impl.Sync,
		"Crash": func(d impl.Disk) impl.Disk { return impl.Crash(d, kept) },
		"Seen":  func(d impl.Disk) impl.Disk { return impl.Disk{Blocks: impl.Seen(d)} },
	}
}

func TestDisksShareNoMemory(t *testing.T) {
	for _, x := range rightDisks() {
		b, kept := filled(77), []bool{true, false, true, true}
		for name, call := range diskCalls(b, kept) {
			was := cloneDisk(x.disk)
			first := call(x.disk)
			checkApart(t, x.name+": "+name, listsOf(first))
			ruin(first)
			if !sameDisk(x.disk, was) || !bytes.Equal(b, filled(77)) {
				t.Fatalf("%s: %s: the argument changed with the answer", x.name, name)
			}
			again := call(x.disk)
			keep := cloneDisk(again)
			arg := cloneDisk(x.disk)
			third := call(arg)
			ruin(arg)
			if !sameDisk(third, keep) || !sameDisk(again, keep) {
				t.Fatalf("%s: %s: the answer changed with the argument", x.name, name)
			}
		}
	}
}

func TestPutKeepsNoneOfItsBytes(t *testing.T) {
	b := filled(77)
	d := impl.Put(diskOf(), 5, b)
	clear(b)
	if !bytes.Equal(d.Waiting[0].Bytes, filled(77)) {
		t.Error(d.Waiting)
	}
	arg := diskOf()
	d = impl.Put(arg, 5, arg.Blocks[2])
	clear(arg.Blocks[2])
	d.Blocks[2][0] = 99
	if !bytes.Equal(d.Waiting[0].Bytes, filled(3)) {
		t.Error("a write that was a block of the disk shares its bytes")
	}
}

func TestDiskFunctionsLeaveTheirArguments(t *testing.T) {
	for _, x := range append(rightDisks(), wrongDisks()...) {
		b, kept := filled(77), []bool{true, false, true}
		was := cloneDisk(x.disk)
		calls := diskCalls(b, kept)
		calls["DiskOk"] = func(d impl.Disk) impl.Disk {
			impl.DiskOk(d)
			return impl.Disk{}
		}
		for name, call := range calls {
			first := call(x.disk)
			if !sameDisk(x.disk, was) || !bytes.Equal(b, filled(77)) || !slices.Equal(kept, []bool{true, false, true}) {
				t.Fatalf("%s: %s: the argument is another", x.name, name)
			}
			if !sameDisk(call(x.disk), first) {
				t.Fatalf("%s: %s: two answers to one argument", x.name, name)
			}
		}
	}
}
