package logs_test

import (
	"encoding/binary"
	"strconv"
	"strings"
	"testing"

	"consistory/api"
	"consistory/disk"
	"consistory/logs"
	"consistory/samples"
)

// P11.1: a disk without a log has one with nothing in it, and isn't changed.
func TestOpenOfNothing(t *testing.T) {
	for _, room := range []int{0, 1, most} {
		d := disk.New(room)
		opened(t, "an empty disk", d, 1)
		if len(d.Names()) != 0 || d.Pending() != 0 {
			t.Error(d.Names(), d.Pending())
		}
	}
}

// P11.1: without a disk there is no log, whatever the prefix; that is told ahead of a wrong prefix, and both change nothing.
func TestOpenRefuses(t *testing.T) {
	wrong := []string{"", "abcdefghi", "abcdefghijklmnop", "A", "Z", "a1", "1a", "0", "f.", ".", "f.1", " f", "f ", "a\x00", "\x00", "a`", "{z", "é", "aé", "\xff", "f\x80", "logName", strings.Repeat("z", 256+3)}
	for _, prefix := range append(wrong, "f") {
		refused(t, "no disk", nil, prefix, api.ErrNil)
	}
	d := diskOf("f.1", "wrong", "a1.1", "wrong", "A.1", "wrong", ".1", "wrong", "abcdefghi.1", "wrong")
	before := samples.State(d)
	for _, prefix := range wrong {
		refused(t, strconv.Quote(prefix), d, prefix, api.ErrArg)
	}
	if got := samples.State(d); got != before {
		t.Errorf("it is changed: %s", got)
	}
}

// P11.1: a prefix has from 1 to 8 bytes from a to z; its log is in files with that ahead of a point.
func TestPrefixes(t *testing.T) {
	for _, prefix := range []string{"a", "z", "f", "az", "za", "snapsnap", "abcdefgh", "stuvwxyz", "ijklmno", "pqr", "zzzzzzzz", "aaaaaaaa"} {
		d := disk.New(most)
		l, _, e := logs.Open(d, prefix)
		samples.Told(t, prefix, api.OK, e)
		put(t, l, "text")
		samples.Holds(t, prefix, d, prefix+".1", run(1, "text"))
	}
}

// The chapter's example, and bytes that another program made.
func TestExample(t *testing.T) {
	d := disk.New(most)
	l := opened(t, "empty", d, 1)
	put(t, l, "a")
	b, e := d.Read("f.1")
	if e != api.OK || len(b) != 11 || string(b[:3]) != "\x01\x01a" {
		t.Errorf("% x, %v", b, e)
	}
	put(t, l, "")
	samples.Holds(t, "known", d, "f.1", "\x01\x01a"+"\xda\xac\x01\xea\xa5\x1e\x59\xdd"+"\x02\x00"+"\x99\xbe\x5e\xfb\x88\xca\x20\x13")
}

// P11.1: on a disk on which nothing is wrong all records are found, and it is left as it is.
func TestNothingWrong(t *testing.T) {
	for _, c := range []struct {
		what  string
		files []string
		texts []string
		next  uint64
	}{
		{"one record", []string{"f.1", run(1, "a")}, []string{"a"}, 2},
		{"empty texts", []string{"f.1", run(1, "", "a", "")}, []string{"", "a", ""}, 4},
		{"no record", []string{"f.1", ""}, nil, 1},
		{"no record in many segments", []string{"f.1", "", "f.2", "", "f.7", ""}, nil, 1},
		{"from a number on", []string{"f.1", run(2, "a", "b")}, []string{"a", "b"}, 4},
		{"numbers of more bytes", []string{"f.1", run(126, "a", "b", "c", "d")}, []string{"a", "b", "c", "d"}, 130},
		{"great numbers", []string{"f.1", run(1<<63-1, "a", "b")}, []string{"a", "b"}, 1<<63 + 1},
		{"the greatest first number", []string{"f.1", run(highest-1, "a")}, []string{"a"}, highest},
		{"segments", []string{"f.1", run(1, "a", "b"), "f.2", run(3, "c"), "f.3", run(4, "d", "e")}, []string{"a", "b", "c", "d", "e"}, 6},
		{"segments of any size", []string{"f.1", run(1, sized(3000), "b", sized(3000), "d"), "f.2", run(5, "e")}, []string{sized(3000), "b", sized(3000), "d", "e"}, 6},
		{"a later first segment", []string{"f.8", run(30, "a"), "f.9", run(31, "b")}, []string{"a", "b"}, 32},
		{"segments by numbers, not by names", []string{"f.10", run(3, "c"), "f.100", run(5, "e"), "f.2", run(1, "a"), "f.9", run(2, "b"), "f.99", run(4, "d")}, []string{"a", "b", "c", "d", "e"}, 6},
		{"empty segments", []string{"f.1", "", "f.2", run(7, "a"), "f.3", "", "f.4", run(8, "b"), "f.5", ""}, []string{"a", "b"}, 9},
		{"segments that are missing", []string{"f.2", run(1, "a"), "f.5", run(2, "b"), "f.77", run(3, "c")}, []string{"a", "b", "c"}, 4},
		{"segments' numbers of many digits", []string{"f.9", run(1, "a"), "f.18446744073709551615", run(2, "b"), "f.18446744073709551616", run(3, "c"), "f.18446744073709551617", run(4, "d"), "f.9999999999999999999999", run(5, "e")}, []string{"a", "b", "c", "d", "e"}, 6},
	} {
		d := diskOf(c.files...)
		for range 3 {
			opened(t, c.what, d, c.next, c.texts...)
			samples.Holds(t, c.what, d, c.files...)
		}
		if d.Pending() != 0 {
			t.Errorf("%s: %d pending", c.what, d.Pending())
		}
	}
}

// P11.1: where nothing is wrong nothing at all is done: what is pending stays so, no fuse blows, and the disk may be down.
func TestNothingDone(t *testing.T) {
	d := diskOf("f.1", run(1, "a"))
	samples.Told(t, "pending", api.OK, d.Append("f.1", []byte(run(2, "b"))), d.Write("f.2", []byte(run(3, "c"))))
	d.Fuse(0)
	before := samples.State(d)
	for range 2 {
		opened(t, "pending", d, 4, "a", "b", "c")
		if samples.State(d) != before || d.Down() {
			t.Error("it is changed, or down")
		}
	}
	samples.Told(t, "the fuse", api.ErrDown, d.Append("x", nil))
	opened(t, "down", d, 4, "a", "b", "c")
	if samples.State(d) != before {
		t.Error("it is changed as it is down")
	}
}

// wrongRecords are bytes that are no record with the number 3, each by what is wrong.
func wrongRecords() map[string]string {
	right := record(3, "text")
	return map[string]string{
		"one byte":                   "\x03",
		"a byte of nothing":          "\x00",
		"no digest":                  right[:len(right)-8],
		"a digest with a byte less":  right[:len(right)-1],
		"another digest":             "\x03\x04text" + record(3, "TEXT")[6:],
		"the digest of the text":     "\x03\x04text" + summed("text")[4:],
		"the digest of both texts":   "\x03\x04text" + summed("\x03text")[5:],
		"the digest's other bytes":   "\x03\x04text" + summed("\x03\x04text")[7:] + "x",
		"the number before":          record(2, "text"),
		"the number behind":          record(4, "text"),
		"the number nought":          record(0, "text"),
		"the first number":           record(1, "text"),
		"the greatest number":        record(highest, "text"),
		"a number by too many bytes": summed("\x83\x00\x04text"),
		"a number of eleven bytes":   summed("\x83\x80\x80\x80\x80\x80\x80\x80\x80\x80\x00\x04text"),
		"a length by too many bytes": summed("\x03\x84\x00text"),
		"a length beyond the rest":   summed("\x03\x05text"),
		"a length far beyond":        "\x03" + string(binary.AppendUvarint(nil, 1<<31)) + "text",
		"a length of 63 bits":        "\x03" + string(binary.AppendUvarint(nil, 1<<63-1)) + right,
		"a length of 64 bits":        "\x03" + string(binary.AppendUvarint(nil, highest)) + right,
		"a length without end":       "\x03\xff\xff\xff\xff\xff\xff\xff\xff\xff\xff\xff\xff\xff\xff",
		"a byte ahead":               "\x00" + right,
		"another prefix's name":      "f.3" + right,
	}
}

// P11.1: the good part ends ahead of the first record that is wrong; the segment is left with what is ahead, and what is behind is gone.
func TestWrongRecord(t *testing.T) {
	for what, wrong := range wrongRecords() {
		for _, behind := range []string{"", record(3, "right"), record(4, "behind"), "x"} {
			d := diskOf("f.1", run(1, "a", "b")+wrong+behind, "f.2", run(3, "c"), "f.3", run(4, "d"))
			opened(t, what, d, 3, "a", "b")
			samples.Holds(t, what, d, "f.1", run(1, "a", "b"))
			d = diskOf("f.1", run(1, "a", "b"), "f.2", wrong+behind, "f.4", run(3, "c"))
			opened(t, what+" in a segment of its own", d, 3, "a", "b")
			samples.Holds(t, what+" in a segment of its own", d, "f.1", run(1, "a", "b"), "f.2", "")
		}
	}
}

// P11.1: the first record may have any number from 1 on, but the greatest; else nothing is found, and the next record is the first.
func TestFirstNumber(t *testing.T) {
	for _, number := range []uint64{0, highest} {
		for _, files := range [][]string{{"f.1", run(number, "a", "b")}, {"f.1", "", "f.5", run(number, "a"), "f.6", run(number+1, "b")}, {"f.1", run(number, "a") + run(1, "b"), "f.2", run(1, "c")}} {
			d := diskOf(files...)
			l := opened(t, "a wrong first number", d, 1)
			names := d.Names()
			last := names[len(names)-1]
			if b, _ := d.Read(last); len(b) != 0 || last > "f.5" {
				t.Errorf("%q has %q", last, b)
			}
			put(t, l, "new")
			opened(t, "begun anew", d, 2, "new")
		}
	}
	for _, number := range []uint64{1, 2, 3, 127, 128, 300, 1<<32 - 1, 1 << 32, 1 << 63, highest - 2, highest - 1} {
		opened(t, "a right first number", diskOf("f.1", run(number, "a")), number+1, "a")
	}
}

// P11.1: a further record may have the greatest number too, as it is one more.
func TestGreatestNumber(t *testing.T) {
	d := diskOf("f.1", run(highest-2, "a", "b", "c"))
	opened(t, "the greatest number", d, 0, "a", "b", "c")
	d = diskOf("f.1", run(highest-1, "a"))
	l := opened(t, "the greatest but one", d, highest, "a")
	put(t, l, "b", "c", "d")
	opened(t, "what is put behind is found", d, 2, "a", "b", "c", "d")
}

// P11.1: whatever bit is another, the records ahead of it are found, and no other.
func TestEachBit(t *testing.T) {
	texts := []string{"a", "", strings.Repeat("text", 40), "b"}
	first, second := run(5, texts[:2]...), run(7, texts[2:]...)
	ends := []int{len(record(5, texts[0])), len(first), len(first) + len(record(7, texts[2])), len(first) + len(second)}
	all := []byte(first + second)
	for bit := range 8 * len(all) {
		b := []byte(string(all))
		b[bit/8] ^= 1 << (bit % 8)
		d := diskOf("f.1", string(b[:len(first)]), "f.2", string(b[len(first):]))
		good := 0
		for bit/8 >= ends[good] {
			good++
		}
		next, names := uint64(5+good), 2
		if good == 0 {
			next = 1
		}
		if good < 2 {
			names = 1
		}
		opened(t, "bit "+strconv.Itoa(bit), d, next, texts[:good]...)
		if len(d.Names()) != names {
			t.Errorf("bit %d: %q", bit, d.Names())
		}
	}
}

// P11.1: wherever a segment is cut short, its whole records are found, and what is left of another is taken away.
func TestEachCut(t *testing.T) {
	texts := []string{"a", "", strings.Repeat("text", 40), "b"}
	all := run(1, texts...)
	for n := range all {
		d := diskOf("f.1", all[:n])
		good := 0
		for len(run(1, texts[:good+1]...)) <= n {
			good++
		}
		opened(t, "cut to "+strconv.Itoa(n), d, uint64(good+1), texts[:good]...)
		samples.Holds(t, "cut to "+strconv.Itoa(n), d, "f.1", run(1, texts[:good]...))
		if d.Pending() != 0 {
			t.Errorf("cut to %d: %d pending", n, d.Pending())
		}
	}
}

// P11.1: what isn't named as a segment is none, and stays as it is, whatever is mended.
func TestOtherFiles(t *testing.T) {
	others := []string{"f", "f.", "f.0", "f.00", "f.01", "f.007", "f.+3", "f.-3", "f.3x", "f.x3", "f. 3", "f.3 ", "f.3.4", "f..3", "f.0x3", "f.1e3", "f.1_0", "f.\xd9\xa3", "f.\xef\xbc\x93", "f.3\x00", "f.3/", "f.:", "F.3", "ff.3", "e.3", "g.3", "af.3", "f3", "3", ".3", "f.new", "f.tmp1", "f.tm", "g.tmp"}
	var pairs []string
	for _, name := range others {
		pairs = append(pairs, name, run(3, "other"))
	}
	d := diskOf(append(pairs, "f.1", run(1, "a", "b"), "f.5", run(3, "c"))...)
	opened(t, "others", d, 4, "a", "b", "c")
	samples.Holds(t, "others", d, append(pairs, "f.1", run(1, "a", "b"), "f.5", run(3, "c"))...)
	d = diskOf(append(pairs, "f.1", run(1, "a")+"x", "f.5", run(3, "c"))...)
	opened(t, "others, and mended", d, 2, "a")
	samples.Holds(t, "others, and mended", d, append(pairs, "f.1", run(1, "a"))...)
	put(t, opened(t, "others", d, 2, "a"), "b")
	samples.Holds(t, "others, and put", d, append(pairs, "f.1", run(1, "a", "b"))...)
}

// P11.1: what stands where a segment is written anew is no part of the log: it stays where nothing is wrong, and else gives way.
func TestSpareFile(t *testing.T) {
	d := diskOf("f.1", run(1, "a"), "f.tmp", run(2, "b"))
	opened(t, "nothing wrong", d, 2, "a")
	samples.Holds(t, "nothing wrong", d, "f.1", run(1, "a"), "f.tmp", run(2, "b"))
	d = diskOf("f.1", run(1, "a")+"x", "f.tmp", run(2, "b"))
	opened(t, "mended", d, 2, "a")
	samples.Holds(t, "mended", d, "f.1", run(1, "a"))
	opened(t, "alone", diskOf("f.tmp", run(1, "b")), 1)
}

// mending are the things that mending does to a disk with spoilt as its files, in their order.
func mending(d *disk.Disk) []func() {
	sync := d.Sync
	return []func(){
		func() { d.Write("f.tmp", []byte(run(2, "b"))) }, sync,
		func() { d.Rename("f.tmp", "f.2") }, sync,
		func() { d.Delete("f.11") }, sync,
		func() { d.Delete("f.9") }, sync,
		func() { d.Delete("f.3") }, sync,
	}
}

// spoilt are files of which the log f ends within f.2.
func spoilt() []string {
	return []string{"a.1", "other", "f.1", run(1, "a"), "f.11", run(8, "f"), "f.2", run(2, "b") + "wrong", "f.3", run(4, "d"), "f.9", run(5, "e"), "f.tmp", "old", "g.3", "other"}
}

// P11.1: the things that mend come in that order, each with a sync behind it; where the disk goes down among them there is no log.
func TestMendsInOrder(t *testing.T) {
	all := len(mending(nil))
	for n := range all + 3 {
		d, like := diskOf(spoilt()...), diskOf(spoilt()...)
		d.Append("x", []byte("pending"))
		like.Append("x", []byte("pending"))
		d.Fuse(n)
		for _, do := range mending(like)[:min(n, all)] {
			do()
		}
		if n < all {
			refused(t, "the fuse blows", d, "f", api.ErrDown)
		} else {
			opened(t, "the fuse is long enough", d, 3, "a", "b")
		}
		if got, want := samples.State(d), samples.State(like); got != want || d.Down() != (n < all) {
			t.Errorf("%d things: down: %v, %s; want %s", n, d.Down(), got, want)
		}
	}
}

// P11.1: on a disk that is down already nothing can be mended.
func TestMendsNothingDown(t *testing.T) {
	d := diskOf(spoilt()...)
	d.Fuse(0)
	d.Sync()
	before := samples.State(d)
	refused(t, "down", d, "f", api.ErrDown)
	if got := samples.State(d); got != before {
		t.Errorf("it is changed: %s", got)
	}
}

// P11.1: where there is no room to write a segment anew, that is told, and nothing is changed; where there just is, it is mended.
func TestMendsNothingFull(t *testing.T) {
	good, wrong := run(1, "text"), "wrong"
	for _, more := range []int{0, 1, len(good) - 1, len(good), len(good) + 1} {
		d := disk.New(len(good) + len(wrong) + more)
		samples.Told(t, "ahead", api.OK, d.Write("f.1", []byte(good+wrong)))
		before := samples.State(d)
		if more >= len(good) {
			opened(t, "room", d, 2, "text")
			samples.Holds(t, "room", d, "f.1", good)
			continue
		}
		refused(t, "no room", d, "f", api.ErrFull)
		if got := samples.State(d); got != before {
			t.Errorf("%d bytes more: it is changed: %s", more, got)
		}
	}
	d := disk.New(5)
	samples.Told(t, "ahead", api.OK, d.Write("f.1", []byte("wrong")))
	opened(t, "no bytes need no room", d, 1)
	samples.Holds(t, "no bytes need no room", d, "f.1", "")
}
