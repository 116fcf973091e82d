package snaps_test

import (
	"encoding/binary"
	"strconv"
	"strings"
	"testing"

	"consistory/api"
	"consistory/disk"
	"consistory/samples"
	"consistory/snaps"
)

// P12.2: where there is no file of that name there is no snap, whatever else there is.
func TestLoadOfNothing(t *testing.T) {
	d := diskOf("s.new", snap("new"), "s.tmp", snap("tmp"), "ss", snap("ss"), "S", snap("S"), "s.", snap("s."))
	for _, name := range []string{"s", "a", "z", "sss", strings.Repeat("s", longest), "new"} {
		refused(t, "others", d, name, api.ErrNone)
		refused(t, "an empty disk", disk.New(most), name, api.ErrNone)
		refused(t, "no room", disk.New(0), name, api.ErrNone)
	}
	save(t, d, "s", "text")
	loaded(t, "saved", d, "s", "text")
	samples.Told(t, "delete", api.OK, d.Delete("s"))
	refused(t, "deleted", d, "s", api.ErrNone)
}

// P12.2: a snap that nobody saved, but is right, is one.
func TestLoadOfBytes(t *testing.T) {
	for _, n := range []int{0, 1, 2, 127, 128, 16383, 16384, greatest - 1, greatest} {
		text := strings.Repeat("x", n)
		loaded(t, strconv.Itoa(n), diskOf("s", snap(text)), "s", text)
	}
	loaded(t, "a snap of a snap", diskOf("s", snap(snap("text"))), "s", snap("text"))
}

// lengthOf is text with its length ahead, in more bytes than there must be.
func lengthOf(text string) string {
	b := binary.AppendUvarint(nil, uint64(len(text)))
	b[len(b)-1] |= 128
	return string(append(b, 0)) + text
}

// wrongSnaps are files' bytes that are no snap, by what is wrong.
func wrongSnaps() map[string]string {
	right := snap("text")
	told := right[:len(right)-8]
	sum := right[len(right)-8:]
	other := snap("more")
	return map[string]string{
		"no byte":                     "",
		"text alone":                  "text",
		"no digest":                   told,
		"a digest alone":              sum,
		"a digest of the text alone":  told + summed("text")[4:],
		"a digest of nothing":         told + summed("")[:8],
		"another one's digest":        told + other[len(other)-8:],
		"another one's text":          other[:len(other)-8] + sum,
		"a digest ahead":              sum + told,
		"a digest turned about":       told + sum[4:] + sum[:4],
		"a byte behind":               right + "\x00",
		"many bytes behind":           right + strings.Repeat("x", 3000),
		"two of them":                 right + right,
		"another one behind":          snap("") + right,
		"a byte behind, summed":       summed(told + "\x00"),
		"a longer text, summed":       summed("\x04texts"),
		"a shorter text, summed":      summed("\x04tex"),
		"a length alone, summed":      summed("\x80"),
		"no length, summed":           summed(""),
		"a long length, summed":       summed(lengthOf("text")),
		"a long length of 0, summed":  summed(lengthOf("")),
		"a great length, summed":      summed("\xff\xff\xff\xff\xff\xff\xff\xff\xff\x01text"),
		"a length of 65 bits, summed": summed("\xff\xff\xff\xff\xff\xff\xff\xff\xff\x02text"),
		"a text that is too great":    snap(strings.Repeat("x", greatest+1)),
		"one that is far too great":   snap(strings.Repeat("x", most/2)),
		"a record of a log":           summed("\x01\x04text"),
		"noughts":                     strings.Repeat("\x00", 12),
		"noughts for a digest":        told + strings.Repeat("\x00", 8),
		"ones":                        strings.Repeat("\xff", 12),
	}
}

// P12.2: what is no snap isn't loaded, whatever is wrong with it, and stays as it is.
func TestLoadOfWrong(t *testing.T) {
	for what, b := range wrongSnaps() {
		d := diskOf("s", b, "s.new", snap("new"))
		stays(t, what, d, api.ErrForm, func() api.Errno { refused(t, what, d, "s", api.ErrForm); return api.ErrForm })
	}
}

// P12.2: a snap of which any bit is another, or that is cut anywhere, is none.
func TestLoadOfSpoilt(t *testing.T) {
	for _, text := range []string{"", "t", "text", strings.Repeat("x", 126), strings.Repeat("long", 100)} {
		right := snap(text)
		for i := range len(right) {
			refused(t, "cut at "+strconv.Itoa(i), diskOf("s", right[:i]), "s", api.ErrForm)
			refused(t, "from "+strconv.Itoa(i+1), diskOf("s", right[i+1:]), "s", api.ErrForm)
			for bit := range 8 {
				b := []byte(right)
				b[i] ^= 1 << bit
				refused(t, "bit "+strconv.Itoa(bit)+" of "+strconv.Itoa(i), diskOf("s", string(b)), "s", api.ErrForm)
			}
		}
		loaded(t, "right", diskOf("s", right), "s", text)
	}
}

// P12.2: loading changes nothing: what is pending stays so, no fuse blows, and the disk may be down.
func TestLoadDoesNothing(t *testing.T) {
	d := diskOf("s", snap("text"), "wrong", "wrong")
	samples.Told(t, "pending", api.OK, d.Write("s", []byte(snap("pending"))), d.Write("x", nil))
	d.Fuse(0)
	all := func() api.Errno {
		loaded(t, "pending", d, "s", "pending")
		refused(t, "none", d, "none", api.ErrNone)
		refused(t, "wrong", d, "wrong", api.ErrForm)
		refused(t, "no name", d, "", api.ErrArg)
		return api.OK
	}
	stays(t, "a fuse that has run out", d, api.OK, all, all)
	if d.Down() {
		t.Error("it is down")
	}
	d.Sync()
	if !d.Down() {
		t.Error("it isn't down")
	}
	stays(t, "down", d, api.OK, all, all)
	d.Crash(samples.Keeping(0))
	loaded(t, "behind a crash", d, "s", "text")
}

// P12.2: of two snaps each has its own text, and saving one leaves the other.
func TestTwoSnaps(t *testing.T) {
	d := disk.New(most)
	names := []string{"s", "ss", "new", "snew"}
	for i := range 20 {
		name := names[i%len(names)]
		save(t, d, name, name+strconv.Itoa(i))
		for j := range min(i+1, len(names)) {
			k := i - j
			loaded(t, "each", d, names[k%len(names)], names[k%len(names)]+strconv.Itoa(k))
		}
	}
	if e := snaps.Save(d, "wrong.name", nil); e != api.ErrArg || len(d.Names()) != len(names) {
		t.Error(e, d.Names())
	}
}
