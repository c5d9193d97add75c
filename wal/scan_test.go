package wal_test

import (
	"bytes"
	"math/rand"
	"slices"
	"strings"
	"testing"

	"packtrain/api"
	"packtrain/wal"
)

// checkScan looks at all results of Scan.
func checkScan(t *testing.T, b []byte, records []string, whole int, e api.Errno) {
	t.Helper()
	s, n, got := wal.Scan(b)
	if !slices.Equal(s, records) || n != whole || got != e {
		t.Fatalf("Scan of %d bytes: %d records, %d, %d; not %d, %d, %d", len(b), len(s), n, got, len(records), whole, e)
	}
}

// The chapter's examples.
func TestScanExamples(t *testing.T) {
	checkScan(t, append(framed("a"), 0, 0), []string{"a"}, 9, api.OK)
	for i := 4; i < 9; i++ {
		b := framed("a")
		b[i]++
		checkScan(t, b, nil, 0, api.ErrBad)
	}
}

// P5.1: ordinary bytes, and those that end in the middle of a frame.
func TestScan(t *testing.T) {
	for _, records := range [][]string{nil, {""}, {"a"}, {"", ""}, {"a", "bc", "", "def"}, {"x", strings.Repeat("y", 300), "z"}, {"a", "a"}} {
		all := framed(records...)
		for n := range len(all) + 1 {
			complete, whole := 0, 0
			for complete < len(records) && whole+8+len(records[complete]) <= n {
				whole += 8 + len(records[complete])
				complete++
			}
			checkScan(t, all[:n], records[:complete], whole, api.OK)
			checkScan(t, append(bytes.Clone(all[:whole]), 0, 0), records[:complete], whole, api.OK)
		}
	}
}

// P5.1: a bad frame, before which all records are returned, and after which
// none is.
func TestScanOfBadFrame(t *testing.T) {
	before := framed("a", "bc")
	for _, bad := range []string{"\x00\x00\x00\x01a\x00\x68\x00\x64", "\x00\x10\x00\x01", "\xff\xff\xff\xff\x00", "\x00\x00\x00\x00\x00\x00\x00\x00"} {
		checkScan(t, []byte(bad), nil, 0, api.ErrBad)
		b := append(bytes.Clone(before), bad...)
		checkScan(t, b, []string{"a", "bc"}, len(before), api.ErrBad)
		checkScan(t, append(b, framed("d")...), []string{"a", "bc"}, len(before), api.ErrBad)
	}
}

// P5.1: frames that do not end are not bad, whatever is in them.
func TestScanOfFrameWithoutEnd(t *testing.T) {
	for _, rest := range []string{"\x00", "\x00\x10\x00", "\x00\x10\x00\x00", "\x00\x00\x00\x09\x01", "\x00\x00\x00\x01a\x00\x68\x01", "\xff\xff\xff"} {
		checkScan(t, []byte(rest), nil, 0, api.OK)
		checkScan(t, append(framed("a", ""), rest...), []string{"a", ""}, 17, api.OK)
	}
}

// P5.1: pieces of the greatest length.
func TestScanOfLongest(t *testing.T) {
	p := strings.Repeat("x", api.MaxPiece)
	b := framed(p, "a", p)
	checkScan(t, b, []string{p, "a", p}, len(b), api.OK)
	checkScan(t, b[:len(b)-1], []string{p, "a"}, api.MaxPiece+17, api.OK)
	checkScan(t, framed(p+"x"), nil, 0, api.ErrBad)
}

// P5.1: bytes in which something was changed are scanned as the chapter says.
func TestScanOfAnything(t *testing.T) {
	random := rand.New(rand.NewSource(1))
	met := map[api.Errno]int{}
	for range 30000 {
		var b []byte
		for range random.Intn(4) {
			b = append(b, framed(strings.Repeat("x", random.Intn(4)))...)
		}
		for range random.Intn(3) {
			if len(b) > 0 {
				b[random.Intn(len(b))] = byte(random.Intn(3))
			}
		}
		b = b[:random.Intn(len(b)+1)]
		records, whole, e := scanned(b)
		checkScan(t, b, records, whole, e)
		if len(records) > 0 && whole < len(b) {
			met[e]++
		}
	}
	if met[api.OK] < 500 || met[api.ErrBad] < 500 {
		t.Errorf("after records: %v", met)
	}
}

// Rule 3: what is scanned is neither changed nor kept.
func TestScanKeepsNothing(t *testing.T) {
	b := append(framed("a", "bc"), 0)
	before := bytes.Clone(b)
	room := append(bytes.Clone(b[:9]), b[9:]...)
	s, _, _ := wal.Scan(b)
	if !bytes.Equal(b, before) {
		t.Error("the argument was changed")
	}
	clear(b)
	if !slices.Equal(s, []string{"a", "bc"}) {
		t.Errorf("the records became %q", s)
	}
	checkScan(t, room[:9], []string{"a"}, 9, api.OK) // another frame is in the spare capacity
}
