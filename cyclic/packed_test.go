package cyclic_test

import (
	"encoding/binary"
	"hash/crc32"
	"math/rand/v2"
	"strconv"
	"strings"
	"testing"

	"cyclic/cyclic"
)

func mustWrite(t *testing.T, text string) string {
	t.Helper()
	packed, errno := cyclic.Write(text)
	if packed == "" || errno != cyclic.OK {
		t.Fatalf("P5: Write(%q) = %q, %d", text, packed, errno)
	}
	return packed
}

func checkNoTable(t *testing.T, packed string) {
	t.Helper()
	if text, errno := cyclic.Read(packed); text != "" || errno != cyclic.ErrTable {
		t.Errorf("P7: Read(%q) = %q, %d, want ErrTable", packed, text, errno)
	}
}

// checkOnlyWritten lets Read take what Write answers for the text that Read
// then tells, and nothing else. It answers whether Read took it.
func checkOnlyWritten(t *testing.T, packed string) bool {
	t.Helper()
	text, errno := cyclic.Read(packed)
	if errno != cyclic.OK {
		checkNoTable(t, packed)
		return false
	}
	if again, errno := cyclic.Write(text); again != packed || errno != cyclic.OK {
		t.Errorf("P7: Read(%q) = %q, but of that Write answers %q, %d", packed, text, again, errno)
	}
	return true
}

// turned turns the bits of the pattern, its bit 0 at the bit number first of
// all bytes' bits.
func turned(packed string, first int, pattern uint32) string {
	bytes := []byte(packed)
	for i := range 32 {
		if pattern>>i&1 == 1 {
			at := first + i
			bytes[at/8] ^= 1 << (at % 8)
		}
	}
	return string(bytes)
}

func checkTurned(t *testing.T, packed string, first int, pattern uint32) {
	t.Helper()
	if text, errno := cyclic.Read(turned(packed, first, pattern)); text != "" || errno != cyclic.ErrTable {
		t.Fatalf("P7: %q with the bits %b turned from bit %d on: %q, %d", packed, pattern, first, text, errno)
	}
}

func someTables() []string {
	return []string{
		framed(1, 1, ""), framed(1, 1, "a0:1"), framed(60, 60, "a0:60"), framed(6, 2, "a0:1", "b0:2", "a0:1,b0:1"),
		framed(26, 26, "a0:1,b0:1,c0:1,d0:1,e0:1,f0:1,g0:1,h0:1,i0:1,j0:1"), framed(60, 1, make([]string, 60)...), longestTable(),
	}
}

// Every row of few bits, everywhere; of each longer one the shapes that stand
// out, and some others.
func TestTurnedBits(t *testing.T) {
	m := newMaker()
	for _, text := range someTables() {
		packed := mustWrite(t, text)
		bits := 8 * len(packed)
		for first := range bits {
			for pattern := uint32(1); pattern < 1<<min(8, bits-first); pattern++ {
				checkTurned(t, packed, first, pattern)
			}
			for length := 2; length <= min(32, bits-first); length++ {
				ends := uint32(1) | 1<<(length-1)
				whole := uint32(1)<<(length-1) | (1<<(length-1) - 1)
				for _, pattern := range []uint32{ends, whole, ends | m.Uint32()&whole, ends | m.Uint32()&whole} {
					checkTurned(t, packed, first, pattern)
				}
			}
		}
	}
}

func TestTurnedBitsOfManyTables(t *testing.T) {
	m := newMaker()
	for range 2000 {
		packed := mustWrite(t, makeTable(m))
		for range 100 {
			first := m.IntN(8*len(packed) - 31)
			checkTurned(t, packed, first, max(1, m.Uint32()))
		}
	}
}

// rowOf tells over how many bits in a row two packed tables of the same length
// differ.
func rowOf(one, other string) int {
	first, last := -1, -1
	for i := range 8 * len(one) {
		if (one[i/8]^other[i/8])>>(i%8)&1 == 1 {
			last = i
			if first < 0 {
				first = i
			}
		}
	}
	return last - first + 1
}

// checkFarApart: what turned bits make of one packed table must not be another
// one. Here each table is held against each other one.
func checkFarApart(t *testing.T, texts []string) {
	t.Helper()
	var all []string
	for _, text := range texts {
		all = append(all, mustWrite(t, text))
	}
	pairs := 0
	for i, one := range all {
		for _, other := range all[:i] {
			if len(one) != len(other) || one == other {
				continue
			}
			pairs++
			if row := rowOf(one, other); row <= 32 {
				t.Fatalf("P7: turning some of %d bits makes %q of %q", row, one, other)
			}
		}
	}
	if pairs < 10000 {
		t.Errorf("only %d pairs of tables have the same length: they are too poor", pairs)
	}
}

func TestPackedTablesAreFarApart(t *testing.T) {
	var single, behind []string
	for letter := 'a'; letter <= 'z'; letter += 5 {
		for budget := range 60 {
			last := string(letter) + "0:" + strconv.Itoa(budget+1)
			single = append(single, framed(60, 60, last))
			behind = append(behind, framed(60, 30, "b0:1,c0:1", "c0:1,c1:1,"+string(letter)+"0:"+strconv.Itoa(budget%28+1)))
		}
	}
	checkFarApart(t, single)
	checkFarApart(t, behind)
	m := newMaker()
	var made []string
	for range 2000 {
		made = append(made, makeTable(m))
	}
	checkFarApart(t, made)
}

func TestCutAndDoubled(t *testing.T) {
	for _, text := range someTables() {
		packed := mustWrite(t, text)
		for i := range packed {
			for _, other := range []string{
				packed[:i], packed[i+1:], packed[:i] + packed[i+1:], packed + packed[i:], packed[i:] + packed,
				packed[:i] + "\x00" + packed[i:], packed[:i] + "\xff" + packed[i:],
			} {
				checkNoTable(t, other)
			}
		}
		for _, behind := range []string{"\x00", "\n", ";", "\x00\x00\x00\x00", "\xff\xff\xff\xff", strings.Repeat("\x00", 1<<16)} {
			checkNoTable(t, packed+behind)
			checkNoTable(t, behind+packed)
		}
		checkNoTable(t, text)
	}
}

func TestReadOfAnyBytes(t *testing.T) {
	m := newMaker()
	for c := range 256 {
		for length := range 20 {
			checkNoTable(t, strings.Repeat(string([]byte{byte(c)}), length))
		}
	}
	for range 20000 {
		checkOnlyWritten(t, makeBytes(m))
	}
	for _, text := range makeTexts(2000) {
		checkNoTable(t, text)
	}
}

// sealed puts the sum behind a body that Write did not make: so what stands
// there is asked, and not only the sum.
func sealed(body string) string {
	return string(binary.LittleEndian.AppendUint32([]byte(body), crc32.ChecksumIEEE([]byte(body))))
}

func TestSealed(t *testing.T) {
	for _, text := range someTables() {
		packed := mustWrite(t, text)
		if sealed(packed[:len(packed)-4]) != packed {
			t.Errorf("the sum of %q is not the one that these tests put there", packed)
		}
	}
}

func TestSealedBodies(t *testing.T) {
	for _, body := range []string{
		"\x01\x01\x00", "\x01\x01\x01a\x00\x01", "\x04\x02\x02a\x00\x01b\x00\x01\x01b\x00\x01",
	} {
		if !checkOnlyWritten(t, sealed(body)) {
			t.Errorf("P6: Read(%q) is refused", sealed(body))
		}
	}
	for _, body := range []string{
		"", "\x01", "\x01\x01", "\x00\x00", "\x00\x00\x00", "\x00\x01", "\x01\x00", "\x01\x00\x00", "\x3d\x3d\x00", "\xff\xff\x00",
		"\x01\x01\x00\x00", "\x04\x03\x00", "\x04\x02\x00", "\x04\x02\x00\x00\x00",
		"\x01\x01\x01", "\x01\x01\x01a", "\x01\x01\x01a\x00", "\x01\x01\x01a\x00\x01\x00", "\x01\x01\x00a\x00\x01", "\x01\x01\xffa\x00\x01",
		"\x01\x01\x01a\x01\x01", "\x01\x01\x01a\x00\x00", "\x01\x01\x01a\x00\x02", "\x01\x01\x01a\xff\x01", "\x01\x01\x01a\x00\xff",
		"\x01\x01\x01A\x00\x01", "\x01\x01\x01`\x00\x01", "\x01\x01\x01{\x00\x01", "\x01\x01\x01\x00\x00\x01", "\x01\x01\x01\xff\x00\x01",
		"\x02\x02\x02a\x00\x01a\x00\x01", "\x03\x03\x03a\x00\x01a\x01\x01a\x00\x01",
		strings.Repeat("\x00", 242), "\x3c\x01" + strings.Repeat("\x00", 240), "\x3c\x01" + strings.Repeat("\x00", 61),
	} {
		checkNoTable(t, sealed(body))
	}
}

// Each byte of a body changed, with the sum that belongs to it: some are other
// tables, the rest are none.
func TestChangedBodies(t *testing.T) {
	taken := 0
	for _, text := range someTables() {
		packed := mustWrite(t, text)
		body := packed[:len(packed)-4]
		for i := range body {
			checkOnlyWritten(t, sealed(body[:i]+body[i+1:]))
			for c := range 256 {
				put := string([]byte{byte(c)})
				for _, other := range []string{body[:i] + put + body[i+1:], body[:i] + put + body[i:]} {
					if checkOnlyWritten(t, sealed(other)) && other != body {
						taken++
					}
				}
			}
		}
	}
	if taken < 500 {
		t.Errorf("only %d of the changed bodies are tables: they are too poor", taken)
	}
}

func makeBody(m *rand.Rand) string {
	cycle := 1 + m.IntN(8)
	frame := 1 + m.IntN(cycle)
	body := []byte{byte(cycle), byte(frame)}
	for range cycle / frame {
		count := m.IntN(3)
		body = append(body, byte(count))
		for range count {
			body = append(body, byte('a'+m.IntN(2)), byte(m.IntN(2)), byte(1+m.IntN(2)))
		}
	}
	return string(body)
}

func TestMadeBodies(t *testing.T) {
	m := newMaker()
	taken := 0
	for range 20000 {
		if checkOnlyWritten(t, sealed(makeBody(m))) {
			taken++
		}
	}
	if taken < 1000 || taken > 19000 {
		t.Errorf("%d of the made bodies are tables: they are too poor", taken)
	}
}

// Whoever unpacks gets each text back: no two texts share their bytes.
func TestEachTextHasItsBytes(t *testing.T) {
	m := newMaker()
	texts := map[string]string{}
	for range 20000 {
		text := makeTable(m)
		packed := mustWrite(t, text)
		if first, known := texts[packed]; known && first != text {
			t.Fatalf("P6: %q and %q are packed into the same %q", first, text, packed)
		}
		texts[packed] = text
	}
}
