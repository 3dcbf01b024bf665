package host

import (
	"fmt"
	"math/big"
	"strings"
	"testing"
)

// P10.2: Number.
func TestNumber(t *testing.T) {
	for _, c := range []struct {
		s    string
		want uint32
	}{
		{"0x1.0x2", 16777218},
		{"1", 1},
		{"1.", 1},
		{"0", 0},
		{"00", 0},
		{"000", 0},
		{"0x", 0},
		{"0X", 0},
		{"0x.", 0},
		{"0x0", 0},
		{"0.0", 0},
		{"0x.0X", 0},
		{"7", 7},
		{"07", 7},
		{"8", 8},
		{"9", 9},
		{"10", 10},
		{"010", 8},
		{"0x10", 16},
		{"0X10", 16},
		{"0xff", 255},
		{"0XFF", 255},
		{"0xfF", 255},
		{"0xAbCdEf", 0xabcdef},
		{"0XabCDef09", 0xabcdef09},
		{"1.2", 16777218},
		{"1.2.", 16777218},
		{"1.2.3", 16908291},
		{"1.2.3.", 16908291},
		{"1.2.3.4", 16909060},
		{"1.2.3.4.", 16909060},
		{"01.02.03.04", 16909060},
		{"0x1.02.3.0X4", 16909060},
		{"0x00000000000000000001", 1},
		{"00000000000000000000000001", 1},
		{"255.255.255.255", 4294967295},
		{"0xff.0377.255.0XFF", 4294967295},
		{"4294967295", 4294967295},
		{"037777777777", 4294967295},
		{"0xffffffff", 4294967295},
		{"127.1", 2130706433},
		{"1.0.256", 16777472},
		{"1.256", 16777472},
		{"1.65536", 16842752},
	} {
		checkNumber(t, c.s, c.want, true)
	}
}

// P10.2: what Number refuses: too many parts, empty ones, and those that are no
// numbers.
func TestNumberRefuses(t *testing.T) {
	for _, s := range []string{
		"", ".", "..", "...", ".1", ".1.", "1..", "1..2", "..1", "1...", "1.2.3..", "1.2.3.4..", "1..3.4", "1.2..4", ".2.3.4",
		"1.2.3.4.5", "1.2.3.4.5.", "0.0.0.0.0", "1.2.3.4.0x", "1.2.3.4.a", "1.2.3.4.5.6",
		"a", "f", "ff", "x", "0xg", "0x1g", "0Xg", "0x0x1", "00x1", "x1", "08", "09", "018", "0a", "1a", "a1", "1f", "0f", "07f",
		"a.1", "1.a", "1.2.3.a", "a.2.3.4", "0x1g.1", "1.0x1g", "08.1", "1.08", "1.2.08", "1.2.3.09", "1.2.3.0xg",
		"-1", "+1", "-0", "1_0", "0x_1", "0_1", "0b1", "0o7", "1e1", "1.e", "0x1p1", " 1", "1 ", "1\n", "0x 1", "0x1 ", "1\x00", "1. 2", "%31", "1%2e2", "١", "1２",
		"0x-1", "0x+1", "0-1", "0.-1", "1,2",
	} {
		checkNumber(t, s, 0, false)
	}
}

// inBases is a number in each of the three bases, with and without zeros ahead.
func inBases(n *big.Int) []string {
	return []string{
		fmt.Sprintf("%d", n),
		fmt.Sprintf("0%o", n), fmt.Sprintf("0000000000000000000000000%o", n),
		fmt.Sprintf("0x%x", n), fmt.Sprintf("0X%X", n), fmt.Sprintf("0x0000000000000000000000000%x", n),
	}
}

// below is n less d.
func below(n *big.Int, d int64) *big.Int { return new(big.Int).Sub(n, big.NewInt(d)) }

// P10.2: the last part of one to four, one below what it may not reach and there.
func TestNumberLastPart(t *testing.T) {
	for n := 1; n <= 4; n++ {
		ahead, sum := "", uint32(0)
		for i := range n - 1 {
			ahead += fmt.Sprint(i+1) + "."
			sum += uint32(i+1) << (24 - 8*i)
		}
		limit := power(5 - n)
		for _, behind := range []string{"", "."} {
			for d := range int64(3) {
				for _, s := range inBases(below(limit, d)) {
					if d == 0 {
						checkNumber(t, ahead+s+behind, 0, false)
					} else {
						checkNumber(t, ahead+s+behind, sum+uint32(below(limit, d).Uint64()), true)
					}
				}
			}
			for _, s := range inBases(below(limit, -1)) {
				checkNumber(t, ahead+s+behind, 0, false)
			}
		}
	}
}

// P10.2: another part than the last one, at 255 and 256 and far above.
func TestNumberOtherParts(t *testing.T) {
	for n := 2; n <= 4; n++ {
		for at := range n - 1 {
			l := strings.Split("0.0.0.0", ".")[:n]
			for _, big := range []*big.Int{big.NewInt(254), big.NewInt(255)} {
				for _, l[at] = range inBases(big) {
					checkNumber(t, strings.Join(l, "."), uint32(big.Uint64())<<(24-8*at), true)
				}
			}
			for _, big := range []*big.Int{
				big.NewInt(256), big.NewInt(257), big.NewInt(511), big.NewInt(65536), below(power(4), 1), power(4), below(power(4), -1), power(8), below(power(8), -1),
			} {
				for _, l[at] = range inBases(big) {
					checkNumber(t, strings.Join(l, "."), 0, false)
				}
			}
		}
	}
}

// P10.2: numbers that no integer holds, and that would be small ones if they
// wrapped round.
func TestNumberTooLong(t *testing.T) {
	for _, n := range []int{4, 8, 9, 16, 17, 64, 1000} {
		for d := range int64(3) {
			for _, s := range inBases(below(power(n), -d)) {
				for _, ahead := range []string{"", "0.", "0.0.", "0.0.0."} {
					checkNumber(t, ahead+s, 0, false)
				}
				checkNumber(t, s+".0", 0, false)
			}
		}
	}
	for n := range 200 {
		s := "1" + strings.Repeat("0", n)
		for _, s := range []string{s, "0" + s, "0x" + s} {
			want, ok := isNumber(s)
			checkNumber(t, s, want, ok)
		}
	}
}

// P10.2: each byte as a part, and at each place of a number of each base.
func TestNumberBytes(t *testing.T) {
	for i := range 256 {
		c := single(byte(i))
		for _, s := range []string{
			c, c + "1", "1" + c, "0" + c, "0" + c + "1", "01" + c, "0x" + c, "0X" + c, "0x1" + c, "0x" + c + "1", "0x" + c + c, c + "x1", "1." + c, c + ".1", "1." + c + ".3.4", "1" + c + "2" + c + "3" + c + "4",
		} {
			want, ok := isNumber(s)
			checkNumber(t, s, want, ok)
		}
		_, isTens := Number(c)
		if want := i >= 48 && i <= 57; isTens != want {
			t.Errorf("that Number takes %q is %v", c, isTens)
		}
		_, isEight := Number("00" + c)
		if want := i >= 48 && i <= 55 || i == '.'; isEight != want {
			t.Errorf("that Number takes %q is %v", "00"+c, isEight)
		}
		_, isHex := Number("0x" + c)
		if want := i >= 48 && i <= 57 || i >= 65 && i <= 70 || i >= 97 && i <= 102 || i == '.'; isHex != want {
			t.Errorf("that Number takes %q is %v", "0x"+c, isHex)
		}
	}
}
