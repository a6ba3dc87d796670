package prefix_test

import (
	"fmt"
	"strings"
	"testing"

	"routing/api"
	"routing/prefix"
)

func dotted(a api.Addr) string {
	return fmt.Sprintf("%d.%d.%d.%d", uint8(a>>24), uint8(a>>16), uint8(a>>8), uint8(a))
}

// badAddrs are texts that are not the text of an address.
func badAddrs() []string {
	l := []string{
		"", ".", "...", "1", "1.2", "1.2.3", "1.2.3.4.5", "1.2.3.4.", ".1.2.3.4", "1..2.3", ".2.3.4", "1.2.3.", "1.2..3.4",
		" 1.2.3.4", "1.2.3.4 ", "1.2 .3.4", "1.2.3.4\n", "1.2.3.4\x00", "1,2,3,4", "1.2.3,4", "a.b.c.d", "1.2.3.a", "0x1.2.3.4", "1_0.2.3.4",
		"1e1.2.3.4", "\xb1.2.3.4", "\uff11.2.3.4", "1\uff0e2.3.4", "1.2.3.4/32", "1.2.3.4/", "/", "1:2:3:4", "1/2.3.4",
	}
	for _, bad := range []string{
		"", "256", "257", "260", "300", "999", "1000", "0256", "00", "000", "01", "010", "001", "-1", "-0", "+1", "+", "-", "/", ":", "4294967296",
		"4294967297", "18446744073709551616", "18446744073709551617", strings.Repeat("9", 1000), "1" + strings.Repeat("0", 64), "0" + strings.Repeat("0", 100),
	} {
		l = append(l, bad+".2.3.4", "1."+bad+".3.4", "1.2."+bad+".4", "1.2.3."+bad)
	}
	return l
}

// P2.8
func TestAddr(t *testing.T) {
	for a, want := range map[api.Addr]string{
		0: "0.0.0.0", 1: "0.0.0.1", 0x0a010203: "10.1.2.3", 0x01020304: "1.2.3.4", 0xc0a80064: "192.168.0.100", 0x80000000: "128.0.0.0", 0xffffffff: "255.255.255.255",
	} {
		if got := prefix.Addr(a); got != want {
			t.Errorf("Addr(%x) = %q, want %q", a, got, want)
		}
		if got, e := prefix.ParseAddr(want); got != a || e != api.OK {
			t.Errorf("ParseAddr(%q) = %x, %v", want, got, e)
		}
	}
	for _, a := range addrs() {
		if got := prefix.Addr(a); got != dotted(a) {
			t.Errorf("Addr(%x) = %q", a, got)
		}
	}
}

// P2.8
func TestParseAddr(t *testing.T) {
	for n := range 256 {
		for i := range 4 {
			a := api.Addr(n) << (8 * i)
			if got, e := prefix.ParseAddr(dotted(a)); got != a || e != api.OK {
				t.Errorf("ParseAddr(%q) = %x, %v", dotted(a), got, e)
			}
		}
	}
	for _, s := range badAddrs() {
		if a, e := prefix.ParseAddr(s); a != 0 || e != api.ErrSyntax {
			t.Errorf("ParseAddr(%q) = %x, %v", s, a, e)
		}
	}
}

// P2.9
func TestText(t *testing.T) {
	if s := prefix.Text(pre(0x0a010200, 23)); s != "10.1.2.0/23" {
		t.Error("Text of 10.1.2.0/23", s)
	}
	for _, p := range validPrefixes() {
		if got, want := prefix.Text(p), fmt.Sprintf("%s/%d", dotted(p.Addr), p.Len); got != want {
			t.Errorf("Text(%v) = %q, want %q", p, got, want)
		}
	}
	for _, p := range invalidPrefixes() {
		if got := prefix.Text(p); got != "" {
			t.Errorf("Text(%v) = %q", p, got)
		}
	}
}

// P2.9
func TestParse(t *testing.T) {
	for s, want := range map[string]api.Prefix{
		"0.0.0.0/0": pre(0, 0), "10.0.0.0/8": pre(0x0a000000, 8), "10.1.2.0/23": pre(0x0a010200, 23), "0.0.0.0/32": pre(0, 32),
		"128.0.0.0/1": pre(0x80000000, 1), "255.255.255.255/32": pre(0xffffffff, 32), "255.255.255.254/31": pre(0xfffffffe, 31),
	} {
		if p, e := prefix.Parse(s); p != want || e != api.OK {
			t.Errorf("Parse(%q) = %v, %v, want %v", s, p, e, want)
		}
	}
}

// P2.9
func TestParseOfInvalidPrefix(t *testing.T) {
	for _, s := range []string{"10.0.0.1/8", "0.0.0.1/0", "128.0.0.0/0", "10.1.2.1/23", "10.1.3.0/23", "0.0.0.1/31"} {
		if p, e := prefix.Parse(s); p != (api.Prefix{}) || e != api.ErrInvalid {
			t.Errorf("Parse(%q) = %v, %v", s, p, e)
		}
	}
	for n := range 32 {
		s := fmt.Sprintf("255.255.255.255/%d", n)
		if p, e := prefix.Parse(s); p != (api.Prefix{}) || e != api.ErrInvalid {
			t.Errorf("Parse(%q) = %v, %v", s, p, e)
		}
	}
}

// P2.9: also for an address that does not fit the length, since ErrSyntax is named first.
func TestParseOfBadText(t *testing.T) {
	l := []string{
		"", "/", "10.0.0.0", "10.0.0.0/", "/8", "10.0.0.0/8/", "10.0.0.0/8/8", "10.0.0.0//8", "/10.0.0.0/8", "10.0.0.0 8", "10.0.0.0\\8", "8/10.0.0.0",
	}
	for _, n := range []string{
		"33", "34", "39", "99", "100", "132", "255", "256", "264", "00", "08", "032", "000", "-1", "-0", "+8", "-8", " 8", "8 ", "8\n", "a", "8a", "0x8", "1e1", "8.0", "8.",
		"4294967304", "18446744073709551624", strings.Repeat("1", 500), "\uff18", "\xb8",
	} {
		l = append(l, "10.0.0.0/"+n, "10.0.0.1/"+n, "0.0.0.0/"+n)
	}
	for _, a := range badAddrs() {
		l = append(l, a+"/32", a+"/0", a+"/33")
	}
	for _, s := range l {
		if p, e := prefix.Parse(s); p != (api.Prefix{}) || e != api.ErrSyntax {
			t.Errorf("Parse(%q) = %v, %v", s, p, e)
		}
	}
}

// P2.13
func TestParseAndTextAreInverse(t *testing.T) {
	for _, p := range validPrefixes() {
		if got, e := prefix.Parse(prefix.Text(p)); got != p || e != api.OK {
			t.Errorf("Parse(%q) = %v, %v, want %v", prefix.Text(p), got, e, p)
		}
	}
	for _, a := range []string{"0", "00", "1", "10", "010", "128", "255", "256", "+1", ""} {
		for _, b := range []string{"0", "1", "192", "254", "01"} {
			for _, n := range []string{"0", "1", "8", "08", "16", "31", "32", "33", "+8", "", " 8"} {
				s := a + "." + b + "." + b + "." + a + "/" + n
				if p, e := prefix.Parse(s); e == api.OK && prefix.Text(p) != s {
					t.Errorf("the text of Parse(%q) is %q", s, prefix.Text(p))
				}
			}
		}
	}
}
