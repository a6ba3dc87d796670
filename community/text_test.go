package community_test

import (
	"fmt"
	"math"
	"math/rand/v2"
	"strings"
	"testing"

	"routing/api"
	"routing/community"
)

// agreeText fails unless the text of a community is the one that the document promises and is that of no other one.
func agreeText(t *testing.T, c uint32) {
	t.Helper()
	s := community.Text(c)
	if s != printed(c) {
		t.Fatalf("Text(%#x) = %q", c, s)
	}
	if back, e := community.Parse(s); back != c || e != api.OK {
		t.Fatalf("Parse(%q) = %#x, %v", s, back, e)
	}
}

// P18.2, P18.6
func TestText(t *testing.T) {
	for s, c := range map[string]uint32{
		"65000:100": 4259840100, "0:0": 0, "0:1": 1, "0:65535": 65535, "1:0": 65536, "1:1": 65537, "65535:65535": math.MaxUint32, "65534:65535": 0xfffeffff, "32768:0": 1 << 31, "10:20": 655380,
		"graceful-shutdown": api.GracefulShutdown, "no-export": api.NoExport, "no-advertise": api.NoAdvertise, "no-export-confed": api.NoExportConfed,
		"65535:1": 0xffff0001, "65535:65280": 0xffffff00, "65535:65284": 0xffffff04, "65534:0": 0xfffe0000, "65534:65281": 0xfffeff01, "0:65281": 0xff01, "255:65282": 0xffff02,
	} {
		if text := community.Text(c); text != s {
			t.Errorf("Text(%d) = %q instead of %q", c, text, s)
		}
		if back, e := community.Parse(s); back != c || e != api.OK {
			t.Errorf("Parse(%q) = %d, %v", s, back, e)
		}
	}
	if c, _ := community.Parse("65000:100"); c != 65000*65536+100 {
		t.Error("the example", c)
	}
	r := rand.New(rand.NewPCG(18, 2))
	for range 20000 {
		agreeText(t, anyCommunity(r))
	}
	for i := range uint32(1 << 16) {
		agreeText(t, 0xffff0000+i)
		agreeText(t, i<<16)
	}
}

// P18.2: texts of no community.
func TestParseErrors(t *testing.T) {
	for _, s := range []string{
		"", ":", "1", "1:", ":1", "0", "100", "4259840100", "65535:0", "65535:65281", "65535:65282", "65535:65283", "01:1", "1:01", "00:0", "0:00", "00:00", "65000:0100",
		"65536:1", "1:65536", "65536:65536", "65537:0", "70000:1", "1:70000", "4294967296:0", "0:4294967296", "4294967297:1", "1:4294967297", "18446744073709551617:1", "1:18446744073709551617", strings.Repeat("9", 1000) + ":1", "1:" + strings.Repeat("9", 1000),
		"-1:2", "1:-2", "+1:2", "1:+2", "-1:-1", "-0:0", "1:2:3", "1::2", ":1:2", "1:2:", "::", " 1:2", "1:2 ", "1 :2", "1: 2", "1:2\n", "\n1:2", "1\n:2", "1:2\x00", "1.2", "1;2", "1-2", "1,2", "0x1:2", "1:0x2", "1e1:1", "1_0:1", "1.0:1", "*:1", "1:*", "a:1", "1:a", "é:1", "٣:1", "1:\xff",
		"no", "no-", "no-exports", "no-expor", "no-export ", " no-export", "No-export", "NO-EXPORT", "NoExport", "no_export", "no export", "no-export:", "no-export:1", ":no-export", "no-export-", "no-export-conf", "no-export-confeds", "no-advertis", "noadvertise", "graceful", "graceful-", "graceful_shutdown", "graceful-shutdown\n", "internet", "local-as", "no-peer", "blackhole",
	} {
		if c, e := community.Parse(s); c != 0 || e != api.ErrSyntax {
			t.Errorf("Parse(%q) = %d, %v", s, c, e)
		}
	}
}

// P18.2, P18.6: all texts of few signs.
func TestAllTexts(t *testing.T) {
	found := 0
	longest := []string{""}
	for range 6 {
		var texts []string
		for _, s := range longest {
			for _, sign := range "016:-n " {
				texts = append(texts, s+string(sign))
			}
		}
		for _, s := range texts {
			var high, low int
			n, err := fmt.Sscanf(s, "%d:%d", &high, &low)
			valid := n == 2 && err == nil && high >= 0 && high < 65536 && low >= 0 && low < 65536 && fmt.Sprintf("%d:%d", high, low) == s
			c, e := community.Parse(s)
			if valid && (e != api.OK || c != uint32(65536*high+low)) || !valid && (e != api.ErrSyntax || c != 0) {
				t.Fatalf("Parse(%q) = %d, %v", s, c, e)
			}
			if valid {
				found++
			}
		}
		longest = texts
	}
	if found < 200 {
		t.Error("only", found, "texts")
	}
}

// P18.2, P18.6
func TestChangedTexts(t *testing.T) {
	r := rand.New(rand.NewPCG(18, 6))
	for range 50000 {
		s := community.Text(anyCommunity(r))
		at := r.IntN(len(s) + 1)
		s = s[:at] + string("0123456789:- ne"[r.IntN(15)]) + s[min(at+r.IntN(2), len(s)):]
		if c, e := community.Parse(s); e == api.OK && printed(c) != s || e != api.OK && (e != api.ErrSyntax || c != 0) {
			t.Fatalf("Parse(%q) = %d, %v", s, c, e)
		}
	}
}
