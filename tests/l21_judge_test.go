package tests

import (
	"fmt"
	"runtime"
	"strings"
	"sync"
	"testing"
	"testing/synctest"
	"time"

	"loop.example/g00325/impl"
)

// Pages of which one judge says no: notHeard have an `a` within an `a`, which is heard as one beside it, so that it is not the tree that it was;
// notSound has MaxOpen open where its tr is put, so that the td stands in the tbody.
const notHeard = "<a><p></a><a><p>"

var notSound = strings.Repeat("<div>", 37) + "<table><td>"

// judgedOf holds all five against the document's rule, and against what is promised where never MaxOpen are open at once.
func judgedOf(t *testing.T, s string) verdict {
	t.Helper()
	told, want := judgedAs(s), plainJudged(s)
	if told != want {
		t.Fatalf("of %s is judged %+v, want %+v", shortText(s), told, want)
	}
	if all := impl.JudgeAll(s); all != (told == allTrue) {
		t.Fatalf("JudgeAll(%s) = %v, of each is judged %+v", shortText(s), all, told)
	}
	if words := impl.Scan(s); len(words) < 400 && plainMostOpen(words) <= impl.MaxOpen && !(told.back && told.sound && told.words) {
		t.Fatalf("of %s is judged %+v, and never are MaxOpen open", shortText(s), told)
	}
	return told
}

func checkJudged(t *testing.T, s string, want verdict) {
	t.Helper()
	if told := judgedOf(t, s); told != want {
		t.Errorf("of %s is judged %+v, want %+v", shortText(s), told, want)
	}
}

// but is what is judged where just that one says no.
func but(judge string) verdict {
	return verdict{back: judge != "back", sound: judge != "sound", words: judge != "words", said: judge != "said"}
}

// ordinaryPages are such as are turned and of which all is true.
func ordinaryPages() []string {
	return []string{
		"", " \r\n\t", "x", "a < b & c &amp; d", "]]>", "&#13;", "é😀\ufeff", "<", "<p", "</p>", "<>",
		// Tags that are left open, or stand where they may not.
		"<p>a<br>b", "<p>a<p>b", "<ul><li>a<li>b<ul><li>c", "<div><p>a<div>b", "<h1>a<h2>b", "x</p>y</div></q>", "<html a=1><body b=2>x<html c=3><body d=4>", "<br></br>",
		// Attributes and names that are not strict.
		"<p x:y=1 1=a \"=b xmlns=c k=v K=w>", "<p x:y=1 xu00003ay=2 xU00003ay=3>a", "<x:y>a</x:y><P>b</p>", "<q k='\t\n\"<>&amp;&#13;&#12;'>", "<p =a ==b>",
		// Notes and kinds.
		"<!--n-->", "<!--a--b--><p>x<!-->y<!---c--->", "<!a><?b></3>", "<!doctype html>x<!doctype k>y", "<!doctype", "<!--",
		// Other spaces.
		"<svg><g/>x</svg>y", "<math><mi>a<mo k:l=1>b", "<svg><p>a<math/>b<svg/>c", "<svg><br>a</br><a><a><title>b<c></title></svg>", "<p><svg xmlns=a><script>x<b>y</svg></p>",
		// Tables.
		"<table>x<td>y", "<table><tr><th>a<td>b<tr><td>c<table><td>d</table>e</table>f", "<td>x<tr>y", "<table><b>x<td>y</b>z</table>w", "<table> <tbody> <tr> </table>", "<p>a<table>b<p>c",
		// Formats that cross each other.
		"<b>a<i>b</b>c</i>d", "<p><b>a<p>b</b>c", "<b><b><b>a<p>b", "<a>1<a>2<b>3</a>4", "<i><div>a</i>b</div>c",
		// Texts that are taken as they are.
		"<script>1<2&amp;</script>x", "<style>]]></style><style>a", "<title>a&amp;<b></title>", "<p><textarea><b>&lt;</textarea>x<script><!--", "<script/>a<b>c</script>d",
	}
}

func TestJudgedByHand(t *testing.T) {
	for _, page := range ordinaryPages() {
		checkJudged(t, page, allTrue)
		if told := plainJudgedThrough(page); told != allTrue {
			t.Errorf("of %s the rules of all chapters have %+v", shortText(page), told)
		}
	}
	// Pages that are not heard as they were: no MaxOpen are open, but what is said is not promised.
	for _, page := range []string{
		notHeard, "x<a k><p>a</a>b<a>c<p>d", "<b k><div></b></div><b><b><b><b>a</b></b></b></b>y", "<b k><q><b><b><b><b>a</q>y", "<script/>a&#13;b", "<!--n--><style/>\x00&#13;",
		strings.Repeat("<div>", 13) + notHeard, notHeard + "<svg>x", "<title>t</title>" + notHeard,
	} {
		checkJudged(t, page, but("said"))
		if told := plainJudgedThrough(page); told != but("said") {
			t.Errorf("of %s the rules of all chapters have %+v", shortText(page), told)
		}
		if most := plainMostOpen(impl.Scan(page)); most > impl.MaxOpen {
			t.Errorf("of %s %d are open", shortText(page), most)
		}
	}
	// Pages that are not sound: MaxOpen are open where a part is put, which so isn't the whole of the next one.
	for _, page := range []string{
		notSound, notSound[len("<div>"):], notSound + "x<tr><td>y</table>z", strings.Repeat("<div>", 37) + "<table><tr><td>", strings.Repeat("<q>", 36) + "<table><tbody><tr><th>x", strings.Repeat("<ul><li>", 18) + "<table><tr><td>", "<!--n--><title>t</title>" + notSound,
	} {
		checkJudged(t, page, but("sound"))
		if told := plainJudgedThrough(page); told != but("sound") {
			t.Errorf("of %s the rules of all chapters have %+v", shortText(page), told)
		}
		if most := plainMostOpen(impl.Scan(page)); most <= impl.MaxOpen {
			t.Errorf("of %s no more than %d are open", shortText(page), most-1)
		}
	}
}

// TestPagesThatAreNotTurned: where Turn tells another code nothing is judged, though the tree that there is may be neither sound
// nor heard as it was, and the text, which is empty, is not read.
func TestPagesThatAreNotTurned(t *testing.T) {
	t.Parallel()
	if impl.JudgeSound(notSound) || impl.JudgeSaid(notHeard) {
		t.Fatal("the pages to begin with are judged otherwise")
	}
	blanks := func(long int) string { return strings.Repeat("\r\n", long/2) }
	for what, c := range map[string]struct {
		how  int
		grow func(page string) string
	}{
		"long":         {impl.CvLong, func(page string) string { return page + blanks(20002-len(page)) }},
		"long by much": {impl.CvLong, func(page string) string { return page + blanks(30000) }},
		"room":         {impl.CvRoom, func(page string) string { return page + "<br>" + strings.Repeat("<br>", 2999) }},
		"xml": {impl.CvXml, func(page string) string {
			return "<p><q" + strings.Repeat("\"", 17000) + ">x</q></p>" + page + "x<br>y"
		}},
		"xml, by values": {impl.CvXml, func(page string) string { return againOpened(14) + "</b></p>" + page }},
	} {
		for judge, page := range map[string]string{"sound": notSound, "said": notHeard, "": "<p>x"} {
			page = c.grow(page)
			checkJudged(t, page, allTrue)
			list := impl.Html(page)
			if _, how := impl.Turn(page); how != c.how {
				t.Errorf("%s, %s: Turn tells %d", what, judge, how)
			}
			if judge == "sound" && impl.Sound(list) {
				t.Errorf("%s: it is sound", what)
			}
			// What is written in so many bytes says more than a page may have.
			said := impl.PageText(list)
			if letGo := !impl.Sayable(list) || impl.Deep(list) > 20 || len(said) > impl.MaxPage; judge == "said" && letGo != (c.how == impl.CvXml) {
				t.Errorf("%s: it says %d bytes", what, len(said))
			}
			if judge == "said" && impl.SameTree(impl.Html(said), list) {
				t.Errorf("%s: it is heard as it was", what)
			}
		}
	}
	for _, page := range []string{strings.Repeat("<!>", 3000), strings.Repeat("<!>", 2998), strings.Repeat("x", 20001), strings.Repeat("\xff", 20001), strings.Repeat("<div>", 20000), strings.Repeat("<table><a>\xff", 20000), againOpened(998)} {
		checkJudged(t, page, allTrue)
	}
	// Just as much as may be is judged.
	for more := range 3 {
		page := notHeard + strings.Repeat("\r\n", 9000) + strings.Repeat("\r", 20000-18000-len(notHeard)+more)
		want := allTrue
		if more == 0 {
			want = but("said")
		}
		checkJudged(t, page, want)
		page = notSound + strings.Repeat("x", 20000-len(notSound)+more)
		if more == 0 {
			want = but("sound")
		}
		checkJudged(t, page, want)
		page = notHeard + "x" + strings.Repeat("<br>", 2999-len(impl.Html(notHeard+"x"))+more)
		if more == 0 {
			want = but("said")
		}
		checkJudged(t, page, want)
	}
}

// TestJudgedUpToMaxXml has a page that is just so long when it is written, and longer by one byte.
func TestJudgedUpToMaxXml(t *testing.T) {
	page := "<p><i k='" + strings.Repeat("\"", 950) + "'>" + strings.Repeat("<svg/><p>", 32) + "</i></p>" + notSound
	text, how := impl.Turn(page + "x")
	room := impl.MaxXml - len(text) + 1
	if how != impl.CvDone || room+len(page) > impl.MaxPage {
		t.Fatalf("Turn tells %d, and has room for %d", how, room)
	}
	checkJudged(t, page+strings.Repeat("x", room), but("sound"))
	checkJudged(t, page+strings.Repeat("x", room+1), allTrue)
}

// TestWordsUpToMaxDeep: each `a` takes the one ahead out of what is open, so that it is deeper than as many as are open.
func TestWordsUpToMaxDeep(t *testing.T) {
	t.Parallel()
	deeps := map[int]bool{}
	for many := range 42 {
		for _, behind := range []string{"x", "<q>x", "<p>x<b>y<p>z", "<svg><g>x"} {
			page := strings.Repeat("<a><div>", many) + behind
			told := judgedOf(t, page)
			list := impl.Html(page)
			deep, words, texts := impl.Deep(list), impl.WordsOf(impl.DocOf(list)), impl.TextsOf(list)
			deeps[deep] = true
			if !told.words || !told.back || !told.sound || words != texts != (deep > impl.MaxDeep+1) {
				t.Errorf("of what is %d deep is judged %+v, WordsOf are %q, TextsOf %q", deep, told, words, texts)
			}
		}
	}
	for _, deep := range []int{impl.MaxDeep - 3, impl.MaxDeep - 2, impl.MaxDeep - 1, impl.MaxDeep, impl.MaxDeep + 1, impl.MaxDeep + 2, impl.MaxDeep + 3} {
		if !deeps[deep] {
			t.Errorf("no page is %d deep", deep)
		}
	}
}

// TestSaidUpToItsLimits: what is not heard as it was is let go where it is none of those that are judged.
func TestSaidUpToItsLimits(t *testing.T) {
	for many := range 30 {
		page := strings.Repeat("<div>", many) + notHeard
		want := but("said")
		if deep := impl.Deep(impl.Html(page)); deep > 20 {
			want = allTrue
		} else if deep != many+6 {
			t.Errorf("of %d divs it is %d deep", many, deep)
		}
		checkJudged(t, page, want)
	}
	for more := -1; more <= 2; more++ {
		for _, piece := range []string{"x", "& ", "&lt;", "é"} {
			page := notHeard + piece
			room := impl.MaxPage - len(impl.PageText(impl.Html(page)))
			page += strings.Repeat("x", room+more)
			if said := len(impl.PageText(impl.Html(page))); said != impl.MaxPage+more {
				t.Errorf("it says %d bytes", said)
			}
			want := but("said")
			if more > 0 {
				want = allTrue
			}
			checkJudged(t, page, want)
		}
	}
	for _, page := range []string{
		"<table></table>" + notHeard, notHeard + "<table>", notHeard + "<TABLE >", "<svg><table></table></svg>" + notHeard, notHeard + "<svg><table>", notHeard + "<math><table>", notHeard + "<svg><g><table/></svg>", "<table/>" + notHeard, "<a><table><a>",
		// What is not Sayable.
		"<script/>a<!--n--></script>" + notHeard, "<title/>a<!>b</title>" + notHeard, "<script/>&lt;/script></script>" + notHeard, "<script/>a&#13;<!>", "<title/><!doctype k><!--n--></title>x" + notHeard, "<style/>a&lt;/STYLE b</style>" + notHeard,
	} {
		list := impl.Html(page)
		if impl.Sayable(list) && len(impl.Tags(list, "table")) == 0 || impl.SameTree(impl.Html(impl.PageText(list)), list) || impl.Deep(list) > 20 {
			t.Errorf("%s says %s, and would not be let go for that alone", page, impl.PageText(list))
		}
		checkJudged(t, page, allTrue)
	}
	// What has no tag of that name is judged.
	for _, page := range []string{notHeard + "<q table=1>", notHeard + "table", notHeard + "</table>", notHeard + "<tables>", "<!--table--><!doctype table>" + notHeard, notHeard + "<td>x<tr>", "<svg><title>x</title></svg>" + notHeard} {
		checkJudged(t, page, but("said"))
	}
}

// TestJudgedUpToMaxOpen: html, body, the divs, table, tbody, tr and td want to be open. Where there is room for none but the table, or the
// tbody, too, the td comes where it may not.
func TestJudgedUpToMaxOpen(t *testing.T) {
	t.Parallel()
	for many := range 60 {
		divs := strings.Repeat("<div>", many)
		for _, behind := range []string{"<table><td>x<br>", "<table><tr><td>x</table>y<p><ul>", "<table><tbody><tr><th>"} {
			want := allTrue
			if many == 36 || many == 37 {
				want = but("sound")
			}
			checkJudged(t, divs+behind, want)
		}
		for _, behind := range []string{"", "x", "</p><p>x<br><div>y<p><hr>z", "<b>x<p>y</b>z", "<svg><g>x", "<table>x", "<!--n--><li>x<li>y"} {
			checkJudged(t, divs+behind, allTrue)
		}
	}
	for page, most := range map[string]int{
		strings.Repeat("<div>", 37) + "x": impl.MaxOpen - 1, strings.Repeat("<div>", 38) + "x": impl.MaxOpen, strings.Repeat("<div>", 33) + "<table><td>x": impl.MaxOpen - 1, strings.Repeat("<div>", 34) + "<table><td>x": impl.MaxOpen,
	} {
		checkJudged(t, page, allTrue)
		if got := plainMostOpen(impl.Scan(page)) - 1; got != most {
			t.Errorf("of %s %d are open, want %d", shortText(page), got, most)
		}
	}
}

func TestJudgedThroughAllChapters(t *testing.T) {
	pieces := []string{"<p>", "x", "<table>", "<td>", "</table>", "<b k='&#13;\n\"'>", "</b>", "<svg>", "</svg>", "<title>", "</title>", " ", "<!--a--b-->", "<body a:b>", "<html xmlns=1>", "<li>", "<a>", "</a>", "</p>", "<!doctype k>", "\x00", "<x:y>", "&lt;", "<div>", "<script/>"}
	mild := []string{"<p>", "<a>", "</a>", "x", "<b>", "</b>", "<div>", "</div>", "<svg/>", "<!>"}
	all, said := 0, 0
	for seed := range 240 {
		page := longPage(pieces, seed/6, seed)
		if seed%2 == 1 {
			page = longPage(mild, seed/12, seed)
		}
		told := judgedOf(t, page)
		if want := plainJudgedThrough(page); told != want {
			t.Errorf("of %s is judged %+v, want %+v", shortText(page), told, want)
		}
		if told.said {
			said++
		}
		all++
	}
	if said < all/2 || said == all {
		t.Errorf("of %d pages %d are heard as they were", all, said)
	}
}

func TestPagesJudged(t *testing.T) {
	for _, c := range []struct {
		what   string
		ahead  string
		long   int
		pieces []string
	}{
		{"tables", "<table>", 3, []string{"<table>", "</table>", "<tr>", "<td>", "</td>", "x", " ", "<b>", "<p>", "<!doctype k>", "<!--n-->"}},
		{"deep tables", strings.Repeat("<div>", 34), 3, []string{"<table>", "</table>", "<tr>", "<td>", "x", "<div>", "<b>"}},
		{"spaces", "<svg>", 3, []string{"<svg>", "</svg>", "<g:h>", "</g:h>", "<math/>", "<p>", "x", "<table>", "<title>"}},
		{"formats", "", 4, []string{"<b>", "</b>", "<a:=1>", "<p>", "<a>", "x", "</a>"}},
		{"links", "<a>", 4, []string{"<a>", "</a>", "<div>", "</div>", "<a k>", "<q>"}},
		{"heads", "", 3, []string{"<title>", "</title>", "<script/>", "</script>", "<meta>", "x", "&#13;", "<body>", "<html xmlns=1>", "<html x:y=2>", "<head>"}},
		{"bytes", "<p", 3, []string{"<", ">", "/", "p", " ", "\xff", "&#1;", "=", "'", "\x00", ":", "!"}},
		{"signs", "x", 3, []string{"\xe2", "\x82", "\xac", "\x00", "\ufeff", "\xf0\x9f", "<", "]", ">", "&"}},
	} {
		t.Run(c.what, func(t *testing.T) {
			t.Parallel()
			eachText(c.pieces, c.long, func(s string) { judgedOf(t, c.ahead+s) })
		})
	}
	t.Run("long pages", func(t *testing.T) {
		t.Parallel()
		var all []string
		for _, word := range everyWord() {
			all = append(all, impl.Spell(wordsOf(word)))
		}
		all = append(all, "&#13;", "\r", "\xff", "<?", "</", ">", "<!", "&lt;", "<x:y a:b=\x01 xmlns>", "<!doctype k>", "\x00", "]]>")
		for seed := range 150 {
			judgedOf(t, longPage(all, 1+seed%70, seed))
			judgedOf(t, strings.Repeat("<div>", seed%45)+longPage([]string{"<table>", "<tr>", "<td>", "x", "<a>", "<b>", "</table>", "<li>"}, seed%40, seed))
		}
	})
}

// TestJudgedWithOtherBytes: a page is cut at each byte, and each is taken away, doubled, and put another one in its place.
func TestJudgedWithOtherBytes(t *testing.T) {
	t.Parallel()
	others := []string{"\x00", "\r", "\x80", "\xed\xa0\x80", "\xff", "<", ">", "&", "\"", "=", "/", "-", " ", ":"}
	for _, page := range []string{
		"<!--a--b--><!doctype k><p x:y='1' é=\"&amp;\">a<b>é&lt;<p>c</b>d]]>", "<title>a&#13;</title><svg a><g/>x</svg><math>😀<td>y", "<table>x<tr><td k=v><script>1<2</script><br/>\r\n", "x" + notHeard + "y",
	} {
		for at := range len(page) {
			cut := page[:at]
			for _, s := range []string{cut, page[at:], cut + page[at+1:], page[:at+1] + page[at:]} {
				judgedOf(t, s)
			}
			for _, other := range others {
				judgedOf(t, cut+other+page[at+1:])
			}
		}
	}
}

// pagesToJudge are pages of which each verdict and each code is told.
func pagesToJudge() []string {
	return append(pagesToTurn(), notHeard, notSound, strings.Repeat("<a><div>", 35)+"x", "<table><tr><td>x")
}

// TestJudgedAtOnceAndAgain: whatever is counted, it is not counted from one call to another.
func TestJudgedAtOnceAndAgain(t *testing.T) {
	pages := pagesToJudge()
	var want []verdict
	for _, page := range pages {
		want = append(want, judgedOf(t, page))
	}
	check := func(k int) {
		if told, all := judgedAs(pages[k]), impl.JudgeAll(pages[k]); told != want[k] || all != (want[k] == allTrue) {
			t.Errorf("of %s is judged %+v, %v, want %+v", shortText(pages[k]), told, all, want[k])
		}
	}
	var places sync.WaitGroup
	for place := range 8 {
		places.Go(func() {
			for round := range 2 * len(pages) {
				check((place*3 + round*5) % len(pages))
			}
		})
	}
	places.Wait()
	for k, page := range pages {
		t.Run(fmt.Sprint(k), func(t *testing.T) {
			t.Parallel()
			if len(page) > 5000 {
				check(k)
				return
			}
			for range 100 {
				check(k)
			}
		})
	}
}

// TestNothingIsJudgedOn: what runs within a judge has come to its end when it tells.
func TestNothingIsJudgedOn(t *testing.T) {
	for _, page := range pagesToJudge() {
		// What still waited for something when all else has ended would be told as a fault.
		synctest.Test(t, func(t *testing.T) { judgedOf(t, page) })
	}
	before := runtime.NumGoroutine()
	for range 100 {
		impl.JudgeAll(notHeard)
		impl.JudgeAll("<p>x")
		impl.JudgeSound(strings.Repeat("x", 20001))
	}
	// One that is done is still counted for a moment.
	for wait := 0; runtime.NumGoroutine() > before; wait++ {
		if wait == 1000 {
			t.Fatalf("there were %d goroutines, there are %d", before, runtime.NumGoroutine())
		}
		time.Sleep(time.Millisecond)
	}
}
