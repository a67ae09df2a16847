package tests

import (
	"slices"

	"loop.example/g00325/impl"
)

// plainTags is the document's rule; of lists that are right only, as are the next two.
func plainTags(list []impl.Item, name string) []int {
	var tags []int
	for _, i := range plainOrder(list, 0) {
		if list[i].Kind == 2 && list[i].Name == name {
			tags = append(tags, i)
		}
	}
	return tags
}

// plainWay goes by Kids, from the first item on, until it comes to item i.
func plainWay(list []impl.Item, i int) []int {
	var way []int
	var find func(at int) bool
	find = func(at int) bool {
		way = append(way, at)
		if at == i || slices.ContainsFunc(list[at].Kids, find) {
			return true
		}
		way = way[:len(way)-1]
		return false
	}
	find(0)
	return way
}

func plainInner(list []impl.Item, i int) string {
	all := ""
	if list[i].Kind == 3 {
		all = list[i].Text
	}
	for _, k := range list[i].Kids {
		all += plainInner(list, k)
	}
	return all
}

// plainBare is the document's rule, of any list.
func plainBare(list []impl.Item) []string {
	names := map[string]int{}
	for _, it := range list {
		if it.Kind == 2 {
			names[it.Name]++
		}
	}
	var all []string
	for name := range names {
		at := 0
		for at < len(all) && all[at] < name {
			at++
		}
		all = slices.Insert(all, at, name)
	}
	return all
}

// plainSound is the document's rule, from what is about to what is in it; of lists that are right only.
func plainSound(list []impl.Item) bool {
	whole := map[string]string{"tbody": "table", "tr": "tbody", "td": "tr", "th": "tr"}
	htmls, others := 0, 0
	for i, it := range list {
		void := it.Kind == 2 && it.Space == 0 && plainIs("Void", it.Name)
		paragraph := it.Kind == 2 && it.Space == 0 && it.Name == "p"
		if void && len(it.Kids) > 0 {
			return false
		}
		for _, k := range it.Kids {
			kid := list[k]
			switch {
			case i == 0 && kid.Kind == 2 && kid.Name == "html":
				htmls++
			case i == 0 && kid.Kind == 2:
				others++
			}
			about, part := whole[kid.Name]
			switch {
			case kid.Kind != 2 || kid.Space != 0:
			case paragraph && plainIs("Block", kid.Name):
				return false
			case part && (it.Kind != 2 || it.Name != about):
				return false
			}
		}
	}
	return htmls == 1 && others == 0
}
