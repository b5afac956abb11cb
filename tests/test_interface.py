import ast
import contextlib
import io
import pathlib
import unittest

import camps.majority
from camps.majority import fewest, idle, joined, moved, swing, turn, won

PACKAGE = pathlib.Path(camps.majority.__file__).parent

VOTERS = ([], [0], [1], [0, 1], [1, 0, 0], [500] * 7, [4294967295] * 10)
LANDS = ([], [0, 0], [5, 5], [3, 1, 1, 3], [0, 1, 0, 1, 1, 0], [0, 1000] * 7, [1, 2, 3], [1001, 0], [1, 0] * 9)


class Unchangeable(list):
    """A list that fails as soon as anybody changes it, even for a while."""

    def refuse(self, *args, **kwargs):
        raise AssertionError("what was handed in was changed")

    append = clear = extend = insert = pop = remove = reverse = sort = refuse
    __setitem__ = __delitem__ = __iadd__ = __imul__ = refuse


def answers(land, ways=VOTERS):
    camps_named = (0, 1, 2, 4294967295)
    districts_named = ((0, 1), (1, 0), (0, 0), (0, 6), (5, 2), (4294967295, 0))
    return ([won(land), fewest(land), idle(land)] + [turn(k, land) for k in camps_named]
            + [swing(k, land) for k in camps_named] + [joined(i, j, land) for i, j in districts_named]
            + [moved(k, land, voters) for k in camps_named for voters in ways])


class HandedInAndGivenBack(unittest.TestCase):
    def test_what_was_handed_in_is_as_it_was(self):
        for land in LANDS:
            before = list(land)
            ways = [list(voters) for voters in VOTERS]
            answers(land, ways)
            self.assertEqual(land, before)
            self.assertEqual(ways, list(VOTERS))

    def test_what_is_handed_in_is_not_changed_for_a_while(self):
        for land in LANDS:
            ways = [Unchangeable(voters) for voters in VOTERS]
            self.assertEqual(answers(Unchangeable(land), ways), answers(land))

    def test_a_list_of_whole_numbers_is_given_back(self):
        for land in LANDS:
            for answer in answers(land):
                self.assertIs(type(answer), list)
                for number in answer:
                    self.assertIs(type(number), int)

    def test_a_refusal_is_its_number_alone_and_nothing_else_is_below_0(self):
        for land in LANDS:
            for answer in answers(land):
                if answer[0] < 0:
                    self.assertEqual(len(answer), 1)
                else:
                    self.assertGreaterEqual(min(answer), 0)

    def test_nothing_is_kept(self):
        once = [answers(land) for land in LANDS]
        for land in LANDS:
            for answer in answers(land):
                answer.append(99)
                answer[0] = 77
        again = [answers(land) for land in reversed(LANDS)]
        self.assertEqual(once, list(reversed(again)))

    def test_it_prints_nothing(self):
        said = io.StringIO()
        with contextlib.redirect_stdout(said), contextlib.redirect_stderr(said):
            for land in LANDS:
                answers(land)
        self.assertEqual(said.getvalue(), "")


class PackageFiles(unittest.TestCase):
    def test_it_imports_and_reads_nothing(self):
        for path in sorted(PACKAGE.glob("*.py")):
            for node in ast.walk(ast.parse(path.read_text())):
                self.assertNotIsInstance(node, (ast.Import, ast.ImportFrom), path)
                if isinstance(node, ast.Name):
                    self.assertNotIn(node.id, ("print", "input", "open", "eval", "exec", "__import__"), path)

    def test_names_and_arguments_stand_as_told(self):
        self.assertEqual(won(land=[2, 1]), [1, 0, 0])
        self.assertEqual(turn(k=1, land=[2, 1]), [1, 1])
        self.assertEqual(swing(k=1, land=[2, 1]), [1, 1, 0])
        self.assertEqual(fewest(land=[2, 1]), [2, 2])
        self.assertEqual(idle(land=[4, 2]), [1, 2])
        self.assertEqual(joined(i=0, j=1, land=[2, 1, 1, 1]), [1, 0, 0])
        self.assertEqual(moved(k=1, land=[2, 1], voters=[1]), [0, 1, 0])

    def test_no_function_comes_back_to_itself(self):
        calls = {}
        for path in sorted(PACKAGE.glob("*.py")):
            for node in ast.walk(ast.parse(path.read_text())):
                if isinstance(node, ast.FunctionDef):
                    calls[node.name] = {inner.id for inner in ast.walk(node) if isinstance(inner, ast.Name)}
        for name in calls:
            reached = set()
            ahead = [name]
            while ahead:
                for called in calls[ahead.pop()]:
                    if called in calls and called not in reached:
                        reached.add(called)
                        ahead.append(called)
            self.assertNotIn(name, reached)

    def test_size_and_signs(self):
        for path in sorted(PACKAGE.glob("*.py")):
            text = path.read_bytes().decode("ascii")
            rows = text.split("\n")
            self.assertLessEqual(len(rows), 400, path)
            for row in rows:
                self.assertLessEqual(len(row), 120, path)
                self.assertTrue(all(" " <= sign <= "~" for sign in row), row)
            for node in ast.walk(ast.parse(text)):
                if isinstance(node, ast.FunctionDef):
                    self.assertLessEqual(node.end_lineno - node.lineno + 1, 40, node.name)


if __name__ == "__main__":
    unittest.main()
